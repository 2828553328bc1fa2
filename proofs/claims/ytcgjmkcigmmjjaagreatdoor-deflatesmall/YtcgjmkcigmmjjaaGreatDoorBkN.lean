/-
  DeflateSmall's walk.
-/
import Derived.Test.YtcgjmkcigmmjjaaGreatDoorBkM

namespace Go.Proofs.YtcgjmkcigmmjjaaGreatDoor
set_option linter.unusedVariables false
set_option maxRecDepth 100000
theorem csum_congr {A B L : List Int} : ∀ n, (∀ k, k < n → A.getD k 0 = B.getD k 0) → csum A L n = csum B L n
  | 0, _ => rfl
  | n + 1, h => by
    unfold csum
    rw [csum_congr n (fun k hk => h k (by omega)), h n (by omega)]

theorem csum_upd (f : Nat → Int) (L : List Int) (N x : Nat) (hx : x < N) : ∀ n, n ≤ N → csum (rowOf (upd f x (f x + 1)) N) L n = csum (rowOf f N) L n + (if x < n then L.getD x 0 else 0)
  | 0, _ => by simp [csum]
  | n + 1, hn => by
    unfold csum
    rw [csum_upd f L N x hx n (by omega), rowOf_getD _ _ _ (by omega), rowOf_getD _ _ _ (by omega)]
    unfold upd
    by_cases e : n = x
    · subst e
      rw [if_pos rfl, if_neg (by omega), if_pos (by omega), Int.add_mul, Int.one_mul]
      omega
    · rw [if_neg e]
      by_cases h : x < n
      · rw [if_pos h, if_pos (by omega)]; omega
      · rw [if_neg h, if_neg (by omega)]; omega

/-- The lengths of the codes of some symbols. -/
def syB (L : List Int) (S : List Nat) : Int := (S.map fun s => L.getD s 0).sum

theorem csum_cnt (L : List Int) (N : Nat) : ∀ S : List Nat, (∀ s ∈ S, s < N) → csum (rowOf (fun k => (S.count k : Int)) N) L N = syB L S
  | [], _ => by
    have h0 : ∀ n, n ≤ N → csum (rowOf (fun k => (([] : List Nat).count k : Int)) N) L n = 0 := by
      intro n
      induction n with
      | zero => intro _; rfl
      | succ n ih =>
        intro h
        unfold csum
        rw [ih (by omega), rowOf_getD _ _ _ (by omega)]
        simp
    rw [h0 N (Nat.le_refl _)]
    rfl
  | s :: S, h => by
    have e : (fun k => ((s :: S).count k : Int)) = upd (fun k => (S.count k : Int)) s ((S.count s : Int) + 1) := by
      funext k
      unfold upd
      by_cases e : k = s
      · subst e; simp
      · have e2 : ¬ s = k := fun h => e h.symm
        simp [e, e2]
    rw [e, csum_upd (fun k => (S.count k : Int)) L N s (h s (by simp)) N (Nat.le_refl _), if_pos (h s (by simp)), csum_cnt L N S (fun x hx => h x (by simp [hx]))]
    unfold syB
    rw [List.map_cons, List.sum_cons]
    omega

theorem LA_cnt (ts : List Tk) : LA ts = rowOf (fun k => ((256 :: ts.map sL).count k : Int)) 286 := by
  unfold LA
  congr 1
  funext k
  unfold lcf upd cL
  by_cases e : k = 256
  · subst e; simp
  · have e2 : ¬ 256 = k := fun h => e h.symm
    simp [e, e2]

theorem kF_of {L D : List Int} {ts : List Tk} (hL : ∀ i, 0 ≤ L.getD i 0) (hD : ∀ i, 0 ≤ D.getD i 0) (hts : ∀ x ∈ ts, tkIn x) : csum (LA ts) L 286 + csum (DA ts) D 30 + (mB ts : Int) = (pcL (tksP L D ts) : Int) + L.getD 256 0 := by
  rw [LA_cnt, csum_cnt L 286 _ (fun s hs => by
    rcases List.mem_cons.1 hs with h | h
    · omega
    · obtain ⟨t, ht, rfl⟩ := List.mem_map.1 h
      exact tkIn_sL (hts t ht))]
  have e2 : DA ts = rowOf (fun k => ((dL ts).count k : Int)) 30 := rfl
  rw [e2, csum_cnt D 30 _ (fun s hs => by
    unfold dL at hs
    obtain ⟨t, ht, rfl⟩ := List.mem_map.1 hs
    obtain ⟨h1, h2⟩ := List.mem_filter.1 ht
    have := hts t h1
    unfold tkIn at this
    have h3 : ¬ t.n = 0 := by simpa using h2
    exact dsS_lt t.d (by omega) (by omega))]
  have e3 : syB L (256 :: ts.map sL) = L.getD 256 0 + syB L (ts.map sL) := by unfold syB; rw [List.map_cons, List.sum_cons]
  rw [e3]
  have key : syB L (ts.map sL) + syB D (dL ts) + (mB ts : Int) = (pcL (tksP L D ts) : Int) := by
    clear hts e2 e3
    induction ts with
    | nil => rfl
    | cons t ts ih =>
      have hp : pcL (tksP L D (t :: ts)) = pcL (tkP L D t) + pcL (tksP L D ts) := by unfold tksP; rw [List.flatMap_cons, pcL_append]
      have hs : syB L ((t :: ts).map sL) = L.getD (sL t) 0 + syB L (ts.map sL) := by unfold syB; rw [List.map_cons, List.map_cons, List.sum_cons]
      have hm : mB (t :: ts) = mT t + mB ts := by unfold mB; rw [List.map_cons, List.sum_cons]
      rw [hp, hs, hm]
      by_cases hn : t.n = 0
      · have hd : dL (t :: ts) = dL ts := by simp [dL, hn]
        have ep : pcL (tkP L D t) = (L.getD t.c 0).toNat + (0 + 0) := by unfold tkP; rw [if_pos hn]; rfl
        have es : sL t = t.c := by unfold sL; rw [if_pos hn]
        have em : mT t = 0 := by unfold mT; rw [if_pos hn]
        rw [hd, ep, es, em]
        have := hL t.c
        omega
      · have hd : syB D (dL (t :: ts)) = D.getD (dsS t.d) 0 + syB D (dL ts) := by
          have : dL (t :: ts) = dsS t.d :: dL ts := by simp [dL, hn]
          rw [this]
          unfold syB
          rw [List.map_cons, List.sum_cons]
        have ep : pcL (tkP L D t) = (L.getD (lnS t.n) 0).toNat + (lnB t.n + ((D.getD (dsS t.d) 0).toNat + (dsB t.d + 0))) := by unfold tkP; rw [if_neg hn]; rfl
        have es : sL t = lnS t.n := by unfold sL; rw [if_neg hn]
        have em : mT t = lnB t.n + dsB t.d := by unfold mT; rw [if_neg hn]
        rw [hd, ep, es, em]
        have := hL (lnS t.n)
        have := hD (dsS t.d)
        omega
  omega

theorem kH_of {C : List Int} {xs : List Sp} (hC : ∀ i, 0 ≤ C.getD i 0) (hx : ∀ x ∈ xs, x.s < 19) : csum (SA xs) C 19 + (spB xs : Int) = (pcL (spsP C xs) : Int) := by
  have e : SA xs = rowOf (fun k => ((xs.map (·.s)).count k : Int)) 19 := rfl
  rw [e, csum_cnt C 19 _ (fun s hs => by
    obtain ⟨t, ht, rfl⟩ := List.mem_map.1 hs
    exact hx t ht)]
  clear e hx
  induction xs with
  | nil => rfl
  | cons x xs ih =>
    have hp : pcL (spsP C (x :: xs)) = pcL (spP C x) + pcL (spsP C xs) := by unfold spsP; rw [List.flatMap_cons, pcL_append]
    have ep : pcL (spP C x) = (C.getD x.s 0).toNat + (x.b + 0) := rfl
    have hs : syB C ((x :: xs).map (·.s)) = C.getD x.s 0 + syB C (xs.map (·.s)) := by unfold syB; rw [List.map_cons, List.map_cons, List.sum_cons]
    have hm : spB (x :: xs) = x.b + spB xs := by unfold spB; rw [List.map_cons, List.sum_cons]
    rw [hp, ep, hs, hm]
    have := hC x.s
    omega

/-- However it is laid, it is no longer than by the fixed codes. -/
theorem Sm.le_fix {P B : List Nat} (h : Sm P B) (hP : ∀ x ∈ P, x < 256) (hn : P.length ≤ 16000) : B.length ≤ (pcL (tksP FL FD (toks P (bl P.length) 0)) + 17) / 8 := by
  obtain ⟨D1, D2, D3, a, d, k, xs, hOw, rfl⟩ := h
  obtain ⟨hts, htl⟩ := toks_in P (bl P.length) hP
  obtain ⟨ts, hte⟩ : ∃ ts, toks P (bl P.length) 0 = ts := ⟨_, rfl⟩
  unfold smPs
  rw [hte] at hOw hts ⊢
  have hst : (outB (stPs P)).length = stS P.length := by
    obtain ⟨h1, h2, h3⟩ := stPs_one P (by omega)
    rw [outB_len, h2]
    omega
  have h256 : FL.getD 256 0 = 7 := by decide +kernel
  have hF : kF ts = (pcL (tksP FL FD ts) : Int) + 7 := by
    unfold kF
    rw [kF_of (fun i => (FL_bd i).1) (fun i => (FD0_bd i).1) hts, tksP_0 hts, h256]
  have hlay : (outB (layPs ts P D1 D2 D3 a d k xs)).length ≤ (pcL (tksP FL FD ts) + 17) / 8 := by
    rw [outB_len]
    unfold layPs
    split
    · have e : pcL (fixPs ts) = 1 + (2 + pcL (tksP FL FD ts ++ [cdP FL 256, (0, 0)])) := rfl
      have e2 : pcL [cdP FL 256, (0, 0)] = (FL.getD 256 0).toNat + (0 + 0) := rfl
      rw [h256] at e2
      rw [e, pcL_append, e2]
      have e3 : (7 : Int).toNat = 7 := rfl
      omega
    · rename_i h1
      split
      · rename_i h2
        have hO : kO ts D1 D2 D3 k xs + 3 = (pcL (ownPs (lensOf (LA ts) D1 15) (lensOf (DA ts) D2 15) (lensOf (SA xs) D3 7) a d k xs ts) : Int) := by
          have e : pcL (ownPs (lensOf (LA ts) D1 15) (lensOf (DA ts) D2 15) (lensOf (SA xs) D3 7) a d k xs ts) = 1 + (2 + (5 + (5 + (4 + pcL (orP (lensOf (SA xs) D3 7) 0 k ++ (spsP (lensOf (SA xs) D3 7) xs ++ (tksP (lensOf (LA ts) D1 15) (lensOf (DA ts) D2 15) ts ++ [cdP (lensOf (LA ts) D1 15) 256, (0, 0)]))))))) := rfl
          have e2 : pcL [cdP (lensOf (LA ts) D1 15) 256, (0, 0)] = ((lensOf (LA ts) D1 15).getD 256 0).toNat + (0 + 0) := rfl
          rw [e, pcL_append, pcL_append, pcL_append, orP_le, e2]
          have k1 := kF_of (L := lensOf (LA ts) D1 15) (D := lensOf (DA ts) D2 15) (fun i => (hOw.u1.bd' i).1) (fun i => (hOw.u2.bd' i).1) hts
          have k2 := kH_of (C := lensOf (SA xs) D3 7) (xs := xs) (fun i => (hOw.u3.bd' i).1) (fun x hx => (hOw.sp.in' x hx).2.1)
          have k3 := (hOw.u1.bd' 256).1
          unfold kO
          omega
        omega
      · rename_i h2
        have : (pcL (stC [] P true (stB P.length)) + 7) / 8 = stS P.length := by
          rw [← hst, outB_len]; rfl
        rw [this]
        unfold kS at h1 h2
        omega
  split
  · exact hlay
  · rename_i h
    rw [hst]
    omega

end Go.Proofs.YtcgjmkcigmmjjaaGreatDoor

namespace Go.Proofs.YtcgjmkcigmmjjaaGreatDoor
set_option linter.unusedVariables false
set_option maxRecDepth 100000
/-- The bytes come again every L. -/
def Per (P : List Nat) (L : Nat) : Prop := ∀ i, i + L < P.length → P.getD (i + L) 0 = P.getD i 0

theorem chn_per {P : List Nat} {L n at' : Nat} (h : Per P L) (h1 : L ≤ at') (h2 : at' + 3 ≤ P.length) : chn P n (at' - L) = chn P n at' := by
  have e : ∀ j, j < 3 → P.getD (at' - L + j) 0 = P.getD (at' + j) 0 := fun j hj => by
    have := h (at' - L + j) (by omega)
    rw [← this, show at' - L + j + L = at' + j by omega]
  unfold chn key3
  have e0 := e 0 (by omega)
  rw [Nat.add_zero, Nat.add_zero] at e0
  rw [e0, e 1 (by omega), e 2 (by omega)]

theorem pre_hit (P : List Nat) (n c z0 : Nat) (hz : chn P n z0 = c) : ∀ k, z0 < k → ∃ y : Nat, pre P n c k = (y : Int) ∧ z0 ≤ y ∧ y < k ∧ chn P n y = c
  | 0, h => by omega
  | k + 1, h => by
    unfold pre
    split
    · rename_i e
      exact ⟨k, rfl, by omega, by omega, e⟩
    · rename_i e
      by_cases e2 : z0 = k
      · subst e2; exact absurd hz e
      · obtain ⟨y, h1, h2, h3, h4⟩ := pre_hit P n c z0 hz k (by omega)
        exact ⟨y, h1, h2, by omega, h4⟩

theorem smG_full (P : List Nat) (a b : Nat) : ∀ f n, (∀ i, n ≤ i → i < n + f → P.getD (a + i) 0 = P.getD (b + i) 0) → smG P a b f n = f + n
  | 0, n, _ => by simp [smG]
  | f + 1, n, h => by
    unfold smG
    rw [if_pos (h n (Nat.le_refl _) (by omega)), smG_full P a b f (n + 1) (fun i h1 h2 => h i (by omega) (by omega))]
    omega

theorem mtc_succ (P : List Nat) (n at' most k : Nat) (z : Int) (l d : Nat) : mtc P n at' most (k + 1) z l d = if (at' : Int) - z ≤ 32768 ∧ l < most then
      if l < smL P z.toNat at' most then mtc P n at' most k (pre P n (chn P n z.toNat) z.toNat) (smL P z.toNat at' most) (at' - z.toNat)
      else mtc P n at' most k (pre P n (chn P n z.toNat) z.toNat) l d
    else (l, d) := by rw [mtc]

theorem mtc_done (P : List Nat) (n at' most : Nat) : ∀ k (z : Int) d, mtc P n at' most k z most d = (most, d)
  | 0, z, d => by simp only [mtc]
  | k + 1, z, d => by unfold mtc; rw [if_neg (by omega)]

theorem mtc_full {P : List Nat} {L n at' most : Nat} (hp : Per P L) (h1 : 1 ≤ L) (h2 : L ≤ at') (hL : L ≤ 64) (h3 : at' + 3 ≤ P.length) (hm : at' + most ≤ P.length) :
    ∀ k (z l d : Nat), at' - L ≤ z → z < at' → chn P n z = chn P n at' → z - (at' - L) < k → l ≤ most → (mtc P n at' most k (z : Int) l d).1 = most := by
  intro k
  induction k with
  | zero => intro z l d _ _ _ h _; omega
  | succ k ih =>
    intro z l d a1 a2 a3 a4 a5
    rw [mtc_succ]
    by_cases hc : ((at' : Int) - (z : Int) ≤ 32768 ∧ l < most)
    · rw [if_pos hc]
      have hs := smG_le P z at' most 0
      have hs2 : smL P z at' most ≤ most := by unfold smL; omega
      rw [Int.toNat_natCast]
      by_cases e : z = at' - L
      · have hf : smL P z at' most = most := by
          unfold smL
          rw [smG_full P z at' most 0 (fun i _ hi => by
            have := hp (z + i) (by omega)
            rw [← this]
            congr 1
            omega)]
          omega
        rw [hf, if_pos hc.2, mtc_done]
      · obtain ⟨y, y1, y2, y3, y4⟩ := pre_hit P n (chn P n z) (at' - L) (by rw [a3]; exact chn_per hp h2 h3) z (by omega)
        rw [y1]
        split
        · exact ih y _ _ y2 (by omega) (by rw [y4, a3]) (by omega) hs2
        · exact ih y _ _ y2 (by omega) (by rw [y4, a3]) (by omega) a5
    · rw [if_neg hc]
      show l = most
      by_cases e : l < most
      · exact absurd ⟨by omega, e⟩ hc
      · omega

theorem mat_per {P : List Nat} {L n at' : Nat} (hp : Per P L) (h1 : 1 ≤ L) (h2 : L ≤ at') (hL : L ≤ 64) (h3 : at' + 3 ≤ P.length) : (mat P n at').n = min 258 (P.length - at') := by
  obtain ⟨y, y1, y2, y3, y4⟩ := pre_hit P n (chn P n at') (at' - L) (chn_per hp h2 h3) at' (by omega)
  have hf := mtc_full (n := n) (most := min 258 (P.length - at')) hp h1 h2 hL h3 (by omega) 128 y 2 0 y2 y3 y4 (by omega) (by omega)
  have ok := mtc_ok P n at' (min 258 (P.length - at')) 128 (pre P n (chn P n at') at') 2 0 (pre_bd P n _ at') (.inl ⟨rfl, rfl⟩)
  unfold mat
  rw [if_neg (by omega)]
  rw [y1] at ok ⊢
  rw [if_neg (by
    rcases ok with ⟨_, h⟩ | h
    · omega
    · omega)]
  exact hf

theorem mat_le (P : List Nat) (n at' : Nat) (h : at' < P.length) (hb : ∀ x ∈ P, x < 256) : (mat P n at').n ≤ P.length - at' := by
  have := (mat_at P n at' h hb).2.2
  omega

theorem nxt_per {P : List Nat} {L n at' : Nat} (hp : Per P L) (hb : ∀ x ∈ P, x < 256) (h1 : 1 ≤ L) (h2 : L ≤ at') (hL : L ≤ 64) (h3 : at' + 3 ≤ P.length) : (nxt P n at').n = min 258 (P.length - at') := by
  have hm := mat_per (n := n) hp h1 h2 hL h3
  unfold nxt
  rw [if_neg (fun q => by
    have := mat_le P n (at' + 1) (by omega) hb
    omega)]
  exact hm

theorem nxt_lit {P : List Nat} {n at' : Nat} (h : P.length - at' < 3) : (nxt P n at').n = 0 := by
  have hm : mat P n at' = ⟨P.getD at' 0, 0, 0⟩ := by unfold mat; rw [if_pos (by omega)]
  unfold nxt
  rw [hm, if_neg (by simp)]

theorem FL_9 (i : Nat) : FL.getD i 0 ≤ 9 ∧ (256 ≤ i → FL.getD i 0 ≤ 8) := by
  have h : (List.range 288).all (fun i => decide (FL.getD i 0 ≤ 9) && (decide (i < 256) || decide (FL.getD i 0 ≤ 8))) = true := by decide +kernel
  by_cases hi : i < 288
  · have := List.all_eq_true.1 h i (List.mem_range.2 hi)
    simp only [Bool.and_eq_true, Bool.or_eq_true, decide_eq_true_eq] at this
    exact ⟨this.1, fun q => by omega⟩
  · have e : FL.getD i 0 = 0 := by rw [List.getD_eq_getElem?_getD, List.getElem?_eq_none (by rw [FL_len]; omega)]; rfl
    rw [e]
    exact ⟨by omega, fun _ => by omega⟩

theorem tk_bits {t : Tk} (h : tkIn t) : pcL (tkP FL FD t) ≤ 31 ∧ (t.n = 0 → pcL (tkP FL FD t) ≤ 9) ∧ (t.n = 258 → pcL (tkP FL FD t) ≤ 26) := by
  unfold tkIn at h
  by_cases hn : t.n = 0
  · have ep : pcL (tkP FL FD t) = (FL.getD t.c 0).toNat + (0 + 0) := by unfold tkP; rw [if_pos hn]; rfl
    have := (FL_9 t.c).1
    omega
  · have ep : pcL (tkP FL FD t) = (FL.getD (lnS t.n) 0).toNat + (lnB t.n + ((FD.getD (dsS t.d) 0).toNat + (dsB t.d + 0))) := by unfold tkP; rw [if_neg hn]; rfl
    have h1 := lnS_bd t.n (by omega) (by omega)
    have h2 := (FL_9 (lnS t.n)).2 (by omega)
    have h3 := (fixD_facts (dsS t.d) (by have := dsS_lt t.d (by omega) (by omega); omega)).1
    have h4 := lnB_le t.n (by omega)
    have h5 := dsB_le t.d (by omega) (by omega)
    have h6 : t.n = 258 → lnB t.n = 0 := fun e => by unfold lnB; rw [if_pos e]
    rw [h3] at ep
    refine ⟨by omega, fun e => absurd e hn, fun e => ?_⟩
    have := h6 e
    omega

theorem nxt_in {P : List Nat} {n at' : Nat} (h : at' < P.length) (hb : ∀ x ∈ P, x < 256) : tkIn (nxt P n at') := by
  have := (nxt_at P n at' h hb).1
  unfold tkOk at this
  unfold tkIn
  omega

/-- How many bits the tokens from a place on take. -/
def bts (P : List Nat) (n at' : Nat) : Nat := pcL (tksP FL FD (toks P n at'))

theorem bts_end {P : List Nat} {n at' : Nat} (h : P.length ≤ at') : bts P n at' = 0 := by unfold bts; rw [toks_end P n at' h]; rfl

theorem bts_step {P : List Nat} {n at' : Nat} (h : at' < P.length) : bts P n at' = pcL (tkP FL FD (nxt P n at')) + bts P n (at' + max 1 (nxt P n at').n) := by
  unfold bts
  rw [toks_step P n at' h]
  unfold tksP
  rw [List.flatMap_cons, pcL_append]

theorem bts_far {P : List Nat} {L n : Nat} (hp : Per P L) (hb : ∀ x ∈ P, x < 256) (h1 : 1 ≤ L) (hL : L ≤ 64) : ∀ k at', P.length - at' ≤ k → L ≤ at' → bts P n at' ≤ 26 * ((P.length - at') / 258) + 31
  | 0, at', h, _ => by rw [bts_end (by omega)]; omega
  | k + 1, at', h, h2 => by
    by_cases he : P.length ≤ at'
    · rw [bts_end he]; omega
    · have hin := nxt_in (n := n) (by omega : at' < P.length) hb
      obtain ⟨t1, t2, t3⟩ := tk_bits hin
      rw [bts_step (by omega)]
      by_cases hs : P.length - at' < 3
      · have e := nxt_lit (n := n) hs
        have c := t2 e
        rw [e]
        by_cases h1' : P.length - at' = 1
        · rw [bts_end (by omega)]; omega
        · have hin2 := nxt_in (n := n) (by omega : at' + 1 < P.length) hb
          have e2 := nxt_lit (P := P) (n := n) (at' := at' + 1) (by omega)
          have c2 := (tk_bits hin2).2.1 e2
          rw [show at' + max 1 0 = at' + 1 by omega, bts_step (by omega), e2, bts_end (by omega)]
          omega
      · have e := nxt_per (n := n) hp hb h1 h2 hL (by omega)
        rw [e]
        by_cases hg : 258 ≤ P.length - at'
        · rw [show min 258 (P.length - at') = 258 by omega] at e ⊢
          have c := t3 e
          have ih := bts_far (n := n) hp hb h1 hL k (at' + max 1 258) (by omega) (by omega)
          have e3 : P.length - (at' + max 1 258) = P.length - at' - 258 := by omega
          rw [e3] at ih
          omega
        · rw [bts_end (by omega)]
          omega

theorem bts_near {P : List Nat} {L n : Nat} (hp : Per P L) (hb : ∀ x ∈ P, x < 256) (h1 : 1 ≤ L) (hL : L ≤ 64) : ∀ k at', L - at' ≤ k → bts P n at' ≤ 11 * (L - at') + 62 + 26 * (P.length / 258)
  | 0, at', h => by
    have := bts_far (n := n) hp hb h1 hL _ at' (Nat.le_refl _) (by omega)
    omega
  | k + 1, at', h => by
    by_cases h2 : L ≤ at'
    · have := bts_far (n := n) hp hb h1 hL _ at' (Nat.le_refl _) h2
      omega
    · by_cases he : P.length ≤ at'
      · rw [bts_end he]; omega
      · have hin := nxt_in (n := n) (by omega : at' < P.length) hb
        obtain ⟨t1, t2, t3⟩ := tk_bits hin
        rw [bts_step (by omega)]
        obtain ⟨s, hs⟩ : ∃ s, max 1 (nxt P n at').n = s := ⟨_, rfl⟩
        have hc : pcL (tkP FL FD (nxt P n at')) ≤ 11 * s := by
          unfold tkIn at hin
          by_cases e : (nxt P n at').n = 0
          · have := t2 e; omega
          · omega
        rw [hs]
        by_cases h3 : at' + s ≤ L
        · have := bts_near (n := n) hp hb h1 hL k (at' + s) (by omega)
          omega
        · have := bts_far (n := n) hp hb h1 hL _ (at' + s) (Nat.le_refl _) (by omega)
          omega

/-- Bytes that come again become small. -/
theorem Sm.small {P B : List Nat} {L : Nat} (h : Sm P B) (hP : ∀ x ∈ P, x < 256) (hp : Per P L) (h1 : 1 ≤ L) (hL : L ≤ 64) (n1 : 200 ≤ P.length) (n2 : P.length ≤ 8000) : B.length ≤ 64 + L + P.length / 100 := by
  have k1 := h.le_fix hP (by omega)
  have k2 := bts_near (n := bl P.length) hp hP h1 hL L 0 (by omega)
  unfold bts at k2
  omega

end Go.Proofs.YtcgjmkcigmmjjaaGreatDoor

namespace Go.Proofs.YtcgjmkcigmmjjaaGreatDoor
open Go.RowKit
set_option maxRecDepth 100000
set_option linter.unusedVariables false
/-- Bytes again and again. -/
def rq (A : List Nat) (n : Nat) : List Nat := (List.range n).map fun i => A.getD (i % A.length) 0

theorem rq_len (A : List Nat) (n : Nat) : (rq A n).length = n := by simp [rq]

theorem rq_snoc (A : List Nat) (n : Nat) : rq A (n + 1) = rq A n ++ [A.getD (n % A.length) 0] := by simp [rq, List.range_succ]

theorem rq_at (A : List Nat) (n i : Nat) (h : i < n) : (rq A n).getD i 0 = A.getD (i % A.length) 0 := by simp [rq, List.getD, h]

theorem rq_per (A : List Nat) (n : Nat) : Per (rq A n) A.length := by
  intro i hi
  rw [rq_len] at hi
  rw [rq_at _ _ _ hi, rq_at _ _ _ (by omega), Nat.add_mod_right]

theorem rq_by {A : List Nat} (hA : ∀ x ∈ A, x < 256) (n : Nat) : ∀ x ∈ rq A n, x < 256 := by
  intro x hx
  unfold rq at hx
  obtain ⟨i, _, rfl⟩ := List.mem_map.1 hx
  rw [List.getD_eq_getElem?_getD]
  by_cases h : i % A.length < A.length
  · rw [List.getElem?_eq_getElem h]
    exact hA _ (List.getElem_mem h)
  · rw [List.getElem?_eq_none (by omega)]
    decide

set_option maxHeartbeats 4000000 in
theorem small_in (aa : Option Addr) (ca : Nat) (A : List Nat) (t : Nat) (w : World) (hT : TabD w) (hA : ∀ x ∈ A, x < 256) (ra : Rd w (.slice aa A.length ca) A) (h1 : 1 ≤ A.length) (h2 : A.length ≤ 64) (h3 : 200 ≤ t) (h4 : t ≤ 8000) :
    Calls Tryz.prog 5 #[.slice aa A.length ca, .int .i64 (t : Int)] w fun e w' => e = .returned (.bool true) ∧ Step (fun _ => False) w w' := by
  have HA := hidden ra
  have HT := hidden hT
  have HE := hidden (O1.nil w)
  have HBY := hidden (fun n => rq_by hA n)
  have HSM := hidden (show ∀ S, Sm (rq A t) S → S.length ≤ 64 + A.length + t / 100 from fun S hS => by
    have := hS.small (rq_by hA t) (rq_per A t) h1 h2 (by rw [rq_len]; exact h3) (by rw [rq_len]; exact h4)
    rwa [rq_len] at this)
  obtain ⟨m, hm⟩ : ∃ m, A.length = m := ⟨_, rfl⟩
  have Hm := hidden hm
  rw [hm] at h1 h2 HA HSM ⊢
  obtain ⟨q, hq⟩ : ∃ q, t / 100 = q := ⟨_, rfl⟩
  rw [hq] at HSM
  have qi : Int.tdiv (t : Int) 100 = (q : Int) := by rw [Int.tdiv_eq_ediv_of_nonneg (by omega)]; omega
  have qi2 : (t : Int) / 100 = (q : Int) := by omega
  have z1 : ¬ (m : Int) < 1 := by omega
  have z2 : ¬ (64 : Int) < (m : Int) := by omega
  have z3 : ¬ (t : Int) < 200 := by omega
  have z4 : ¬ (8000 : Int) < (t : Int) := by omega
  have z5 : ¬ (m : Int) = 0 := by omega
  have hqb : q ≤ 80 := by omega
  clear hA ra hT hm hq
  go_enter Tryz.func5, Tryz.ntmps5
  go_wp2_with fail
  go_loopw [5, 6] (fun qv iv wr => ∃ (i : Nat) (ao : Option Addr) (cap : Nat), iv = .int .i64 (i : Int) ∧ i ≤ t ∧ qv = .slice ao i cap ∧ Hid (O1 w wr (.slice ao (rq A i).length cap) (rq A i))) (fun _ iv _ => t - (RowKit.intOf iv).toNat)
  case atStart => exact ⟨0, none, 0, rfl, Nat.zero_le _, rfl, HE⟩
  case round =>
    obtain ⟨i, ao, cap, rfl, hi, rfl, HQ⟩ := hrel
    have i0 : (0 : Int) ≤ (i : Int) := by omega
    by_cases hit : i < t
    · have z6 : (i : Int) < (t : Int) := by omega
      obtain ⟨r, hr⟩ : ∃ r, i % m = r := ⟨_, rfl⟩
      have hrm : r < m := by rw [← hr]; exact Nat.mod_lt _ (by omega)
      have r1 : (r : Int) < (m : Int) := by omega
      have r0 : (0 : Int) ≤ (r : Int) := by omega
      have ri2 : (i : Int) % (m : Int) = (r : Int) := by rw [← hr]; exact (Int.natCast_emod i m).symm
      have ri : Int.tmod (i : Int) (m : Int) = (r : Int) := by rw [Int.tmod_eq_emod_of_nonneg (by omega)]; exact ri2
      obtain ⟨ga, oa, ha, ea⟩ := (HA.out.step HQ.out.st (fun _ _ _ _ _ q => q)).at (k := r) (by rw [Hm.out]; exact hrm)
      subst ha
      obtain ⟨x, hx⟩ : ∃ x, A.getD r 0 = x := ⟨_, rfl⟩
      rw [hx] at ea
      have HSN := hidden (show rq A (i + 1) = rq A i ++ [x] by rw [rq_snoc, Hm.out, hr, hx])
      have HLI := hidden (rq_len A i)
      have HQ2 := hidden (show O1 w wr (.slice ao i cap) (rq A i) by have := HQ.out; rwa [HLI.out] at this)
      clear hr hx HQ
      go_wp2_with (at_builtin; refine app_o1 rfl (.tmp 33) (.tmp 41) rfl w _ (rq A i) rfl (HQ2.out.made ((Step.refl _ _).alloc _)) _ [x] rfl (Rd.lit wr x) ?b1 ?_)
      case b1 => rw [HLI.out]; simp; omega
      intro v3 w3 H3
      obtain ⟨ao3, cap3, e3, _, _⟩ := H3.out.form
      rw [List.length_append, HLI.out] at e3
      have e4 : v3 = .slice ao3 (i + 1) cap3 := e3
      subst e4
      have HF := hidden (show O1 w w3 (.slice ao3 (rq A (i + 1)).length cap3) (rq A (i + 1)) by rw [rq_len, HSN.out]; exact H3.out)
      clear H3 HQ2 ea e3
      go_wp2_with fail
      go_roundw
      case rel => exact ⟨i + 1, ao3, cap3, by go_num, by omega, rfl, HF⟩
      case measure => simp [RowKit.intOf]; omega
    · have hie : i = t := by omega
      have z6 : ¬ ((i : Int) < (t : Int)) := by omega
      subst hie
      have HP := hidden (HBY.out i)
      have HLI := hidden (rq_len A i)
      obtain ⟨P, hP⟩ : ∃ P, rq A i = P := ⟨_, rfl⟩
      rw [hP] at HQ HSM HP HLI
      have HSt := hidden HQ.out.st
      have HY := hidden (fun wx (hx : Step (fun _ => False) wr wx) => bytes_o1 w wx ao cap P (HQ.out.made hx) HP.out (by rw [HLI.out]; omega) (HT.out.made (HQ.out.made hx).st))
      rw [HLI.out] at HY
      clear hP
      go_wp2_with fail
      refine (HY.out _ (by first | exact Step.refl _ _ | exact (Step.refl _ _).drewN _)).mono ?_
      rintro e w4 ⟨a, c, S, rfl, R4⟩
      have HBK := hidden (back_any w4 a c P S R4.out.1 HP.out (by rw [HLI.out]; omega) R4.out.2.1 R4.out.2.2.2 (i : Int) (by rw [HLI.out]; exact Int.le_refl _) (by omega))
      have HX4 := hidden (show O1 w w4 (.slice ao P.length cap) P from by first | exact HQ.out.made R4.out.2.2.1 | exact (HQ.out.made ((Step.refl _ _).drewN _)).made R4.out.2.2.1)
      rw [HLI.out] at HBK
      have hsz := HSM.out S R4.out.1
      obtain ⟨s, hs⟩ : ∃ s, S.length = s := ⟨_, rfl⟩
      rw [hs] at HBK hsz ⊢
      have hszi : (s : Int) ≤ 64 + (m : Int) + (q : Int) := by omega
      clear R4 HY hs HQ
      go_wp2_with fail
      refine HBK.out.mono ?_
      rintro e w5 ⟨a5, c5, rfl, R5⟩
      have HX5 := hidden (HX4.out.made R5.out.2)
      have HSA := hidden (same_eq (.slice a5 i c5) (.slice ao i cap) P w5 R5.out.1 (by
        obtain ⟨ao', cap', e, _, h⟩ := HX5.out.form
        rw [HLI.out] at e h
        injection e with e1 _ e3
        subst e1
        subst e3
        exact h) (by rw [HLI.out]; omega))
      clear R5 HBK
      go_wp2_with fail
      refine HSA.out.mono ?_
      rintro e w6 ⟨rfl, S6⟩
      have HS6 := hidden (HX5.out.st.made S6.out)
      have HK := hidden (dknown_any w6 (HT.out.made HS6.out))
      go_wp2_with fail
      refine HK.out.mono ?_
      rintro e w7 ⟨rfl, S7⟩
      have HS7 := hidden (HS6.out.made S7)
      clear S7
      go_wp2
      go_ret
      exact ⟨rfl, HS7.out⟩

set_option maxHeartbeats 1000000 in
theorem small_any (aa : Option Addr) (ca : Nat) (A : List Nat) (t : Int) (w : World) (hT : TabD w) (hA : ∀ x ∈ A, x < 256) (ra : Rd w (.slice aa A.length ca) A) (ma : A.length ≤ 140737488351232) :
    Calls Tryz.prog 5 #[.slice aa A.length ca, .int .i64 t] w fun e w' => e = .returned (.bool true) ∧ Step (fun _ => False) w w' := by
  by_cases hall : 1 ≤ A.length ∧ A.length ≤ 64 ∧ 200 ≤ t ∧ t ≤ 8000
  · obtain ⟨k, rfl⟩ : ∃ k : Nat, t = (k : Int) := ⟨t.toNat, by omega⟩
    exact small_in aa ca A k w hT hA ra hall.1 hall.2.1 (by omega) (by omega)
  · have HK := hidden (dknown_any w hT)
    obtain ⟨m, hm⟩ : ∃ m, A.length = m := ⟨_, rfl⟩
    rw [hm] at hall ma ⊢
    clear ra hm hT hA
    have fin : (m : Int) < 1 ∨ (¬ (m : Int) < 1 ∧ (64 : Int) < (m : Int)) ∨ (¬ (m : Int) < 1 ∧ ¬ (64 : Int) < (m : Int) ∧ t < 200) ∨ (¬ (m : Int) < 1 ∧ ¬ (64 : Int) < (m : Int) ∧ ¬ t < 200 ∧ 8000 < t) := by omega
    clear hall
    rcases fin with z1 | ⟨z1, z2⟩ | ⟨z1, z2, z3⟩ | ⟨z1, z2, z3, z4⟩
    all_goals
      go_enter Tryz.func5, Tryz.ntmps5
      go_wp2_with fail
      refine HK.out.mono ?_
      rintro e w7 ⟨rfl, S7⟩
      have HS7 := hidden S7
      clear S7
      go_wp2
      go_ret
      exact ⟨rfl, HS7.out⟩

end Go.Proofs.YtcgjmkcigmmjjaaGreatDoor
