/-
  A row of numbers, nil or not, goes behind a row of one's own.
-/
import Derived.Test.YtcgjmkcigmmjjaaGreatDoorBkB
import Derived.BigQuiet
import Derived.StillTailTactics
import Derived.Laws.AppendOwnNone
import Derived.RegionTactic

namespace Go.Proofs.YtcgjmkcigmmjjaaGreatDoor
set_option linter.unusedVariables false
/-- The lengths of lengths' codes: sixteen of 4 bits. -/
def C16 : List Int := [4, 4, 4, 4, 4, 4, 4, 4, 4, 4, 4, 4, 4, 4, 4, 4, 0, 0, 0]

theorem C16_ok : newErr C16 = 0 := by decide +kernel

theorem C16_val : ∀ i, i < 16 → C16.getD i 0 = ((4 : Nat) : Int) ∧ codeOf C16 i = (i : Int) := by decide +kernel

theorem D0_ok : newErr [0] = 0 := by decide +kernel

/-- What is laid of them. -/
def clP (k : Nat) : Nat × Nat := (if 15 < ord k then 0 else 4, 3)

def clPs : Nat → Nat → List (Nat × Nat)
  | _, 0 => []
  | k, n + 1 => clP k :: clPs (k + 1) n

theorem clPs_len : ∀ k n, pcL (clPs k n) = 3 * n
  | _, 0 => rfl
  | k, n + 1 => by
    show 3 + pcL (clPs (k + 1) n) = _
    rw [clPs_len (k + 1) n]; omega

theorem clP_ok (k : Nat) : (clP k).1 < 2 ^ (clP k).2 := by unfold clP; simp only; split <;> decide

theorem clPs_read {M m : Nat} : ∀ (n k t : Nat) (ps : List (Nat × Nat)), Bt M m t (clPs k n ++ ps) → t + 3 * n ≤ 8 * m → (∀ i, i < n → M / 2 ^ (t + 3 * i) % 8 = (clP (k + i)).1) ∧ Bt M m (t + 3 * n) ps
  | 0, k, t, ps, h, hm => ⟨fun i hi => by omega, by simpa [clPs] using h⟩
  | n + 1, k, t, ps, h, hm => by
    obtain ⟨h1, h2⟩ := Bt.head (q := clP k) (ps := clPs (k + 1) n ++ ps) h (clP_ok k)
    have hv := bits_val M m t (clP k).1 3 (clP_ok k) h1 (by omega)
    obtain ⟨h3, h4⟩ := clPs_read n (k + 1) (t + 3) ps h2 (by omega)
    refine ⟨fun i hi => ?_, by rw [show t + 3 * (n + 1) = t + 3 + 3 * n by omega]; exact h4⟩
    cases i with
    | zero => simpa using hv
    | succ i =>
      have := h3 i (by omega)
      rw [show t + 3 * (i + 1) = t + 3 + 3 * i by omega, show k + (i + 1) = k + 1 + i by omega]
      exact this

theorem clF_of (f : Nat → Int) (M t : Nat) : ∀ k, (∀ i, i < k → ((M / 2 ^ (t + 3 * i) % 8 : Nat) : Int) = f (ord i)) → ∀ j, (∃ i, i < k ∧ ord i = j) → clF M t k j = f j
  | 0, _, j, h => by obtain ⟨i, hi, _⟩ := h; omega
  | k + 1, hf, j, h => by
    simp only [clF]
    by_cases e : j = ord k
    · rw [if_pos e, hf k (by omega), e]
    · rw [if_neg e]
      obtain ⟨i, hi, hij⟩ := h
      exact clF_of f M t k (fun i hi => hf i (by omega)) j ⟨i, by
        rcases Nat.lt_or_ge i k with h | h
        · exact h
        · have : i = k := by omega
          subst this
          exact absurd hij.symm e, hij⟩

theorem ord_onto : ∀ j, j < 19 → ∃ i, i < 19 ∧ ord i = j := by decide +kernel

theorem C16_at : ∀ i, i < 19 → (((clP i).1 : Nat) : Int) = C16.getD (ord i) 0 := by decide +kernel

theorem clL_C16 {M t : Nat} (h : ∀ i, i < 19 → M / 2 ^ (t + 3 * i) % 8 = (clP i).1) : clL M t 19 = C16 := by
  apply List.ext_getElem
  · rw [clL_length]; rfl
  · intro j h1 h2
    rw [clL_length] at h1
    have e1 := clL_getD M t 19 j h1
    have e2 := clF_of (fun j => C16.getD j 0) M t 19 (fun i hi => by rw [h i hi]; exact C16_at i hi) j (ord_onto j h1)
    exact (getD_i (clL M t 19) j (by rw [clL_length]; exact h1)).symm.trans (e1.trans (e2.trans (getD_i C16 j h2)))

theorem pcL_cons (q : Nat × Nat) (ps : List (Nat × Nat)) : pcL (q :: ps) = q.2 + pcL ps := rfl

/-- A length as it is laid. -/
def lnP (x : Nat) : Nat × Nat := (rv x 4 4, 4)

theorem lens_laid {M m : Nat} (many : Nat) : ∀ (R : List Nat) (t : Nat) (A : List Int) (ps : List (Nat × Nat)), (∀ x ∈ R, x < 16) → Bt M m t (R.map lnP ++ ps) → t + 4 * R.length ≤ 8 * m → A.length + R.length = many →
    Lens C16 M m many t A (.ok (t + 4 * R.length, A ++ R.map (fun (x : Nat) => (x : Int)))) ∧ Bt M m (t + 4 * R.length) ps
  | [], t, A, ps, _, hb, _, hl => ⟨by simpa using Lens.done (by simp at hl; omega), by simpa using hb⟩
  | x :: R, t, A, ps, hx, hb, hm, hl => by
    have hx16 := hx x (by simp)
    obtain ⟨v1, v2⟩ := C16_val x hx16
    obtain ⟨h1, h2⟩ := Bt.head (q := lnP x) (ps := R.map lnP ++ ps) hb (rv_full _ _)
    have hs := symV_code (M := M) (m := m) (t := t) C16_ok (i := x) (n := 4) (c := x) (by simp [C16]; omega) v1 (by omega) v2 hx16 h1
    have hlr : (x :: R).length = R.length + 1 := rfl
    rw [hlr] at hm hl ⊢
    rw [if_pos (by omega)] at hs
    have ht : timP M m x (t + 4) = .ok (1, t + 4) := by unfold timP; rw [if_neg (by omega), if_neg (by omega), if_neg (by omega)]
    have hv : lenOf x A = (x : Int) := by unfold lenOf; rw [if_neg (by omega), if_neg (by omega)]
    obtain ⟨ih1, ih2⟩ := lens_laid many R (t + 4) (A ++ [(x : Int)]) ps (fun y hy => hx y (by simp [hy])) h2 (by omega) (by simp; omega)
    rw [show t + 4 + 4 * R.length = t + 4 * (R.length + 1) by omega] at ih1 ih2
    refine ⟨Lens.more (by omega) hs (by omega) ht (by omega) ?_, ih2⟩
    rw [hv]
    simpa using ih1

/-- A symbol's code as it is laid. -/
def cdP (L : List Int) (i : Nat) : Nat × Nat := (rv (codeOf L i).toNat (L.getD i 0).toNat (L.getD i 0).toNat, (L.getD i 0).toNat)

theorem cd_read {L : List Int} (hL : newErr L = 0) {M m t i : Nat} {ps : List (Nat × Nat)} (hi : i < L.length) (h0 : 0 < L.getD i 0) (hb : Bt M m t (cdP L i :: ps)) (hm : t + (cdP L i).2 ≤ 8 * m) : symV L M m t = .ok (i, t + (cdP L i).2) ∧ Bt M m (t + (cdP L i).2) ps := by
  have hok := (newErr_codes L hL)
  obtain ⟨n, hn⟩ := Int.eq_ofNat_of_zero_le (show 0 ≤ L.getD i 0 by omega)
  obtain ⟨c, hc⟩ := Int.eq_ofNat_of_zero_le (codeOf_nonneg L i)
  have h15 := ((okB_iff L).1 hok.2.1).2 (L.getD i 0) (by rw [getD_i L i hi]; exact List.getElem_mem hi)
  have hlt : c < 2 ^ n := by
    have := (code_lt L i n hi hn (by omega) (by omega) hok.2.2).2
    rw [hc] at this
    have e : ((2 ^ n : Nat) : Int) = (2 : Int) ^ n := by simp
    omega
  have e1 : cdP L i = (rv c n n, n) := by unfold cdP; rw [hn, hc]; simp
  rw [e1] at hb hm ⊢
  obtain ⟨h1, h2⟩ := Bt.head (q := (rv c n n, n)) (ps := ps) hb (rv_full _ _)
  have := symV_code (M := M) (m := m) (t := t) hL hi hn (by omega) hc hlt h1
  rw [if_pos hm] at this
  exact ⟨this, h2⟩

theorem syms_laid {L D : List Int} (hL : newErr L = 0) {M m : Nat} {most : Int} (h257 : L.length = 257) (hE : 0 < L.getD 256 0) : ∀ (P : List Nat) (t : Nat) (O : List Nat), (∀ c ∈ P, c < 256 ∧ 0 < L.getD c 0) → Bt M m t (P.map (cdP L) ++ [cdP L 256]) → t + pcL (P.map (cdP L) ++ [cdP L 256]) ≤ 8 * m → ((O.length + P.length : Nat) : Int) ≤ most →
    Syms L D M m most t O (.ok (t + pcL (P.map (cdP L) ++ [cdP L 256]), O ++ P))
  | [], t, O, _, hb, hm, _ => by
    have hq : pcL ([].map (cdP L) ++ [cdP L 256]) = (cdP L 256).2 := by simp [pcL]
    rw [hq] at hm ⊢
    obtain ⟨h1, _⟩ := cd_read hL (i := 256) (by omega) hE (by simpa using hb) hm
    simpa using Syms.stop h1
  | c :: P, t, O, hp, hb, hm, ho => by
    have hc := hp c (by simp)
    have hq : pcL ((c :: P).map (cdP L) ++ [cdP L 256]) = (cdP L c).2 + pcL (P.map (cdP L) ++ [cdP L 256]) := rfl
    rw [hq] at hm ⊢
    obtain ⟨h1, h2⟩ := cd_read hL (i := c) (by omega) hc.2 (show Bt M m t (cdP L c :: (P.map (cdP L) ++ [cdP L 256])) from hb) (by omega)
    have hcl : (c :: P).length = P.length + 1 := rfl
    have hol : (O ++ [c]).length = O.length + 1 := by simp
    refine Syms.lit h1 hc.1 (by rw [hcl] at ho; omega) ?_
    have := syms_laid (D := D) (most := most) hL h257 hE P (t + (cdP L c).2) (O ++ [c]) (fun x hx => hp x (by simp [hx])) h2 (by omega) (by rw [hol]; rw [hcl] at ho; omega)
    rw [Nat.add_assoc] at this
    simpa using this

/-- All that is laid. -/
def dynP (LN : List Nat) (L : List Int) (P : List Nat) : List (Nat × Nat) := (1, 1) :: (2, 2) :: (0, 5) :: (0, 5) :: (15, 4) :: (clPs 0 19 ++ ((LN ++ [0]).map lnP ++ (P.map (cdP L) ++ [cdP L 256])))

theorem dyn_read {LN : List Nat} {L : List Int} {P : List Nat} {M m : Nat} {most : Int} (hLN : L = LN.map (fun (x : Nat) => (x : Int))) (h257 : LN.length = 257) (h16 : ∀ x ∈ LN, x < 16) (hL : newErr L = 0) (hE : 0 < L.getD 256 0) (hP : ∀ c ∈ P, c < 256 ∧ 0 < L.getD c 0) (hb : Bt M m 0 (dynP LN L P)) (hm : pcL (dynP LN L P) ≤ 8 * m) (ho : (P.length : Int) ≤ most) (n : Nat) :
    BlksF M m most n 0 [] (.ok (pcL (dynP LN L P), P)) := by
  obtain ⟨T, hT⟩ : ∃ T, T = pcL (P.map (cdP L) ++ [cdP L 256]) := ⟨_, rfl⟩
  have hlm : ∀ R : List Nat, pcL (R.map lnP) = 4 * R.length := by
    intro R
    induction R with
    | nil => rfl
    | cons x R ih => show 4 + pcL (R.map lnP) = _; rw [ih]; simp; omega
  have hlen : pcL (dynP LN L P) = 17 + (57 + (4 * 258 + T)) := by
    have h258 : (LN ++ [0]).length = 258 := by simp [h257]
    unfold dynP
    rw [pcL_cons, pcL_cons, pcL_cons, pcL_cons, pcL_cons, pcL_append, pcL_append, clPs_len, hlm, ← hT, h258]
    simp only
    omega
  rw [hlen] at hm
  obtain ⟨a1, b1⟩ := Bt.head (q := (1, 1)) hb (by decide)
  obtain ⟨a2, b2⟩ := Bt.head (q := (2, 2)) b1 (by decide)
  obtain ⟨a3, b3⟩ := Bt.head (q := (0, 5)) b2 (by decide)
  obtain ⟨a4, b4⟩ := Bt.head (q := (0, 5)) b3 (by decide)
  obtain ⟨a5, b5⟩ := Bt.head (q := (15, 4)) b4 (by decide)
  have v1 := bits_val M m _ 1 1 (by decide) a1 (by simp; omega)
  have v2 := bits_val M m _ 2 2 (by decide) a2 (by simp; omega)
  have v3 := bits_val M m _ 0 5 (by decide) a3 (by simp; omega)
  have v4 := bits_val M m _ 0 5 (by decide) a4 (by simp; omega)
  have v5 := bits_val M m _ 15 4 (by decide) a5 (by simp; omega)
  simp only [Nat.zero_add] at v1 v2 v3 v4 v5
  obtain ⟨c1, c2⟩ := clPs_read 19 0 17 _ b5 (by omega)
  have hcl : clL M 17 19 = C16 := clL_C16 (fun i hi => by have := c1 i hi; rwa [Nat.zero_add] at this)
  obtain ⟨d1, d2⟩ := lens_laid (M := M) (m := m) 258 (LN ++ [0]) (17 + 3 * 19) [] _ (fun x hx => by
    rcases List.mem_append.1 hx with h | h
    · exact h16 x h
    · simp at h; omega) c2 (by simp [h257]; omega) (by simp [h257])
  have hA : ([] : List Int) ++ (LN ++ [0]).map (fun (x : Nat) => (x : Int)) = L ++ [0] := by rw [hLN]; simp
  have h258 : (LN ++ [0]).length = 258 := by simp [h257]
  rw [hA, h258] at d1
  rw [h258] at d2
  have hLl : L.length = 257 := by rw [hLN]; simpa using h257
  have hlens : lensR M m 3 = .ok (257, 17 + 3 * 19 + 4 * 258, L ++ [0]) := by
    unfold lensR
    rw [if_pos (by omega), show 3 + 5 = 8 from rfl, show 3 + 10 = 13 from rfl, show 3 + 14 = 17 from rfl]
    have w3 : M / 2 ^ 3 % 32 = 0 := v3
    have w4 : M / 2 ^ 8 % 32 = 0 := v4
    have w5 : M / 2 ^ 13 % 16 = 15 := v5
    rw [w3, w4, w5, if_neg (by omega), show 15 + 4 = 19 from rfl, if_pos (by omega), hcl, if_pos C16_ok, show 0 + 257 + (0 + 1) = 258 from rfl, d1.val]
    rfl
  have htk : (L ++ [0]).take 257 = L := by rw [← hLl]; simp
  have hdr : (L ++ [0]).drop 257 = [0] := by rw [← hLl]; simp
  have h256 : (L ++ [0]).getD 256 0 = L.getD 256 0 := by
    rw [List.getD_eq_getElem?_getD, List.getD_eq_getElem?_getD, List.getElem?_append_left (by omega)]
  have hown : ownP M m 3 = .ok (17 + 3 * 19 + 4 * 258, L, [0]) := by
    rw [ownP_lensR, hlens]
    show ownA 257 _ _ = _
    unfold ownA
    rw [h256, htk, hdr, if_neg (by omega), if_neg (fun q => q hL), if_neg (fun q => q D0_ok)]
  have hsy := syms_laid (D := [0]) (most := most) hL hLl hE P (17 + 3 * 19 + 4 * 258) [] hP d2 (by rw [← hT]; omega) (by simpa using ho)
  rw [← hT, List.nil_append] at hsy
  refine BlksF.last ?_ ?_
  · simpa using v1
  · unfold blkF
    rw [if_pos ⟨by omega, by simpa using v2⟩, hown]
    have hsv := hsy.val
    rw [show 17 + 3 * 19 + 4 * 258 + T = pcL (dynP LN L P) by rw [hlen]; omega] at hsv
    exact hsv

end Go.Proofs.YtcgjmkcigmmjjaaGreatDoor

namespace Go.Proofs.YtcgjmkcigmmjjaaGreatDoor
set_option linter.unusedVariables false
/-- How many bits a number has. -/
def bl (v : Nat) : Nat := if v = 0 then 0 else v.log2 + 1

theorem bl_lt (v : Nat) : v < 2 ^ bl v := by
  unfold bl
  split
  · subst v; decide
  · exact Nat.lt_log2_self

theorem bl_le (v : Nat) (h : 0 < bl v) : 2 ^ (bl v - 1) ≤ v := by
  unfold bl at *
  split at h
  · omega
  · rw [if_neg (by assumption), Nat.add_sub_cancel]
    exact Nat.log2_self_le (by assumption)

theorem bl_of (v n : Nat) (h1 : 2 ^ n ≤ v) (h2 : v < 2 ^ (n + 1)) : bl v = n + 1 := by
  have hp := Nat.two_pow_pos n
  have hne : v ≠ 0 := by omega
  unfold bl
  rw [if_neg hne]
  have h3 := (Nat.le_log2 hne).2 h1
  have h4 := (Nat.log2_lt hne).2 h2
  omega

theorem bl_le_of (v k : Nat) (h : v < 2 ^ k) : bl v ≤ k := by
  by_cases h0 : v = 0
  · subst h0; simp [bl]
  · unfold bl
    rw [if_neg h0]
    have := (Nat.log2_lt h0).2 h
    omega

/-- A number's highest bits, as a symbol, and the others behind it. -/
def spN (v keep : Nat) : Nat := bl v - keep

def spS (v keep : Nat) : Nat := spN v keep * 2 ^ (keep - 1) + v / 2 ^ spN v keep

def spM (v keep : Nat) : Nat := v % 2 ^ spN v keep

theorem sp_small (v keep : Nat) (h : v < 2 ^ keep) : spN v keep = 0 ∧ spS v keep = v ∧ spM v keep = 0 := by
  have hn : spN v keep = 0 := by unfold spN; have := bl_le_of v keep h; omega
  refine ⟨hn, ?_, ?_⟩
  · unfold spS; rw [hn]; simp
  · unfold spM; rw [hn]; simp [Nat.mod_one]

theorem sp_great (v keep : Nat) (hk : 1 ≤ keep) (h : 2 ^ keep ≤ v) : 1 ≤ spN v keep ∧ 2 ^ (keep - 1) ≤ v / 2 ^ spN v keep ∧ v / 2 ^ spN v keep < 2 ^ keep := by
  have h1 := bl_lt v
  have hb : keep < bl v := by
    rcases Nat.lt_or_ge keep (bl v) with g | g
    · exact g
    · have := Nat.pow_le_pow_right (show 0 < 2 by omega) g
      omega
  have h2 := bl_le v (by omega)
  have e : bl v = spN v keep + keep := by unfold spN; omega
  refine ⟨by omega, ?_, ?_⟩
  · rw [Nat.le_div_iff_mul_le (Nat.two_pow_pos _), ← Nat.pow_add]
    rw [e] at h2
    rwa [show keep - 1 + spN v keep = spN v keep + keep - 1 by omega]
  · rw [Nat.div_lt_iff_lt_mul (Nat.two_pow_pos _), ← Nat.pow_add]
    rw [e] at h1
    rwa [Nat.add_comm keep]

theorem sp_back (v keep : Nat) : v / 2 ^ spN v keep * 2 ^ spN v keep + spM v keep = v := by
  unfold spM
  have := Nat.div_add_mod v (2 ^ spN v keep)
  rw [Nat.mul_comm] at this
  exact this

/-- A match's length as a symbol: the symbol, the number behind it, its bits. -/
def lnS (n : Nat) : Nat := if n = 258 then 285 else spS (n - 3) 3 + 257

def lnM (n : Nat) : Nat := if n = 258 then 0 else spM (n - 3) 3

def lnB (n : Nat) : Nat := if n = 258 then 0 else spN (n - 3) 3

/-- How far back it begins, likewise. -/
def dsS (d : Nat) : Nat := spS (d - 1) 2

def dsM (d : Nat) : Nat := spM (d - 1) 2

def dsB (d : Nat) : Nat := spN (d - 1) 2

theorem lnM_lt (n : Nat) : lnM n < 2 ^ lnB n := by
  unfold lnM lnB
  split
  · decide
  · exact Nat.mod_lt _ (Nat.two_pow_pos _)

theorem dsM_lt (d : Nat) : dsM d < 2 ^ dsB d := Nat.mod_lt _ (Nat.two_pow_pos _)

theorem lnB_le (n : Nat) (h : n ≤ 258) : lnB n ≤ 5 := by
  unfold lnB
  split
  · omega
  · unfold spN
    have := bl_le_of (n - 3) 8 (by omega)
    omega

theorem dsB_le (d : Nat) (h : d ≤ 32768) (h1 : 1 ≤ d) : dsB d ≤ 13 := by
  unfold dsB spN
  have := bl_le_of (d - 1) 15 (by omega)
  omega

theorem lnS_bd (n : Nat) (h1 : 3 ≤ n) (h2 : n ≤ 258) : 257 ≤ lnS n ∧ lnS n ≤ 285 := by
  unfold lnS
  split
  · omega
  · by_cases h : n - 3 < 8
    · have := (sp_small (n - 3) 3 h).2.1
      omega
    · obtain ⟨a, b, c⟩ := sp_great (n - 3) 3 (by omega) (by omega)
      have hn : spN (n - 3) 3 ≤ 5 := by unfold spN; have := bl_le_of (n - 3) 8 (by omega); omega
      unfold spS
      simp only [show (3 : Nat) - 1 = 2 from rfl] at *
      omega

theorem dsS_lt (d : Nat) (h1 : 1 ≤ d) (h2 : d ≤ 32768) : dsS d < 30 := by
  unfold dsS
  by_cases h : d - 1 < 4
  · have := (sp_small (d - 1) 2 h).2.1
    omega
  · obtain ⟨a, b, c⟩ := sp_great (d - 1) 2 (by omega) (by omega)
    have hn : spN (d - 1) 2 ≤ 13 := by unfold spN; have := bl_le_of (d - 1) 15 (by omega); omega
    unfold spS
    simp only [show (2 : Nat) - 1 = 1 from rfl] at *
    omega

theorem len_read {M m u n : Nat} (h1 : 3 ≤ n) (h2 : n ≤ 258) (hm : u + lnB n ≤ 8 * m) (hv : M / 2 ^ u % 2 ^ lnB n = lnM n) : lenP M m (lnS n) u = .ok (n, u + lnB n) := by
  have hb := lnS_bd n h1 h2
  unfold lnS lnB lnM at *
  by_cases e : n = 258
  · simp only [if_pos e] at *
    unfold lenP
    rw [if_neg (by omega), if_pos rfl, e]
    rfl
  · simp only [if_neg e] at *
    by_cases h : n - 3 < 8
    · obtain ⟨a, b, c⟩ := sp_small (n - 3) 3 h
      rw [a, b] at *
      unfold lenP
      rw [if_neg (by omega), if_neg (by omega), if_pos (by omega), show n - 3 + 257 - 254 = n by omega]
      rfl
    · obtain ⟨a, b, c⟩ := sp_great (n - 3) 3 (by omega) (by omega)
      have hk := sp_back (n - 3) 3
      have hn : spN (n - 3) 3 ≤ 5 := by unfold spN; have := bl_le_of (n - 3) 8 (by omega); omega
      obtain ⟨N, hN⟩ : ∃ N, spN (n - 3) 3 = N := ⟨_, rfl⟩
      obtain ⟨q, hq⟩ : ∃ q, (n - 3) / 2 ^ N = q := ⟨_, rfl⟩
      have hs : spS (n - 3) 3 = N * 4 + q := by unfold spS; rw [hN, hq]
      rw [hN] at a b c hk hm hv hn
      rw [hq] at b c hk
      rw [hN, hs]
      rw [hs] at hb
      simp only [show (3 : Nat) - 1 = 2 from rfl] at *
      have h285 : N * 4 + q + 257 ≠ 285 := by
        intro e2
        have h5 : N = 5 := by omega
        have h8 : q = 8 := by omega
        omega
      unfold lenP numP
      rw [if_neg (by omega), if_neg h285, if_neg (by omega), show N * 4 + q + 257 - 257 = N * 4 + q by omega, show (N * 4 + q) / 4 - 1 = N by omega, show 4 + (N * 4 + q) % 4 = q by omega, if_pos hm, hv]
      congr 2
      omega

theorem dis_read {D : List Int} {M m t u d : Nat} (h1 : 1 ≤ d) (h2 : d ≤ 32768) (hs : symV D M m t = .ok (dsS d, u)) (hm : u + dsB d ≤ 8 * m) (hv : M / 2 ^ u % 2 ^ dsB d = dsM d) : disP D M m t = .ok (d, u + dsB d) := by
  have hb := dsS_lt d h1 h2
  unfold disP
  rw [hs]
  simp only
  rw [if_neg (by omega)]
  unfold dsS dsB dsM at *
  by_cases h : d - 1 < 4
  · obtain ⟨a, b, c⟩ := sp_small (d - 1) 2 h
    rw [a, b] at *
    rw [if_pos h, show d - 1 + 1 = d by omega]
    rfl
  · obtain ⟨a, b, c⟩ := sp_great (d - 1) 2 (by omega) (by omega)
    have hk := sp_back (d - 1) 2
    obtain ⟨N, hN⟩ : ∃ N, spN (d - 1) 2 = N := ⟨_, rfl⟩
    obtain ⟨q, hq⟩ : ∃ q, (d - 1) / 2 ^ N = q := ⟨_, rfl⟩
    have hs2 : spS (d - 1) 2 = N * 2 + q := by unfold spS; rw [hN, hq]
    rw [hN] at a b c hk hm hv
    rw [hq] at b c hk
    rw [hN, hs2]
    simp only [show (2 : Nat) - 1 = 1 from rfl] at *
    unfold numP
    rw [if_neg (by omega), show (N * 2 + q) / 2 - 1 = N by omega, show 2 + (N * 2 + q) % 2 = q by omega, if_pos hm, hv]
    congr 2
    omega

/-- A token: a match, or, where its length is 0, one byte as it is. -/
structure Tk where
  c : Nat
  n : Nat
  d : Nat

def tkT (O : List Nat) (t : Tk) : List Nat := if t.n = 0 then O ++ [t.c] else copyP O t.d t.n

def tkOk (O : List Nat) (t : Tk) : Prop := (t.n = 0 ∧ t.c < 256 ∧ t.d = 0) ∨ (3 ≤ t.n ∧ t.n ≤ 258 ∧ 1 ≤ t.d ∧ t.d ≤ 32768 ∧ t.d ≤ O.length ∧ t.c = 0)

/-- Behind O the tokens tell P. -/
inductive Tks : List Nat → List Tk → List Nat → Prop
  | nil {O : List Nat} : Tks O [] O
  | cons {O P : List Nat} {t : Tk} {ts : List Tk} : tkOk O t → Tks (tkT O t) ts P → Tks O (t :: ts) P

theorem tkT_len (O : List Nat) (t : Tk) : (tkT O t).length = O.length + max 1 t.n := by
  unfold tkT
  split
  · rename_i h; rw [h]; simp
  · rw [copyP_length]; omega

theorem Tks.len {O P : List Nat} {ts : List Tk} (h : Tks O ts P) : O.length + ts.length ≤ P.length := by
  induction h with
  | nil => simp
  | cons h1 h2 ih => rw [tkT_len] at ih; simp only [List.length_cons]; omega

theorem Tks.snoc {O P : List Nat} {ts : List Tk} {t : Tk} (h : Tks O ts P) (ht : tkOk P t) : Tks O (ts ++ [t]) (tkT P t) := by
  induction h with
  | nil => exact .cons ht .nil
  | cons h1 h2 ih => exact .cons h1 (ih ht)

/-- What is laid of a token, by codes of lengths L and D. -/
def tkP (L D : List Int) (t : Tk) : List (Nat × Nat) := if t.n = 0 then [cdP L t.c, (0, 0)] else [cdP L (lnS t.n), (lnM t.n, lnB t.n), cdP D (dsS t.d), (dsM t.d, dsB t.d)]

def tksP (L D : List Int) (ts : List Tk) : List (Nat × Nat) := ts.flatMap (tkP L D)

/-- The symbols of all tokens have codes. -/
def tkC (L D : List Int) (t : Tk) : Prop := if t.n = 0 then 0 < L.getD t.c 0 else 0 < L.getD (lnS t.n) 0 ∧ 0 < D.getD (dsS t.d) 0

theorem getD_pos_lt {L : List Int} {i : Nat} (h : 0 < L.getD i 0) : i < L.length := by
  rcases Nat.lt_or_ge i L.length with g | g
  · exact g
  · rw [List.getD_eq_getElem?_getD, List.getElem?_eq_none g] at h; simp at h

theorem tk_lit {L D : List Int} {t : Tk} (h : t.n = 0) : tkP L D t = [cdP L t.c, (0, 0)] := by unfold tkP; rw [if_pos h]

theorem tk_mat {L D : List Int} {t : Tk} (h : ¬ t.n = 0) : tkP L D t = [cdP L (lnS t.n), (lnM t.n, lnB t.n), cdP D (dsS t.d), (dsM t.d, dsB t.d)] := by unfold tkP; rw [if_neg h]

/-- Tokens that were laid, and the end of the block, are read. -/
theorem tks_read {L D : List Int} (hL : newErr L = 0) (hD : newErr D = 0) {M m : Nat} {most : Int} (hE : 0 < L.getD 256 0) {O P : List Nat} {ts : List Tk} (h : Tks O ts P) :
    ∀ (t : Nat), (∀ x ∈ ts, tkC L D x) → ∀ ps, Bt M m t (tksP L D ts ++ (cdP L 256 :: (0, 0) :: ps)) → t + pcL (tksP L D ts) + (cdP L 256).2 ≤ 8 * m → (P.length : Int) ≤ most →
      Syms L D M m most t O (.ok (t + pcL (tksP L D ts) + (cdP L 256).2, P)) := by
  induction h with
  | nil =>
    intro t _ ps hb hm _
    obtain ⟨h1, _⟩ := cd_read hL (i := 256) (getD_pos_lt hE) hE hb (by simpa [tksP, pcL] using hm)
    simpa [tksP, pcL] using Syms.stop h1
  | @cons O P x ts hx hts ih =>
    intro t hc ps hb hm hP
    have hcx := hc x (by simp)
    have hcl : ∀ y ∈ ts, tkC L D y := fun y hy => hc y (by simp [hy])
    have hlen := hts.len
    rw [tkT_len] at hlen
    have hsplit : tksP L D (x :: ts) = tkP L D x ++ tksP L D ts := by simp [tksP]
    rw [hsplit] at hb hm ⊢
    rw [pcL_append] at hm ⊢
    rcases hx with ⟨n0, hc256, _⟩ | ⟨n3, n258, d1, d2, dO, _⟩
    · rw [tk_lit n0] at hb hm ⊢
      have hx0 : 0 < L.getD x.c 0 := by unfold tkC at hcx; rwa [if_pos n0] at hcx
      have hq : pcL [cdP L x.c, (0, 0)] = (cdP L x.c).2 := by simp [pcL]
      rw [hq] at hm ⊢
      obtain ⟨a1, b1⟩ := cd_read hL (i := x.c) (getD_pos_lt hx0) hx0 (ps := (0, 0) :: (tksP L D ts ++ (cdP L 256 :: (0, 0) :: ps))) (by simpa using hb) (by omega)
      obtain ⟨_, b2⟩ := Bt.head (q := (0, 0)) b1 (by decide)
      have := ih (t + (cdP L x.c).2) hcl ps (by simpa using b2) (by omega) hP
      unfold tkT at this
      rw [if_pos n0] at this
      rw [← Nat.add_assoc] 
      exact Syms.lit a1 hc256 (by omega) this
    · have nn : ¬ x.n = 0 := by omega
      rw [tk_mat nn] at hb hm ⊢
      have hx0 : 0 < L.getD (lnS x.n) 0 ∧ 0 < D.getD (dsS x.d) 0 := by unfold tkC at hcx; rwa [if_neg nn] at hcx
      obtain ⟨c1, hc1⟩ : ∃ c, (cdP L (lnS x.n)).2 = c := ⟨_, rfl⟩
      obtain ⟨c2, hc2⟩ : ∃ c, (cdP D (dsS x.d)).2 = c := ⟨_, rfl⟩
      have hq : pcL [cdP L (lnS x.n), (lnM x.n, lnB x.n), cdP D (dsS x.d), (dsM x.d, dsB x.d)] = c1 + lnB x.n + c2 + dsB x.d := by simp [pcL, hc1, hc2]; omega
      rw [hq] at hm ⊢
      obtain ⟨a1, b1⟩ := cd_read hL (i := lnS x.n) (getD_pos_lt hx0.1) hx0.1 (ps := (lnM x.n, lnB x.n) :: cdP D (dsS x.d) :: (dsM x.d, dsB x.d) :: (tksP L D ts ++ (cdP L 256 :: (0, 0) :: ps))) (by simpa using hb) (by omega)
      rw [hc1] at a1 b1
      obtain ⟨e2, b2⟩ := Bt.head (q := (lnM x.n, lnB x.n)) b1 (lnM_lt x.n)
      have v2 := bits_val M m _ _ _ (lnM_lt x.n) e2 (by first | omega | (simp only; omega))
      obtain ⟨a3, b3⟩ := cd_read hD (i := dsS x.d) (getD_pos_lt hx0.2) hx0.2 (ps := (dsM x.d, dsB x.d) :: (tksP L D ts ++ (cdP L 256 :: (0, 0) :: ps))) b2 (by first | omega | (simp only; omega))
      rw [hc2] at a3 b3
      obtain ⟨e4, b4⟩ := Bt.head (q := (dsM x.d, dsB x.d)) b3 (dsM_lt x.d)
      have v4 := bits_val M m _ _ _ (dsM_lt x.d) e4 (by first | omega | (simp only; omega))
      simp only at v2 v4 a3 b4
      have hl := len_read (M := M) (m := m) (u := t + c1) n3 n258 (by omega) v2
      have hd := dis_read d1 d2 a3 (by omega) v4
      have hmt : matchP D M m most (lnS x.n) (t + c1) O = .ok (t + c1 + lnB x.n + c2 + dsB x.d, copyP O x.d x.n) := by
        unfold matchP
        rw [hl]
        simp only
        rw [hd]
        simp only
        rw [if_neg (by omega), if_pos (by omega)]
      have := ih (t + c1 + lnB x.n + c2 + dsB x.d) hcl ps b4 (by omega) hP
      unfold tkT at this
      rw [if_neg nn] at this
      rw [show t + (c1 + lnB x.n + c2 + dsB x.d + pcL (tksP L D ts)) + (cdP L 256).2 = t + c1 + lnB x.n + c2 + dsB x.d + pcL (tksP L D ts) + (cdP L 256).2 by omega]
      exact Syms.mat a1 (by have := lnS_bd x.n n3 n258; omega) hmt this

end Go.Proofs.YtcgjmkcigmmjjaaGreatDoor

namespace Go.Proofs.YtcgjmkcigmmjjaaGreatDoor
set_option linter.unusedVariables false
/-- A step that tells lengths: the symbol, the number behind it, its bits. -/
structure Sp where
  s : Nat
  m : Nat
  b : Nat

/-- Behind the lengths A the step tells the length v so many times. -/
def spOk (A : List Int) (x : Sp) (n : Nat) (v : Int) : Prop :=
  (x.s = 18 ∧ x.b = 7 ∧ 11 ≤ n ∧ n ≤ 138 ∧ x.m = n - 11 ∧ v = 0) ∨ (x.s = 17 ∧ x.b = 3 ∧ 3 ≤ n ∧ n ≤ 10 ∧ x.m = n - 3 ∧ v = 0) ∨
  (x.s = 16 ∧ x.b = 2 ∧ 3 ≤ n ∧ n ≤ 6 ∧ x.m = n - 3 ∧ 0 < A.length ∧ v = A.getD (A.length - 1) 0) ∨ (x.s ≤ 15 ∧ x.b = 0 ∧ x.m = 0 ∧ n = 1 ∧ v = (x.s : Int))

inductive Sps : List Int → List Sp → List Int → Prop
  | nil {A : List Int} : Sps A [] A
  | cons {A B : List Int} {x : Sp} {xs : List Sp} {n : Nat} {v : Int} : spOk A x n v → Sps (A ++ List.replicate n v) xs B → Sps A (x :: xs) B

theorem Sps.snoc {A B : List Int} {xs : List Sp} {x : Sp} {n : Nat} {v : Int} (h : Sps A xs B) (hx : spOk B x n v) : Sps A (xs ++ [x]) (B ++ List.replicate n v) := by
  induction h with
  | nil => exact .cons hx .nil
  | cons h1 h2 ih => exact .cons h1 (ih hx)

theorem spOk.pos {A : List Int} {x : Sp} {n : Nat} {v : Int} (h : spOk A x n v) : 1 ≤ n := by unfold spOk at h; omega

theorem Sps.len {A B : List Int} {xs : List Sp} (h : Sps A xs B) : A.length + xs.length ≤ B.length := by
  induction h with
  | nil => simp
  | cons h1 h2 ih =>
    have := h1.pos
    rw [List.length_append, List.length_replicate] at ih
    simp only [List.length_cons]
    omega

theorem spOk.lt {A : List Int} {x : Sp} {n : Nat} {v : Int} (h : spOk A x n v) : x.m < 2 ^ x.b ∧ x.s < 19 ∧ x.b ≤ 7 := by
  rcases h with ⟨h1, h2, h3, h4, h5, _⟩ | ⟨h1, h2, h3, h4, h5, _⟩ | ⟨h1, h2, h3, h4, h5, _⟩ | ⟨h1, h2, h3, _⟩
  · rw [h2]; refine ⟨?_, by omega, by omega⟩; show x.m < 128; omega
  · rw [h2]; refine ⟨?_, by omega, by omega⟩; show x.m < 8; omega
  · rw [h2]; refine ⟨?_, by omega, by omega⟩; show x.m < 4; omega
  · rw [h2, h3]; exact ⟨by decide, by omega, by omega⟩

/-- What is laid of the steps, by codes of lengths C. -/
def spP (C : List Int) (x : Sp) : List (Nat × Nat) := [cdP C x.s, (x.m, x.b)]

def spsP (C : List Int) (xs : List Sp) : List (Nat × Nat) := xs.flatMap (spP C)

theorem sps_read {C : List Int} (hC : newErr C = 0) {M m many : Nat} {A B : List Int} {xs : List Sp} (h : Sps A xs B) :
    ∀ (t : Nat), (∀ x ∈ xs, 0 < C.getD x.s 0) → ∀ ps, Bt M m t (spsP C xs ++ ps) → t + pcL (spsP C xs) ≤ 8 * m → B.length = many →
      Lens C M m many t A (.ok (t + pcL (spsP C xs), B)) ∧ Bt M m (t + pcL (spsP C xs)) ps := by
  induction h with
  | nil =>
    intro t _ ps hb hm hl
    exact ⟨by simpa [spsP, pcL] using Lens.done (by omega), by simpa [spsP, pcL] using hb⟩
  | @cons A B x xs n v hx hxs ih =>
    intro t hc ps hb hm hl
    have hcx := hc x (by simp)
    have hsplit : spsP C (x :: xs) = cdP C x.s :: (x.m, x.b) :: spsP C xs := by simp [spsP, spP]
    rw [hsplit] at hb hm ⊢
    rw [pcL_cons, pcL_cons] at hm ⊢
    have hlen := hxs.len
    rw [List.length_append, List.length_replicate] at hlen
    have hpos := hx.pos
    obtain ⟨hlt, hs19, hb7⟩ := hx.lt
    obtain ⟨a1, b1⟩ := cd_read hC (i := x.s) (getD_pos_lt hcx) hcx (ps := (x.m, x.b) :: (spsP C xs ++ ps)) hb (by omega)
    obtain ⟨e2, b2⟩ := Bt.head (q := (x.m, x.b)) b1 hlt
    simp only at hm ⊢
    have v2 := bits_val M m _ x.m x.b hlt e2 (by omega)
    simp only at b2
    obtain ⟨i1, i2⟩ := ih (t + (cdP C x.s).2 + x.b) (fun y hy => hc y (by simp [hy])) ps b2 (by omega) hl
    have et : t + ((cdP C x.s).2 + (x.b + pcL (spsP C xs))) = t + (cdP C x.s).2 + x.b + pcL (spsP C xs) := by omega
    rw [et]
    refine ⟨?_, i2⟩
    have hrep : Lens C M m many (t + (cdP C x.s).2 + x.b) (A ++ List.replicate n (lenOf x.s A)) (.ok (t + (cdP C x.s).2 + x.b + pcL (spsP C xs), B)) ∧ ¬ (x.s = 16 ∧ A.length = 0) ∧ timP M m x.s (t + (cdP C x.s).2) = .ok (n, t + (cdP C x.s).2 + x.b) := by
      rcases hx with ⟨h1, h2, h3, h4, h5, h6⟩ | ⟨h1, h2, h3, h4, h5, h6⟩ | ⟨h1, h2, h3, h4, h5, h6, h7⟩ | ⟨h1, h2, h3, h4, h5⟩
      · have el : lenOf x.s A = v := by unfold lenOf; rw [if_neg (by omega), if_pos (by omega), h6]
        refine ⟨by rw [el]; exact i1, by omega, ?_⟩
        unfold timP numP
        rw [h2] at v2 hm
        rw [if_neg (by omega), if_neg (by omega), if_pos h1, if_pos (by omega), h2, v2, h5, show 11 + (n - 11) = n by omega]
      · have el : lenOf x.s A = v := by unfold lenOf; rw [if_neg (by omega), if_pos (by omega), h6]
        refine ⟨by rw [el]; exact i1, by omega, ?_⟩
        unfold timP numP
        rw [h2] at v2 hm
        rw [if_neg (by omega), if_pos h1, if_pos (by omega), h2, v2, h5, show 3 + (n - 3) = n by omega]
      · have el : lenOf x.s A = v := by unfold lenOf; rw [if_pos h1, h7]
        refine ⟨by rw [el]; exact i1, by omega, ?_⟩
        unfold timP numP
        rw [h2] at v2 hm
        rw [if_pos h1, if_pos (by omega), h2, v2, h5, show 3 + (n - 3) = n by omega]
      · have el : lenOf x.s A = v := by unfold lenOf; rw [if_neg (by omega), if_neg (by omega), h5]
        refine ⟨by rw [el]; exact i1, by omega, ?_⟩
        unfold timP
        rw [if_neg (by omega), if_neg (by omega), if_neg (by omega), h2, h4]
        rfl
    exact Lens.more (by omega) a1 hrep.2.1 hrep.2.2 (by omega) hrep.1

/-- The lengths of the lengths' codes, in their order. -/
def orP (C : List Int) : Nat → Nat → List (Nat × Nat)
  | _, 0 => []
  | k, n + 1 => ((C.getD (ord k) 0).toNat, 3) :: orP C (k + 1) n

theorem orP_len (C : List Int) : ∀ k n, pcL (orP C k n) = 3 * n
  | _, 0 => rfl
  | k, n + 1 => by
    show 3 + pcL (orP C (k + 1) n) = _
    rw [orP_len C (k + 1) n]; omega

theorem orP_snoc (C : List Int) : ∀ n k, orP C k (n + 1) = orP C k n ++ [((C.getD (ord (k + n)) 0).toNat, 3)]
  | 0, k => by simp [orP]
  | n + 1, k => by
    show ((C.getD (ord k) 0).toNat, 3) :: orP C (k + 1) (n + 1) = _
    rw [orP_snoc C n (k + 1), show k + 1 + n = k + (n + 1) by omega]
    rfl

theorem orP_read {C : List Int} (h7 : ∀ j, (C.getD j 0).toNat < 8) {M m : Nat} : ∀ (n k t : Nat) (ps : List (Nat × Nat)), Bt M m t (orP C k n ++ ps) → t + 3 * n ≤ 8 * m → (∀ i, i < n → M / 2 ^ (t + 3 * i) % 8 = (C.getD (ord (k + i)) 0).toNat) ∧ Bt M m (t + 3 * n) ps
  | 0, k, t, ps, h, hm => ⟨fun i hi => by omega, by simpa [orP] using h⟩
  | n + 1, k, t, ps, h, hm => by
    obtain ⟨h1, h2⟩ := Bt.head (q := ((C.getD (ord k) 0).toNat, 3)) (ps := orP C (k + 1) n ++ ps) h (h7 _)
    have hv := bits_val M m t _ 3 (h7 (ord k)) h1 (by omega)
    obtain ⟨h3, h4⟩ := orP_read h7 n (k + 1) (t + 3) ps h2 (by omega)
    refine ⟨fun i hi => ?_, by rw [show t + 3 * (n + 1) = t + 3 + 3 * n by omega]; exact h4⟩
    cases i with
    | zero => simpa using hv
    | succ i =>
      have := h3 i (by omega)
      rw [show t + 3 * (i + 1) = t + 3 + 3 * i by omega, show k + (i + 1) = k + 1 + i by omega]
      exact this

theorem clF_no (M t j : Nat) : ∀ k, (∀ i, i < k → ord i ≠ j) → clF M t k j = 0
  | 0, _ => rfl
  | k + 1, h => by
    simp only [clF]
    rw [if_neg (fun e => h k (by omega) e.symm)]
    exact clF_no M t j k (fun i hi => h i (by omega))

theorem clL_of {C : List Int} {M t k : Nat} (hl : C.length = 19) (h0 : ∀ j, 0 ≤ C.getD j 0) (hk : k ≤ 19) (hz : ∀ i, k ≤ i → i < 19 → C.getD (ord i) 0 = 0) (h : ∀ i, i < k → M / 2 ^ (t + 3 * i) % 8 = (C.getD (ord i) 0).toNat) : clL M t k = C := by
  apply List.ext_getElem
  · rw [clL_length, hl]
  · intro j h1 h2
    rw [clL_length] at h1
    have e1 := clL_getD M t k j h1
    have e2 : clF M t k j = C.getD j 0 := by
      by_cases hj : ∃ i, i < k ∧ ord i = j
      · exact clF_of (fun j => C.getD j 0) M t k (fun i hi => by rw [h i hi]; have := h0 (ord i); omega) j hj
      · rw [clF_no M t j k (fun i hi e => hj ⟨i, hi, e⟩)]
        obtain ⟨i, hi, rfl⟩ := ord_onto j h1
        exact (hz i (by rcases Nat.lt_or_ge i k with g | g; exact absurd ⟨i, g, rfl⟩ hj; exact g) hi).symm
    exact (getD_i (clL M t k) j (by rw [clL_length]; exact h1)).symm.trans (e1.trans (e2.trans (getD_i C j h2)))

/-- Lengths without the noughts at their end. -/
theorem cf_trim {L : List Int} {n : Nat} (hz : ∀ i, n ≤ i → L.getD i 0 = 0) : cf (L.take n) = cf L := by
  funext k
  unfold cf
  by_cases hk : k = 0
  · rw [if_pos hk, if_pos hk]
  · rw [if_neg hk, if_neg hk]
    conv => rhs; rw [← List.take_append_drop n L, List.count_append]
    have : (L.drop n).count (k : Int) = 0 := by
      rw [List.count_eq_zero]
      intro hm
      obtain ⟨i, hi, e⟩ := List.mem_iff_getElem.1 hm
      have h2 := hz (n + i) (by omega)
      rw [List.length_drop] at hi
      rw [List.getElem_drop] at e
      rw [getD_i L (n + i) (by omega), e] at h2
      omega
    rw [this]; simp

theorem getD_trim {L : List Int} {n i : Nat} (hi : i < n) : (L.take n).getD i 0 = L.getD i 0 := by
  rw [List.getD_eq_getElem?_getD, List.getD_eq_getElem?_getD, List.getElem?_take, if_pos hi]

theorem codeOf_trim {L : List Int} {n i : Nat} (hz : ∀ i, n ≤ i → L.getD i 0 = 0) (hi : i < n) : codeOf (L.take n) i = codeOf L i := by
  unfold codeOf
  rw [getD_trim hi, cf_trim hz, List.take_take, Nat.min_eq_left (Nat.le_of_lt hi)]

theorem cdP_trim {L : List Int} {n i : Nat} (hz : ∀ i, n ≤ i → L.getD i 0 = 0) (hi : i < n) : cdP (L.take n) i = cdP L i := by
  unfold cdP
  rw [codeOf_trim hz hi, getD_trim hi]

theorem newErr_trim {L : List Int} {n : Nat} (hz : ∀ i, n ≤ i → L.getD i 0 = 0) (h : newErr L = 0) : newErr (L.take n) = 0 := by
  have hok := (newErr_codes L h).2.1
  have hok2 : okB (L.take n) = true := by
    rw [okB_iff] at hok ⊢
    exact ⟨by rw [List.length_take]; omega, fun x hx => hok.2 x (List.mem_of_mem_take hx)⟩
  unfold newErr at h ⊢
  rw [hok2, cf_trim hz]
  rw [hok] at h
  exact h

theorem pos_lt_trim {L : List Int} {n i : Nat} (hz : ∀ i, n ≤ i → L.getD i 0 = 0) (h : 0 < L.getD i 0) : i < n := by
  rcases Nat.lt_or_ge i n with g | g
  · exact g
  · rw [hz i g] at h; omega

theorem tkC_trim {L D : List Int} {a b : Nat} (hL : ∀ i, a ≤ i → L.getD i 0 = 0) (hD : ∀ i, b ≤ i → D.getD i 0 = 0) {t : Tk} (h : tkC L D t) : tkC (L.take a) (D.take b) t ∧ tkP (L.take a) (D.take b) t = tkP L D t := by
  unfold tkC tkP at *
  by_cases hn : t.n = 0
  · simp only [if_pos hn] at *
    have h1 := pos_lt_trim hL h
    exact ⟨by rw [getD_trim h1]; exact h, by rw [cdP_trim hL h1]⟩
  · simp only [if_neg hn] at *
    have h1 := pos_lt_trim hL h.1
    have h2 := pos_lt_trim hD h.2
    exact ⟨⟨by rw [getD_trim h1]; exact h.1, by rw [getD_trim h2]; exact h.2⟩, by rw [cdP_trim hL h1, cdP_trim hD h2]⟩

theorem tksP_trim {L D : List Int} {a b : Nat} (hL : ∀ i, a ≤ i → L.getD i 0 = 0) (hD : ∀ i, b ≤ i → D.getD i 0 = 0) : ∀ {ts : List Tk}, (∀ x ∈ ts, tkC L D x) → tksP (L.take a) (D.take b) ts = tksP L D ts
  | [], _ => rfl
  | t :: ts, h => by
    have h1 := (tkC_trim hL hD (h t (by simp))).2
    have h2 := tksP_trim hL hD (ts := ts) (fun x hx => h x (by simp [hx]))
    unfold tksP at *
    rw [List.flatMap_cons, List.flatMap_cons, h1, h2]

/-- A block of kind 2, the only one. -/
def ownPs (L D C : List Int) (a b k : Nat) (xs : List Sp) (ts : List Tk) : List (Nat × Nat) :=
  (1, 1) :: (2, 2) :: (a - 257, 5) :: (b - 1, 5) :: (k - 4, 4) :: (orP C 0 k ++ (spsP C xs ++ (tksP L D ts ++ [cdP L 256, (0, 0)])))

theorem own_read {L D C : List Int} {a b k : Nat} {xs : List Sp} {ts : List Tk} {P : List Nat} {M m : Nat} {most : Int}
    (hL : newErr L = 0) (hD : newErr D = 0) (hC : newErr C = 0) (la : a ≤ L.length) (lb : b ≤ D.length) (a1 : 257 ≤ a) (a2 : a ≤ 286) (b1 : 1 ≤ b) (b2 : b ≤ 30) (hLz : ∀ i, a ≤ i → L.getD i 0 = 0) (hDz : ∀ i, b ≤ i → D.getD i 0 = 0)
    (hCl : C.length = 19) (hC0 : ∀ j, 0 ≤ C.getD j 0) (hC7 : ∀ j, (C.getD j 0).toNat < 8) (k1 : 4 ≤ k) (k2 : k ≤ 19) (hCz : ∀ i, k ≤ i → i < 19 → C.getD (ord i) 0 = 0)
    (hxs : Sps [] xs (L.take a ++ D.take b)) (hxc : ∀ x ∈ xs, 0 < C.getD x.s 0) (hE : 0 < L.getD 256 0) (hts : Tks [] ts P) (htc : ∀ x ∈ ts, tkC L D x)
    (hb : Bt M m 0 (ownPs L D C a b k xs ts)) (hm : pcL (ownPs L D C a b k xs ts) ≤ 8 * m) (ho : (P.length : Int) ≤ most) (n : Nat) :
    BlksF M m most n 0 [] (.ok (pcL (ownPs L D C a b k xs ts), P)) := by
  obtain ⟨T, hT⟩ : ∃ T, T = pcL (tksP L D ts) := ⟨_, rfl⟩
  obtain ⟨X, hX⟩ : ∃ X, X = pcL (spsP C xs) := ⟨_, rfl⟩
  obtain ⟨E, hE2⟩ : ∃ E, E = (cdP L 256).2 := ⟨_, rfl⟩
  have hlen : pcL (ownPs L D C a b k xs ts) = 17 + 3 * k + X + T + E := by
    unfold ownPs
    rw [pcL_cons, pcL_cons, pcL_cons, pcL_cons, pcL_cons, pcL_append, pcL_append, pcL_append, orP_len, ← hX, ← hT]
    have : pcL [cdP L 256, (0, 0)] = E := by rw [hE2]; simp [pcL]
    rw [this]
    simp only
    omega
  rw [hlen] at hm ⊢
  obtain ⟨c1, d1⟩ := Bt.head (q := (1, 1)) hb (by decide)
  obtain ⟨c2, d2⟩ := Bt.head (q := (2, 2)) d1 (by decide)
  obtain ⟨c3, d3⟩ := Bt.head (q := (a - 257, 5)) d2 (by show a - 257 < 32; omega)
  obtain ⟨c4, d4⟩ := Bt.head (q := (b - 1, 5)) d3 (by show b - 1 < 32; omega)
  obtain ⟨c5, d5⟩ := Bt.head (q := (k - 4, 4)) d4 (by show k - 4 < 16; omega)
  have v1 := bits_val M m _ 1 1 (by decide) c1 (by simp; omega)
  have v2 := bits_val M m _ 2 2 (by decide) c2 (by simp; omega)
  have v3 := bits_val M m _ (a - 257) 5 (by show a - 257 < 32; omega) c3 (by simp; omega)
  have v4 := bits_val M m _ (b - 1) 5 (by show b - 1 < 32; omega) c4 (by simp; omega)
  have v5 := bits_val M m _ (k - 4) 4 (by show k - 4 < 16; omega) c5 (by simp; omega)
  simp only [Nat.zero_add] at v1 v2 v3 v4 v5
  obtain ⟨e1, e2⟩ := orP_read hC7 k 0 17 _ d5 (by omega)
  have hcl : clL M 17 k = C := clL_of hCl hC0 k2 hCz (fun i hi => by have := e1 i hi; rwa [Nat.zero_add] at this)
  have hAl : (L.take a ++ D.take b).length = a + b := by rw [List.length_append, List.length_take, List.length_take]; omega
  obtain ⟨f1, f2⟩ := sps_read hC (M := M) (m := m) (many := a + b) hxs (17 + 3 * k) hxc _ e2 (by omega) hAl
  rw [← hX] at f1 f2
  have hlens : lensR M m 3 = .ok (a, 17 + 3 * k + X, L.take a ++ D.take b) := by
    unfold lensR
    rw [if_pos (by omega), show 3 + 5 = 8 from rfl, show 3 + 10 = 13 from rfl, show 3 + 14 = 17 from rfl]
    have w3 : M / 2 ^ 3 % 32 = a - 257 := v3
    have w4 : M / 2 ^ 8 % 32 = b - 1 := v4
    have w5 : M / 2 ^ 13 % 16 = k - 4 := v5
    rw [w3, w4, w5, if_neg (by omega), show k - 4 + 4 = k by omega, if_pos (by omega), hcl, if_pos hC, show a - 257 + 257 = a by omega, show b - 1 + 1 = b by omega, f1.val]
    rfl
  have htl : (L.take a).length = a := by rw [List.length_take]; omega
  have htk : (L.take a ++ D.take b).take a = L.take a := List.take_left' htl
  have hdr : (L.take a ++ D.take b).drop a = D.take b := List.drop_left' htl
  have h256 : (L.take a ++ D.take b).getD 256 0 = L.getD 256 0 := by
    rw [List.getD_eq_getElem?_getD, List.getElem?_append_left (by omega), ← List.getD_eq_getElem?_getD, getD_trim (by omega)]
  have hL2 := newErr_trim hLz hL
  have hD2 := newErr_trim hDz hD
  have hown : ownP M m 3 = .ok (17 + 3 * k + X, L.take a, D.take b) := by
    rw [ownP_lensR, hlens]
    show ownA a _ _ = _
    unfold ownA
    rw [h256, htk, hdr, if_neg (by omega), if_neg (fun q => q hL2), if_neg (fun q => q hD2)]
  have htp := tksP_trim hLz hDz htc
  have h256p := cdP_trim hLz (i := 256) (by omega)
  have hsy := tks_read hL2 hD2 (M := M) (m := m) (most := most) (by rw [getD_trim (by omega)]; exact hE) hts (17 + 3 * k + X) (fun x hx => (tkC_trim hLz hDz (htc x hx)).1) [] (by rw [htp, h256p]; exact f2) (by rw [htp, h256p, ← hT, ← hE2]; omega) (by simpa using ho)
  rw [htp, h256p, ← hT, ← hE2] at hsy
  refine BlksF.last ?_ ?_
  · simpa using v1
  · unfold blkF
    rw [if_pos ⟨by omega, by simpa using v2⟩, hown]
    exact hsy.val

/-- A block of kind 1, the only one. -/
def fixPs (ts : List Tk) : List (Nat × Nat) := (1, 1) :: (1, 2) :: (tksP FL FD ts ++ [cdP FL 256, (0, 0)])

theorem fix_pos (i : Nat) (h : i < 288) : 0 < FL.getD i 0 := by
  have := fix_facts i h
  omega

theorem fixD_pos (i : Nat) (h : i < 30) : 0 < FD.getD i 0 := by
  have := (fixD_facts i (by omega)).1
  omega

theorem tkC_fix {O : List Nat} {t : Tk} (h : tkOk O t) : tkC FL FD t := by
  unfold tkC
  rcases h with ⟨h1, h2, _⟩ | ⟨h1, h2, h3, h4, _, _⟩
  · rw [if_pos h1]; exact fix_pos _ (by omega)
  · rw [if_neg (by omega)]
    exact ⟨fix_pos _ (by have := lnS_bd t.n h1 h2; omega), fixD_pos _ (dsS_lt t.d h3 h4)⟩

theorem Tks.all {O P : List Nat} {ts : List Tk} (h : Tks O ts P) : ∀ x ∈ ts, ∃ O, tkOk O x := by
  induction h with
  | nil => intro x hx; cases hx
  | cons h1 h2 ih =>
    intro x hx
    rcases List.mem_cons.1 hx with rfl | hx
    · exact ⟨_, h1⟩
    · exact ih x hx

theorem fix_read {ts : List Tk} {P : List Nat} {M m : Nat} {most : Int} (hts : Tks [] ts P) (hb : Bt M m 0 (fixPs ts)) (hm : pcL (fixPs ts) ≤ 8 * m) (ho : (P.length : Int) ≤ most) (n : Nat) :
    BlksF M m most n 0 [] (.ok (pcL (fixPs ts), P)) := by
  obtain ⟨T, hT⟩ : ∃ T, T = pcL (tksP FL FD ts) := ⟨_, rfl⟩
  obtain ⟨E, hE2⟩ : ∃ E, E = (cdP FL 256).2 := ⟨_, rfl⟩
  have hlen : pcL (fixPs ts) = 3 + T + E := by
    unfold fixPs
    rw [pcL_cons, pcL_cons, pcL_append, ← hT]
    have : pcL [cdP FL 256, (0, 0)] = E := by rw [hE2]; simp [pcL]
    rw [this]
    simp only
    omega
  rw [hlen] at hm ⊢
  obtain ⟨c1, d1⟩ := Bt.head (q := (1, 1)) hb (by decide)
  obtain ⟨c2, d2⟩ := Bt.head (q := (1, 2)) d1 (by decide)
  have v1 := bits_val M m _ 1 1 (by decide) c1 (by simp; omega)
  have v2 := bits_val M m _ 1 2 (by decide) c2 (by simp; omega)
  simp only [Nat.zero_add] at v1 v2
  have w2 : M / 2 ^ 1 % 4 = 1 := v2
  have hsy := tks_read FL_ok FD_ok (M := M) (m := m) (most := most) (fix_pos 256 (by omega)) hts 3 (fun x hx => by obtain ⟨O, h⟩ := hts.all x hx; exact tkC_fix h) [] d2 (by rw [← hT, ← hE2]; omega) (by simpa using ho)
  rw [← hT, ← hE2] at hsy
  refine BlksF.last ?_ ?_
  · simpa using v1
  · unfold blkF
    rw [if_neg (by rw [show 0 + 1 = 1 from rfl, w2]; omega)]
    unfold blkP
    rw [if_pos (by omega), show 0 + 1 = 1 from rfl, w2, if_neg (by omega), if_pos rfl]
    exact hsy.val

end Go.Proofs.YtcgjmkcigmmjjaaGreatDoor

namespace Go.Proofs.YtcgjmkcigmmjjaaGreatDoor
open Go Go.RowKit
theorem take_same (L : List Int) (at' t n : Nat) (x : Int) (hn : n ≤ t) (hl : at' + t ≤ L.length) (h : ∀ j, j < t → L.getD (at' + j) 0 = x) : L.take (at' + n) = L.take at' ++ List.replicate n x := by
  induction n with
  | zero => simp
  | succ n ih =>
    have hk : at' + n < L.length := by omega
    rw [← Nat.add_assoc, List.take_succ_eq_append_getElem hk, ih (by omega), List.replicate_succ', ← List.append_assoc]
    congr 2
    have := h n (by omega)
    simpa [List.getD, hk] using this

end Go.Proofs.YtcgjmkcigmmjjaaGreatDoor

namespace Go.Proofs.YtcgjmkcigmmjjaaGreatDoor
set_option linter.unusedVariables false
/-- The number of a place's chain, by its first three bytes. -/
def key3 (P : List Nat) (q : Nat) : Nat := P.getD q 0 + P.getD (q + 1) 0 * 256 + P.getD (q + 2) 0 * 65536

def chn (P : List Nat) (n q : Nat) : Nat := key3 P q * 2654435761 % 4294967296 / 2 ^ (32 - n)

theorem chn_lt (P : List Nat) (n q : Nat) (h : n ≤ 32) : chn P n q < 2 ^ n := by
  unfold chn
  rw [Nat.div_lt_iff_lt_mul (Nat.two_pow_pos _), ← Nat.pow_add, show n + (32 - n) = 32 by omega]
  exact Nat.mod_lt _ (by decide)

/-- The last place ahead of k in a chain; there may be none. -/
def pre (P : List Nat) (n c : Nat) : Nat → Int
  | 0 => -32769
  | k + 1 => if chn P n k = c then (k : Int) else pre P n c k

theorem pre_bd (P : List Nat) (n c : Nat) : ∀ k, pre P n c k = -32769 ∨ (0 ≤ pre P n c k ∧ pre P n c k < k)
  | 0 => .inl rfl
  | k + 1 => by
    unfold pre
    split
    · right; omega
    · rcases pre_bd P n c k with h | h
      · exact .inl h
      · right; omega

/-- How many bytes from two places on are the same. -/
def smG (P : List Nat) (a b : Nat) : Nat → Nat → Nat
  | 0, n => n
  | f + 1, n => if P.getD (a + n) 0 = P.getD (b + n) 0 then smG P a b f (n + 1) else n

def smL (P : List Nat) (a b most : Nat) : Nat := smG P a b most 0

theorem smG_le (P : List Nat) (a b : Nat) : ∀ f n, smG P a b f n ≤ f + n ∧ n ≤ smG P a b f n
  | 0, n => by simp [smG]
  | f + 1, n => by
    unfold smG
    split
    · have := smG_le P a b f (n + 1); omega
    · omega

theorem smG_eq (P : List Nat) (a b : Nat) : ∀ f n i, n ≤ i → i < smG P a b f n → P.getD (a + i) 0 = P.getD (b + i) 0
  | 0, n, i, h1, h2 => by simp only [smG] at h2; omega
  | f + 1, n, i, h1, h2 => by
    unfold smG at h2
    split at h2
    · rename_i he
      by_cases e : i = n
      · subst e; exact he
      · exact smG_eq P a b f (n + 1) i (by omega) h2
    · omega

/-- The longest match among so many places of a chain. -/
def mtc (P : List Nat) (n at' most : Nat) : Nat → Int → Nat → Nat → Nat × Nat
  | 0, _, l, d => (l, d)
  | k + 1, z, l, d =>
    if (at' : Int) - z ≤ 32768 ∧ l < most then
      if l < smL P z.toNat at' most then mtc P n at' most k (pre P n (chn P n z.toNat) z.toNat) (smL P z.toNat at' most) (at' - z.toNat)
      else mtc P n at' most k (pre P n (chn P n z.toNat) z.toNat) l d
    else (l, d)

/-- The match at a place; or the byte there. -/
def mat (P : List Nat) (n at' : Nat) : Tk :=
  if min 258 (P.length - at') < 3 then ⟨P.getD at' 0, 0, 0⟩
  else if (mtc P n at' (min 258 (P.length - at')) 128 (pre P n (chn P n at') at') 2 0).2 = 0 then ⟨P.getD at' 0, 0, 0⟩
  else ⟨0, (mtc P n at' (min 258 (P.length - at')) 128 (pre P n (chn P n at') at') 2 0).1, (mtc P n at' (min 258 (P.length - at')) 128 (pre P n (chn P n at') at') 2 0).2⟩

def MtOk (P : List Nat) (at' most l d : Nat) : Prop := (d = 0 ∧ l = 2) ∨ (3 ≤ l ∧ l ≤ most ∧ 1 ≤ d ∧ d ≤ 32768 ∧ d ≤ at' ∧ ∀ i, i < l → P.getD (at' - d + i) 0 = P.getD (at' + i) 0)

theorem mtc_ok (P : List Nat) (n at' most : Nat) : ∀ (k : Nat) (z : Int) (l d : Nat), (z = -32769 ∨ (0 ≤ z ∧ z < at')) → MtOk P at' most l d → MtOk P at' most (mtc P n at' most k z l d).1 (mtc P n at' most k z l d).2
  | 0, z, l, d, _, h => by simpa only [mtc] using h
  | k + 1, z, l, d, hz, h => by
    unfold mtc
    split
    · rename_i hc
      have hz2 : 0 ≤ z ∧ z < at' := by omega
      have hp := pre_bd P n (chn P n z.toNat) z.toNat
      have hp2 : pre P n (chn P n z.toNat) z.toNat = -32769 ∨ (0 ≤ pre P n (chn P n z.toNat) z.toNat ∧ pre P n (chn P n z.toNat) z.toNat < at') := by omega
      split
      · rename_i hs
        refine mtc_ok P n at' most k _ _ _ hp2 (.inr ?_)
        have hle := smG_le P z.toNat at' most 0
        have h2 : 2 ≤ l := by rcases h with ⟨_, h⟩ | h <;> omega
        refine ⟨by omega, by unfold smL; omega, by omega, by omega, by omega, fun i hi => ?_⟩
        have := smG_eq P z.toNat at' most 0 i (Nat.zero_le _) hi
        rwa [show at' - (at' - z.toNat) = z.toNat by omega]
      · exact mtc_ok P n at' most k _ _ _ hp2 h
    · exact h

theorem copyP_take (P : List Nat) (at' d : Nat) (h1 : 1 ≤ d) (hd : d ≤ at') : ∀ l, at' + l ≤ P.length → (∀ i, i < l → P.getD (at' - d + i) 0 = P.getD (at' + i) 0) → copyP (P.take at') d l = P.take (at' + l)
  | 0, _, _ => rfl
  | l + 1, hl, h => by
    have ih := copyP_take P at' d h1 hd l (by omega) (fun i hi => h i (by omega))
    unfold copyP
    rw [ih]
    have hlen : (P.take (at' + l)).length = at' + l := by rw [List.length_take]; omega
    have hlt : at' + l < P.length := by omega
    rw [hlen, show at' + (l + 1) = at' + l + 1 by omega, List.take_succ_eq_append_getElem hlt]
    congr 2
    have e1 : (P.take (at' + l)).getD (at' + l - d) 0 = P.getD (at' - d + l) 0 := by
      rw [List.getD_eq_getElem?_getD, List.getElem?_take, if_pos (by omega), ← List.getD_eq_getElem?_getD, show at' + l - d = at' - d + l by omega]
    rw [e1, h l (by omega), List.getD_eq_getElem?_getD, List.getElem?_eq_getElem hlt]
    rfl

/-- A token at a place: it may stand there, and tells what is there. -/
def TkAt (P : List Nat) (at' : Nat) (t : Tk) : Prop := tkOk (P.take at') t ∧ tkT (P.take at') t = P.take (at' + max 1 t.n) ∧ at' + max 1 t.n ≤ P.length

theorem lit_at (P : List Nat) (at' : Nat) (h : at' < P.length) (hb : ∀ x ∈ P, x < 256) : TkAt P at' ⟨P.getD at' 0, 0, 0⟩ := by
  have e : P.getD at' 0 = P[at'] := by rw [List.getD_eq_getElem?_getD, List.getElem?_eq_getElem h]; rfl
  refine ⟨.inl ⟨rfl, by rw [e]; exact hb _ (List.getElem_mem h), rfl⟩, ?_, by simp; omega⟩
  unfold tkT
  rw [if_pos rfl, e]
  simp only [Nat.max_zero]
  exact (List.take_succ_eq_append_getElem h).symm

theorem mat_at (P : List Nat) (n at' : Nat) (h : at' < P.length) (hb : ∀ x ∈ P, x < 256) : TkAt P at' (mat P n at') := by
  unfold mat
  split
  · exact lit_at P at' h hb
  · rename_i hm
    have ok := mtc_ok P n at' (min 258 (P.length - at')) 128 (pre P n (chn P n at') at') 2 0 (pre_bd P n _ at') (.inl ⟨rfl, rfl⟩)
    generalize mtc P n at' (min 258 (P.length - at')) 128 (pre P n (chn P n at') at') 2 0 = r at *
    split
    · exact lit_at P at' h hb
    · rename_i hd
      rcases ok with ⟨h1, _⟩ | ⟨h1, h2, h3, h4, h5, h6⟩
      · exact absurd h1 hd
      · have hlen : (P.take at').length = at' := by rw [List.length_take]; omega
        refine ⟨.inr ⟨h1, by show r.1 ≤ 258; omega, h3, h4, by rw [hlen]; exact h5, rfl⟩, ?_, by show at' + max 1 r.1 ≤ _; omega⟩
        unfold tkT
        rw [if_neg (by show ¬ r.1 = 0; omega)]
        show copyP (P.take at') r.2 r.1 = P.take (at' + max 1 r.1)
        rw [show max 1 r.1 = r.1 by omega]
        exact copyP_take P at' r.2 h3 h5 r.1 (by omega) h6

theorem mat_n (P : List Nat) (n at' : Nat) (h : 0 < (mat P n at').n) : at' + 3 ≤ P.length := by
  unfold mat at h
  split at h
  · simp at h
  · omega

/-- What is told next. -/
def nxt (P : List Nat) (n at' : Nat) : Tk := if 0 < (mat P n at').n ∧ (mat P n at').n < 258 ∧ (mat P n at').n < (mat P n (at' + 1)).n then ⟨P.getD at' 0, 0, 0⟩ else mat P n at'

theorem nxt_at (P : List Nat) (n at' : Nat) (h : at' < P.length) (hb : ∀ x ∈ P, x < 256) : TkAt P at' (nxt P n at') := by
  unfold nxt
  split
  · exact lit_at P at' h hb
  · exact mat_at P n at' h hb

/-- All that is told from a place on. -/
def tkl (P : List Nat) (n : Nat) : Nat → Nat → List Tk
  | 0, _ => []
  | f + 1, at' => if at' < P.length then nxt P n at' :: tkl P n f (at' + max 1 (nxt P n at').n) else []

theorem tkl_fuel (P : List Nat) (n : Nat) : ∀ f g at', P.length - at' ≤ f → P.length - at' ≤ g → tkl P n f at' = tkl P n g at'
  | 0, 0, _, _, _ => rfl
  | 0, g + 1, at', h, _ => by unfold tkl; rw [if_neg (by omega)]
  | f + 1, 0, at', _, h => by unfold tkl; rw [if_neg (by omega)]
  | f + 1, g + 1, at', h1, h2 => by
    unfold tkl
    by_cases h : at' < P.length
    · rw [if_pos h, if_pos h, tkl_fuel P n f g _ (by omega) (by omega)]
    · rw [if_neg h, if_neg h]

def toks (P : List Nat) (n at' : Nat) : List Tk := tkl P n (P.length - at') at'

theorem toks_end (P : List Nat) (n at' : Nat) (h : P.length ≤ at') : toks P n at' = [] := by
  unfold toks
  rw [show P.length - at' = 0 by omega]
  rfl

theorem toks_step (P : List Nat) (n at' : Nat) (h : at' < P.length) : toks P n at' = nxt P n at' :: toks P n (at' + max 1 (nxt P n at').n) := by
  unfold toks
  conv => lhs; rw [show P.length - at' = (P.length - at' - 1) + 1 by omega]
  conv => lhs; unfold tkl
  rw [if_pos h]
  congr 1
  exact tkl_fuel P n _ _ _ (by omega) (Nat.le_refl _)

theorem toks_tell (P : List Nat) (n : Nat) (hb : ∀ x ∈ P, x < 256) : ∀ k at', at' ≤ P.length → P.length - at' ≤ k → Tks (P.take at') (toks P n at') P
  | 0, at', h, hk => by
    have e : at' = P.length := by omega
    rw [toks_end P n at' (by omega), e, List.take_length]
    exact .nil
  | k + 1, at', h, hk => by
    by_cases hl : at' < P.length
    · rw [toks_step P n at' hl]
      obtain ⟨a, b, c⟩ := nxt_at P n at' hl hb
      refine .cons a ?_
      rw [b]
      exact toks_tell P n hb k _ c (by omega)
    · have e : at' = P.length := by omega
      rw [toks_end P n at' (by omega), e, List.take_length]
      exact .nil

theorem toks_all (P : List Nat) (n : Nat) (hb : ∀ x ∈ P, x < 256) : Tks [] (toks P n 0) P := by
  have := toks_tell P n hb P.length 0 (Nat.zero_le _) (by omega)
  simpa using this

end Go.Proofs.YtcgjmkcigmmjjaaGreatDoor

namespace Go.Proofs.YtcgjmkcigmmjjaaGreatDoor
open Go.RowKit
set_option maxRecDepth 100000
/-- Block b holds these cells, and may be written. -/
def Sv (w : World) (b : Nat) (cs : List Value) : Prop := ∀ k v, cs[k]? = some v → w.cell? ⟨b, k, none⟩ = some v ∧ w.frozen? ⟨b, k, none⟩ = false

theorem Sv.range {w : World} {b : Nat} {cs : List Value} (h : Sv w b cs) : w.rangeAt b 0 cs := fun j v hv => by
  rw [Nat.zero_add]; exact (h j v hv).1

theorem Sv.there {w : World} {b : Nat} {cs : List Value} (h : Sv w b cs) : w.there b 0 cs.length := fun j hj => by
  have := h j cs[j] (List.getElem?_eq_getElem hj)
  rw [Nat.zero_add, this.1]
  exact ⟨rfl, this.2⟩

theorem Sv.step {S : Nat → Prop} {w w' : World} {b : Nat} {cs : List Value} (h : Sv w b cs) (hs : Step S w w') (hS : ¬ S b) : Sv w' b cs := fun k v hv =>
  ⟨hs.cell (h k v hv).1 hS, (hs.frozen (p := ⟨b, k, none⟩) (World.block_lt_of_cell? w _ (h k v hv).1) hS).trans (h k v hv).2⟩

theorem Sv.made {w w' : World} {b : Nat} {cs : List Value} (h : Sv w b cs) (hs : Step (fun _ => False) w w') : Sv w' b cs := h.step hs (fun h => h)

theorem Sv.new (w : World) (cs : List Value) (t : TypeId) : Sv (w.alloc (.cells cs.toArray t)) w.heap.size cs := fun k v hv => by
  refine ⟨?_, by simp⟩
  rw [World.cell?_alloc_at _ _ _ _ rfl]
  simpa using hv

theorem Sv.lt {w : World} {b : Nat} {cs : List Value} (h : Sv w b cs) (h0 : 0 < cs.length) : b < w.heap.size := World.block_lt_of_cell? w _ (h 0 cs[0] (List.getElem?_eq_getElem h0)).1

theorem setCells_sv {w : World} {b : Nat} {cs ds : List Value} (h : Sv w b cs) (hl : ds.length = cs.length) : Sv (w.setCells b 0 ds) b ds := fun k v hv => by
  have hk : k < ds.length := (List.getElem?_eq_some_iff.1 hv).1
  have h1 := World.cell?_setCells_in b ds 0 w (fun j hj => (h.there j (by omega)).1) k hk
  rw [Nat.zero_add] at h1
  refine ⟨by rw [h1, ← hv, List.getElem?_eq_getElem hk], ?_⟩
  rw [World.frozen?_setCells]
  exact (h k cs[k] (List.getElem?_eq_getElem (by omega))).2

theorem Sv.load {w : World} {b : Nat} {cs : List Value} (h : Sv w b cs) (ty : TypeId) (d : TypeDesc) (hu : Tryz.prog.underlying ty = some d) (hd : d.isRow = true) (hi : (Tryz.prog.info? ty).map (·.size) = some cs.length) :
    (loadVar ty ⟨b, 0, none⟩).run Tryz.prog w = .ok (.agg cs.toArray) w :=
  run_loadVar_mid w b 0 ty cs d h.range hu hd hi

theorem load_sv {ops : Array Oper} {rest : List Oper} {a : Act} {w : World} {Q : Exit → Act → World → Prop} {dst : Option Tmp} {p : Operand} {ty ty' : TypeId} {pos : String} {aft : Array Edge}
    (d : TypeDesc) (hu : Tryz.prog.underlying ty = some d) (hd : d.isRow = true) (b : Nat) (cs : List Value) (hi : (Tryz.prog.info? ty).map (·.size) = some cs.length) (hp : a.eval p = .pointer (some ⟨b, 0, none⟩)) (hA : Sv w b cs)
    (h : wpList Tryz.prog ops Q rest (a.put dst (.agg cs.toArray)) w) :
    wpList Tryz.prog ops Q (⟨dst, .load ty p, ty', pos, aft, none⟩ :: rest) a w :=
  wpList_load_mid rfl ty p rfl b 0 hp cs d hA.range hu hd hi h

theorem store_sv {ops : Array Oper} {rest : List Oper} {a : Act} {w : World} {Q : Exit → Act → World → Prop} {p x : Operand} {ty ty' : TypeId} {pos : String} {aft : Array Edge}
    (b : Nat) (cs ds : List Value) (hl : ds.length = cs.length) (hi : (Tryz.prog.info? ty).map (·.size) = some ds.length) (h1 : ∀ v ∈ ds, v.oneCell' = true) (hp : a.eval p = .pointer (some ⟨b, 0, none⟩)) (hx : a.eval x = .agg ds.toArray) (hA : Sv w b cs)
    (h : ∀ w', Step (fun k => k = b) w w' → Sv w' b ds → wpList Tryz.prog ops Q rest a w') :
    wpList Tryz.prog ops Q (⟨none, .store ty p x, ty', pos, aft, none⟩ :: rest) a w := by
  refine wpList_store_mid rfl ty p x rfl b 0 ds.toArray hp hx (by rw [List.size_toArray, hl]; exact hA.there) (by rw [List.size_toArray]; exact hi) (all_oneCell_toArray h1) ?_
  exact h _ (setCells_step b _ _ _) (setCells_sv hA hl)

end Go.Proofs.YtcgjmkcigmmjjaaGreatDoor

namespace Go.Proofs.YtcgjmkcigmmjjaaGreatDoor
open Go.RowKit
set_option maxRecDepth 100000
/-- A token as a value. -/
abbrev tkV (t : Tk) : Value := .agg #[.int .u8 (t.c : Int), .int .i64 (t.n : Int), .int .i64 (t.d : Int)]

def tkL (t : Tk) : List Value := [.int .u8 (t.c : Int), .int .i64 (t.n : Int), .int .i64 (t.d : Int)]

theorem tkL_one (t : Tk) : ∀ v ∈ tkL t, v.oneCell' = true := by
  intro v hv
  simp [tkL] at hv
  rcases hv with rfl | rfl | rfl <;> rfl

theorem Tryz.infoTk : (Tryz.prog.info? 62).map (·.size) = some 3 := by kernel_rfl

theorem tk_load {w : World} {b : Nat} {t : Tk} (h : Sv w b (tkL t)) : (loadVar 62 ⟨b, 0, none⟩).run Tryz.prog w = .ok (tkV t) w := h.load _ _ Tryz.underlying62 rfl Tryz.infoTk

/-- The finder in block f over the bytes P, whose chains stand in the blocks g1 and g2; at: what is ahead was told, kn: what is ahead stands in chains. -/
structure Fi (w : World) (f : Nat) (pv : Value) (P : List Nat) (g1 g2 n at' kn : Nat) : Prop where
  c0 : w.cell? ⟨f, 0, none⟩ = some pv
  c1 : w.cell? ⟨f, 1, none⟩ = some (.int .i64 (at' : Int))
  c2 : w.cell? ⟨f, 2, none⟩ = some (.int .i64 (kn : Int))
  c3 : w.cell? ⟨f, 3, none⟩ = some (.slice (some ⟨g1, 0, none⟩) (2 ^ n) (2 ^ n))
  c4 : w.cell? ⟨f, 4, none⟩ = some (.slice (some ⟨g2, 0, none⟩) (2 ^ n) (2 ^ n))
  c5 : w.cell? ⟨f, 5, none⟩ = some (.int .i64 ((32 - n : Nat) : Int))
  fz : ∀ k, k < 6 → w.frozen? ⟨f, k, none⟩ = false
  rd : Rd w pv P
  hd : Af w g1 (2 ^ n) (fun c => pre P n c kn)
  ah : ∃ a, Af w g2 (2 ^ n) a ∧ ∀ q, q < kn → a q = pre P n (chn P n q) q
  ne : f ≠ g1 ∧ f ≠ g2 ∧ g1 ≠ g2
  off : ∀ a k c, pv = .slice (some a) k c → P ≠ [] → a.block ≠ f ∧ a.block ≠ g1 ∧ a.block ≠ g2
  len : P.length < 2 ^ n ∧ n ≤ 15
  byte : ∀ x ∈ P, x < 256
  cp : ∀ ao k c, pv = .slice ao k c → P.length ≤ c

theorem Fi.step {S : Nat → Prop} {w w' : World} {f : Nat} {pv : Value} {P : List Nat} {g1 g2 n at' kn : Nat} (h : Fi w f pv P g1 g2 n at' kn) (hs : Step S w w') (h1 : ¬ S f) (h2 : ¬ S g1) (h3 : ¬ S g2)
    (h4 : ∀ a k c, pv = .slice (some a) k c → P ≠ [] → ¬ S a.block) : Fi w' f pv P g1 g2 n at' kn := by
  have hf : f < w.heap.size := World.block_lt_of_cell? w _ h.c0
  obtain ⟨a, ha, hq⟩ := h.ah
  exact ⟨hs.cell h.c0 h1, hs.cell h.c1 h1, hs.cell h.c2 h1, hs.cell h.c3 h1, hs.cell h.c4 h1, hs.cell h.c5 h1, fun k hk => (hs.frozen (p := ⟨f, k, none⟩) hf h1).trans (h.fz k hk), h.rd.step hs h4, h.hd.step hs h2, ⟨a, ha.step hs h3, hq⟩, h.ne, h.off, h.len, h.byte, h.cp⟩

theorem Fi.made {w w' : World} {f : Nat} {pv : Value} {P : List Nat} {g1 g2 n at' kn : Nat} (h : Fi w f pv P g1 g2 n at' kn) (hs : Step (fun _ => False) w w') : Fi w' f pv P g1 g2 n at' kn :=
  h.step hs (fun h => h) (fun h => h) (fun h => h) (fun _ _ _ _ _ h => h)

theorem getD_byte {P : List Nat} (h : ∀ x ∈ P, x < 256) (i : Nat) : P.getD i 0 < 256 := by
  rw [List.getD_eq_getElem?_getD]
  cases hq : P[i]? with
  | none => simp
  | some x => exact h x (List.mem_of_getElem? hq)

theorem or_u32 (a b : Nat) (ha : a < 4294967296) (hb : b < 4294967296) : bits .or .u32 (a : Int) (b : Int) = ((a ||| b : Nat) : Int) := by
  have e : (BitVec.ofInt 32 (a : Int) ||| BitVec.ofInt 32 (b : Int)).toNat = a ||| b := by
    rw [BitVec.toNat_or]
    simp only [BitVec.toNat_ofInt]
    congr 1 <;> omega
  have hl : a ||| b < 4294967296 := Nat.or_lt_two_pow (n := 32) ha hb
  show IntKind.u32.wrap ((BitVec.ofInt 32 (a : Int) ||| BitVec.ofInt 32 (b : Int)).toNat : Int) = _
  rw [e]
  have h2 : ((a ||| b : Nat) : Int) < 4294967296 := by omega
  have h0 : (0 : Int) ≤ ((a ||| b : Nat) : Int) := by omega
  generalize ((a ||| b : Nat) : Int) = z at *
  simp [IntKind.wrap, IntKind.bits, IntKind.signed]
  omega

theorem or_hi32 (a b k : Nat) (ha : a < 2 ^ k) (hk : k ≤ 24) (hb : b < 256) : bits .or .u32 (a : Int) ((b * 2 ^ k : Nat) : Int) = ((a + b * 2 ^ k : Nat) : Int) := by
  have hp : 2 ^ k ≤ 2 ^ 24 := Nat.pow_le_pow_right (by omega) hk
  have h1 : b * 2 ^ k ≤ 255 * 2 ^ 24 := Nat.mul_le_mul (by omega) hp
  rw [or_u32 a (b * 2 ^ k) (by omega) (by omega), Nat.or_comm]
  have := (Nat.shiftLeft_add_eq_or_of_lt (b := a) (i := k) ha b).symm
  rw [Nat.shiftLeft_eq] at this
  rw [this, Nat.add_comm]

theorem and_low (q n : Nat) (hn : n ≤ 24) (hq : q < 2 ^ n) : bits .and .i64 (q : Int) (((2 ^ n : Nat) : Int) - 1) = (q : Int) := by
  have p1 := ipow_pos n
  have p2 := ipow_le_24 n hn
  have p3 := pow_le_24 n hn
  have h := i64_mask (q : Int) n (by omega) (by omega) hn
  rw [wrap64_id (2 ^ n) (by omega) (by omega), wrap64_id _ (by omega) (by omega)] at h
  have e : ((2 ^ n : Nat) : Int) = (2 : Int) ^ n := by simp
  rw [e, h, ← e]
  exact Int.emod_eq_of_lt (by omega) (by omega)

section
variable {w : World} {f : Nat} {pv : Value} {P : List Nat} {g1 g2 n at' kn : Nat}
theorem slot_any (h : Fi w f pv P g1 g2 n at' kn) (q : Nat) (hq : q < 2 ^ n) :
    Calls Tryz.prog 86 #[.pointer (some ⟨f, 0, none⟩), .int .i64 (q : Int)] w fun e w' => e = .returned (.int .i64 (q : Int)) ∧ w' = w := by
  have c4 := h.c4
  have ha := and_low q n (by have := h.len; omega) hq
  have hp := pow_le_24 n (by have := h.len; omega)
  have hp0 := Nat.two_pow_pos n
  obtain ⟨N, hN⟩ : ∃ N, 2 ^ n = N := ⟨_, rfl⟩
  rw [hN] at c4 ha hp hp0
  clear h hN hq
  have n0 : (1 : Int) ≤ (N : Int) := by omega
  go_enter Tryz.func86, Tryz.ntmps86
  go_wp2
  go_ret
  exact ⟨by rw [← ha]; rfl, rfl⟩

theorem single_any (h : Fi w f pv P g1 g2 n at' kn) (q : Nat) (hq : q < P.length) :
    Calls Tryz.prog 58 #[.pointer (some ⟨f, 0, none⟩), .int .i64 (q : Int)] w fun e w' => e = .returned (tkV ⟨P.getD q 0, 0, 0⟩) ∧ Step (fun _ => False) w w' := by
  have c0 := h.c0
  obtain ⟨ao, cap, rfl, h1, h2⟩ := h.rd
  have hne : P ≠ [] := by intro e; subst e; simp at hq
  cases ao with
  | none => exact absurd (h1 rfl).1 hne
  | some a =>
    obtain ⟨b, off, rfl, hc⟩ := h2 a rfl hne
    have cq := hc q hq
    have hb := getD_byte h.byte q
    have hfl := World.block_lt_of_cell? w _ c0
    have hbl := World.block_lt_of_cell? w _ cq
    have hl := h.len
    have hp := pow_le_24 n (by omega)
    have hqz : (q : Int) < (P.length : Int) := by omega
    have hlz : P.length ≤ 16777216 := by omega
    clear h hc h1 h2 hne hl
    generalize P.getD q 0 = x at *
    generalize P.length = m at *
    go_enter Tryz.func58, Tryz.ntmps58
    go_wp2
    refine bodyPost_ret (v := tkV ⟨x, 0, 0⟩) ?_ rfl ⟨rfl, (Step.refl _ _).alloc _⟩
    simp [results, Tryz.results58, asAddr, go_sem]

theorem done_any (h : Fi w f pv P g1 g2 n at' kn) :
    Calls Tryz.prog 28 #[.pointer (some ⟨f, 0, none⟩)] w fun e w' => e = .returned (.bool (decide (at' = P.length))) ∧ ∃ k, w' = w.drewN k := by
  have c0 := h.c0
  have c1 := h.c1
  obtain ⟨ao, cap, rfl, _, _⟩ := h.rd
  have hl := h.len
  have hp := pow_le_24 n (by omega)
  have hlz : P.length ≤ 16777216 := by omega
  clear h hl
  generalize P.length = m at *
  have hE : ((at' : Int) == (m : Int)) = decide (at' = m) := by rw [Bool.eq_iff_iff]; simp; omega
  go_enter Tryz.func28, Tryz.ntmps28
  go_wp2
  go_quiet (fail)
  go_wp2
  go_ret
  exact ⟨by rw [← hE]; rfl, _, rfl⟩

theorem chain_any (h : Fi w f pv P g1 g2 n at' kn) (q : Nat) (hq : q + 3 ≤ P.length) :
    Calls Tryz.prog 84 #[.pointer (some ⟨f, 0, none⟩), .int .i64 (q : Int)] w fun e w' => e = .returned (.int .i64 ((chn P n q : Nat) : Int)) ∧ ∃ k, w' = w.drewN k := by
  have c0 := h.c0
  have c5 := h.c5
  obtain ⟨ao, cap, rfl, h1, h2⟩ := h.rd
  have hne : P ≠ [] := by intro e; subst e; simp at hq
  cases ao with
  | none => exact absurd (h1 rfl).1 hne
  | some a =>
    obtain ⟨b, off, rfl, hc⟩ := h2 a rfl hne
    have cq0 := hc q (by omega)
    have cq1 := hc (q + 1) (by omega)
    have cq2 := hc (q + 2) (by omega)
    rw [← Nat.add_assoc] at cq1 cq2
    have hb0 := getD_byte h.byte q
    have hb1 := getD_byte h.byte (q + 1)
    have hb2 := getD_byte h.byte (q + 2)
    have hl := h.len
    have hp := pow_le_24 n (by omega)
    have hk : (chn P n q : Nat) = (P.getD q 0 + P.getD (q + 1) 0 * 256 + P.getD (q + 2) 0 * 65536) * 2654435761 % 4294967296 / 2 ^ (32 - n) := rfl
    obtain ⟨C, hC⟩ : ∃ C, chn P n q = C := ⟨_, rfl⟩
    rw [hC] at hk ⊢
    have HK := hidden hk
    obtain ⟨m, hm⟩ : ∃ m, P.length = m := ⟨_, rfl⟩
    rw [hm] at c0 hq
    have hlz : m ≤ 16777216 := by omega
    obtain ⟨sh, hsh⟩ : ∃ sh, 32 - n = sh := ⟨_, rfl⟩
    rw [hsh] at c5 HK
    have hs2 : sh ≤ 32 := by omega
    have hcap : q + 3 ≤ cap := by have := h.cp _ _ _ rfl; omega
    have hcz : (q : Int) + 3 ≤ (cap : Int) := by omega
    clear h hc h1 h2 hne hl hC hk hm hp hsh
    generalize P.getD q 0 = x0 at *
    generalize P.getD (q + 1) 0 = x1 at *
    generalize P.getD (q + 2) 0 = x2 at *
    have w0 : IntKind.u32.wrap (x0 : Int) = (x0 : Int) := by simp [IntKind.wrap, IntKind.bits, IntKind.signed]; omega
    have w1 : IntKind.u32.wrap (x1 : Int) = (x1 : Int) := by simp [IntKind.wrap, IntKind.bits, IntKind.signed]; omega
    have w2 : IntKind.u32.wrap (x2 : Int) = (x2 : Int) := by simp [IntKind.wrap, IntKind.bits, IntKind.signed]; omega
    have hq0 : (0 : Int) ≤ (q : Int) := by omega
    have hq1 : (q : Int) ≤ (q : Int) + 3 := by omega
    have hq2 : (q : Int) + 3 ≤ (m : Int) := by omega
    have HV := hidden (show wrap64 (bits .or .u32 (bits .or .u32 (x0 : Int) ((x1 : Int) * 256)) ((x2 : Int) * 65536) * 2654435761 % 4294967296 / 2 ^ sh) = (C : Int) by
      have o1 := or_hi32 x0 x1 8 (by omega) (by omega) hb1
      have o2 := or_hi32 (x0 + x1 * 2 ^ 8) x2 16 (by omega) (by omega) hb2
      have e1 : (x1 : Int) * 256 = ((x1 * 2 ^ 8 : Nat) : Int) := by omega
      have e2 : (x2 : Int) * 65536 = ((x2 * 2 ^ 16 : Nat) : Int) := by omega
      rw [e1, e2, o1, o2]
      have e3 : (((x0 + x1 * 2 ^ 8 + x2 * 2 ^ 16 : Nat) : Int) * 2654435761 % 4294967296 / 2 ^ sh) = (((x0 + x1 * 256 + x2 * 65536) * 2654435761 % 4294967296 / 2 ^ sh : Nat) : Int) := by simp
      rw [e3, ← HK.out]
      have : C < 4294967296 := by rw [HK.out]; exact Nat.lt_of_le_of_lt (Nat.div_le_self _ _) (Nat.mod_lt _ (by decide))
      exact wrap64_id _ (by omega) (by omega))
    go_enter Tryz.func84, Tryz.ntmps84
    go_wp2
    go_quiet (fail)
    go_wp2
    go_ret
    exact ⟨by rw [← HV.out]; rfl, _, rfl⟩

theorem size_any (t : Tk) (w : World) :
    Calls Tryz.prog 59 #[tkV t] w fun e w' => e = .returned (.int .i64 ((max 1 t.n : Nat) : Int)) ∧ Step (fun _ => False) w w' := by
  obtain ⟨c, n, d⟩ := t
  by_cases h : 1 < n
  · have hz : (1 : Int) < (n : Int) := by omega
    have HE := hidden (show max 1 n = n by omega)
    go_enter Tryz.func59, Tryz.ntmps59
    go_wp2
    go_ret
    exact ⟨by rw [HE.out]; rfl, (Step.refl _ _).alloc _⟩
  · have hz : ¬ (1 : Int) < (n : Int) := by omega
    have HE := hidden (show max 1 n = 1 by omega)
    go_enter Tryz.func59, Tryz.ntmps59
    go_wp2
    go_ret
    exact ⟨by rw [HE.out]; rfl, (Step.refl _ _).alloc _⟩

end
end Go.Proofs.YtcgjmkcigmmjjaaGreatDoor

namespace Go.Proofs.YtcgjmkcigmmjjaaGreatDoor
open Go.RowKit
set_option maxRecDepth 100000
theorem ba_get (s : ByteArray) (i : Nat) (h : i < s.size) : s[i]'h = s.data.getD i 0 := by
  obtain ⟨d⟩ := s
  have h2 : i < d.size := h
  show d[i] = d.getD i 0
  simp [Array.getD, h2]

theorem len64_any (v : Nat) (hv : v < 65536) (w : World) :
    Calls Tryz.prog 52 #[.int .u64 (v : Int)] w fun e w' => e = .returned (.int .i64 ((bl v : Nat) : Int)) ∧ w' = w := by
  have z1 : ¬ ((4294967296 : Int) ≤ (v : Int)) := by omega
  have z2 : ¬ ((65536 : Int) ≤ (v : Int)) := by omega
  by_cases h : v < 256
  · have z3 : ¬ ((256 : Int) ≤ (v : Int)) := by omega
    have hw : IntKind.u8.wrap (v : Int) = (v : Int) := by simp [IntKind.wrap, IntKind.bits, IntKind.signed]; omega
    have v0 : (0 : Int) ≤ (v : Int) := by omega
    have v1 : (v : Int) < 256 := by omega
    go_enter Tryz.func52, Tryz.ntmps52
    go_wp2_with fail
    go_ret
    refine ⟨?_, rfl⟩
    refine congrArg (fun z => Ending.returned (Value.int .i64 z)) ?_
    rw [ba_get]
    clear hw z1 z2 z3 v0 v1 hv w
    revert h
    revert v
    decide +kernel
  · obtain ⟨x, hx⟩ : ∃ x, v / 256 = x := ⟨_, rfl⟩
    have z3 : (256 : Int) ≤ (v : Int) := by omega
    have hb : bl v = 8 + bl x := by
      have h1 := bl_lt x
      have h2 := bl_le x (by unfold bl; rw [if_neg (by omega)]; omega)
      have hp : 1 ≤ bl x := by unfold bl; rw [if_neg (by omega)]; omega
      have e : bl v = (bl x + 7) + 1 := by
        refine bl_of v _ ?_ ?_
        · have : 2 ^ (bl x + 7) = 2 ^ (bl x - 1) * 256 := by rw [show bl x + 7 = bl x - 1 + 8 by omega, Nat.pow_add]
          omega
        · have : 2 ^ (bl x + 7 + 1) = 2 ^ bl x * 256 := by rw [show bl x + 7 + 1 = bl x + 8 by omega, Nat.pow_add]
          omega
      omega
    rw [hb]
    have hdv : (v : Int) / 256 = (x : Int) := by omega
    have hw : IntKind.u8.wrap (x : Int) = (x : Int) := by simp [IntKind.wrap, IntKind.bits, IntKind.signed]; omega
    have v0 : (0 : Int) ≤ (x : Int) := by omega
    have v1 : (x : Int) < 256 := by omega
    have h : x < 256 := by omega
    clear hx hb
    go_enter Tryz.func52, Tryz.ntmps52
    go_wp2_with fail
    go_ret
    refine ⟨?_, rfl⟩
    refine congrArg (fun z => Ending.returned (Value.int .i64 z)) ?_
    rw [ba_get]
    clear hw z1 z2 z3 v0 v1 hv w hdv
    revert h
    revert x
    decide +kernel

theorem len_bits (v : Nat) (hv : v < 65536) (w : World) :
    Calls Tryz.prog 26 #[.int .u64 (v : Int)] w fun e w' => e = .returned (.int .i64 ((bl v : Nat) : Int)) ∧ w' = w := by
  have H := hidden (len64_any v hv w)
  clear hv
  go_enter Tryz.func26, Tryz.ntmps26
  go_wp2_with fail
  refine H.out.mono ?_
  rintro e w2 ⟨rfl, rfl⟩
  go_wp2
  go_ret
  exact ⟨rfl, rfl⟩

end Go.Proofs.YtcgjmkcigmmjjaaGreatDoor

namespace Go.Proofs.YtcgjmkcigmmjjaaGreatDoor
open Go.RowKit
set_option maxRecDepth 100000
/-- A step as a value: the symbol, the number behind it, its bits. -/
def spL (s m b : Nat) : List Value := [.int .i64 (s : Int), .int .i64 (m : Int), .int .i64 (b : Int)]

abbrev spV (s m b : Nat) : Value := .agg #[.int .i64 (s : Int), .int .i64 (m : Int), .int .i64 (b : Int)]

theorem spL_one (s m b : Nat) : ∀ v ∈ spL s m b, v.oneCell' = true := by
  intro v hv
  simp [spL] at hv
  rcases hv with rfl | rfl | rfl <;> rfl

theorem Tryz.infoSp : (Tryz.prog.info? 89).map (·.size) = some 3 := by kernel_rfl

theorem sp_load {w : World} {b s m k : Nat} (h : Sv w b (spL s m k)) : (loadVar 89 ⟨b, 0, none⟩).run Tryz.prog w = .ok (spV s m k) w := h.load _ _ Tryz.underlying89 rfl Tryz.infoSp

theorem split_num (v n : Nat) (hv : v ≤ 40000) (hn : n ≤ 16) : (IntKind.i64.wrap ((2 : Int) ^ n) = 2 ^ n ∧ IntKind.i64.wrap ((2 : Int) ^ n - 1) = 2 ^ n - 1) ∧ wrap64 ((2 : Int) ^ n) = 2 ^ n ∧ wrap64 ((2 : Int) ^ n - 1) = 2 ^ n - 1 ∧ bits .and .i64 (v : Int) ((2 : Int) ^ n - 1) = ((v % 2 ^ n : Nat) : Int) ∧ (v : Int) / 2 ^ n = ((v / 2 ^ n : Nat) : Int) ∧ v / 2 ^ n ≤ 40000 ∧ v % 2 ^ n ≤ 40000 := by
  have hm := i64_mask (v : Int) n (Int.natCast_nonneg _) (by omega) (by omega)
  have h1 := ipow_le_24 n (by omega)
  have h2 := ipow_pos n
  have a1 : wrap64 ((2 : Int) ^ n) = 2 ^ n := by
    generalize (2 : Int) ^ n = p at *
    exact wrap64_id _ (by omega) (by omega)
  have a2 : wrap64 ((2 : Int) ^ n - 1) = 2 ^ n - 1 := by
    generalize (2 : Int) ^ n = p at *
    exact wrap64_id _ (by omega) (by omega)
  have a3 : IntKind.i64.wrap ((2 : Int) ^ n) = 2 ^ n := by
    generalize (2 : Int) ^ n = p at *
    exact wrap_i64_id _ (by omega) (by omega)
  have a4 : IntKind.i64.wrap ((2 : Int) ^ n - 1) = 2 ^ n - 1 := by
    generalize (2 : Int) ^ n = p at *
    exact wrap_i64_id _ (by omega) (by omega)
  rw [a1, a2] at hm
  refine ⟨⟨a3, a4⟩, a1, a2, by rw [hm]; simp, by simp, Nat.le_trans (Nat.div_le_self _ _) hv, Nat.le_trans (Nat.mod_le _ _) hv⟩

theorem split_go (v keep L n q r : Nat) (hk : keep = 2 ∨ keep = 3) (hn : n ≤ 16) (hL : L ≤ 16) (hnL : (keep < L ∧ n + keep = L) ∨ (L ≤ keep ∧ n = 0)) (w : World)
    (HLN : Hid (∀ wx, Calls Tryz.prog 26 #[.int .u64 (v : Int)] wx fun e w' => e = .returned (.int .i64 (L : Int)) ∧ w' = wx))
    (e1 : (v : Int) / 2 ^ n = (q : Int)) (wz4 : IntKind.i64.wrap ((2 : Int) ^ n) = 2 ^ n) (wz5 : IntKind.i64.wrap ((2 : Int) ^ n - 1) = 2 ^ n - 1) (e3 : wrap64 ((2 : Int) ^ n) = 2 ^ n) (e4 : wrap64 ((2 : Int) ^ n - 1) = 2 ^ n - 1) (e5 : bits .and .i64 (v : Int) ((2 : Int) ^ n - 1) = (r : Int)) (hv : v ≤ 40000) (hq : q ≤ 40000) :
    Calls Tryz.prog 83 #[.int .i64 (v : Int), .int .i64 (keep : Int)] w fun e w' => e = .returned (spV (n * 2 ^ (keep - 1) + q) r n) ∧ Step (fun _ => False) w w' := by
  obtain ⟨W0, hW0⟩ : ∃ W0, w.alloc (.cells #[.int .i64 0, .int .i64 0, .int .i64 0] 89) = W0 := ⟨_, rfl⟩
  obtain ⟨B0, hB0⟩ : ∃ B0, w.heap.size = B0 := ⟨_, rfl⟩
  have HS0 := hidden (show Step (fun _ => False) w W0 by rw [← hW0]; exact (Step.refl _ _).alloc _)
  have HV0 := hidden (show Sv W0 B0 (spL 0 0 0) by rw [← hW0, ← hB0]; exact Sv.new w _ _)
  have HB0 := hidden hB0
  have HE := hidden (And.intro e1 (And.intro e3 (And.intro e4 e5)))
  rcases hnL with ⟨h1, h2⟩ | ⟨h1, h2⟩
  · rcases hk with rfl | rfl
    · skip
      have z1 : (0 : Int) < (L : Int) - 2 := by omega
      have z2 : (L : Int) - 2 = (n : Int) := by omega
      have wz : IntKind.i64.wrap 1 = 1 := by decide
      have wz2 : IntKind.i64.wrap ((n : Int) * 2) = (n : Int) * 2 := wrap_i64_id _ (by omega) (by omega)
      have wz3 : IntKind.i64.wrap ((n : Int) * 2 + (q : Int)) = ((n * 2 + q : Nat) : Int) := by
        have : (n : Int) * 2 + (q : Int) = ((n * 2 + q : Nat) : Int) := by omega
        rw [this]
        exact wrap_i64_id _ (by omega) (by omega)
      go_enter Tryz.func83, Tryz.ntmps83
      go_wp2_with fail
      refine (HLN.out _).mono ?_
      rintro e w2 ⟨rfl, rfl⟩
      go_wp2_with fail
      refine wp_region_still_tail 15 Tryz.mixed (by kernel_rfl) ?_
      simp only [List.take_succ_cons, List.take_zero, List.drop_succ_cons, List.drop_zero]
      change wpStill _ _ (World.drew _) _ _ _
      iterate 15 still_step
      refine wpStill_nil ?_
      refine store_sv B0 (spL 0 0 0) (spL (n * 2 + q) r n) rfl Tryz.infoSp (spL_one _ _ _) rfl rfl (HV0.out.made ((Step.refl _ _).drew)) ?_
      intro w3 S3 V3
      have HS3 := hidden ((HS0.out.drew).trans S3 (fun i hi => .inr (by have := HB0.out; omega)))
      have HV3 := hidden V3
      clear S3 V3
      go_wp2
      refine bodyPost_ret (v := spV (n * 2 + q) r n) ?_ rfl ⟨rfl, HS3.out⟩
      have := sp_load HV3.out
      simp [results, Tryz.results83, asAddr, this]
    · skip
      have z1 : (0 : Int) < (L : Int) - 3 := by omega
      have z2 : (L : Int) - 3 = (n : Int) := by omega
      have wz : IntKind.i64.wrap 2 = 2 := by decide
      have wz2 : IntKind.i64.wrap ((n : Int) * 4) = (n : Int) * 4 := wrap_i64_id _ (by omega) (by omega)
      have wz3 : IntKind.i64.wrap ((n : Int) * 4 + (q : Int)) = ((n * 4 + q : Nat) : Int) := by
        have : (n : Int) * 4 + (q : Int) = ((n * 4 + q : Nat) : Int) := by omega
        rw [this]
        exact wrap_i64_id _ (by omega) (by omega)
      go_enter Tryz.func83, Tryz.ntmps83
      go_wp2_with fail
      refine (HLN.out _).mono ?_
      rintro e w2 ⟨rfl, rfl⟩
      go_wp2_with fail
      refine wp_region_still_tail 15 Tryz.mixed (by kernel_rfl) ?_
      simp only [List.take_succ_cons, List.take_zero, List.drop_succ_cons, List.drop_zero]
      change wpStill _ _ (World.drew _) _ _ _
      iterate 15 still_step
      refine wpStill_nil ?_
      refine store_sv B0 (spL 0 0 0) (spL (n * 4 + q) r n) rfl Tryz.infoSp (spL_one _ _ _) rfl rfl (HV0.out.made ((Step.refl _ _).drew)) ?_
      intro w3 S3 V3
      have HS3 := hidden ((HS0.out.drew).trans S3 (fun i hi => .inr (by have := HB0.out; omega)))
      have HV3 := hidden V3
      clear S3 V3
      go_wp2
      refine bodyPost_ret (v := spV (n * 4 + q) r n) ?_ rfl ⟨rfl, HS3.out⟩
      have := sp_load HV3.out
      simp [results, Tryz.results83, asAddr, this]
  · subst h2
    have hvq : v = q := by have := e1; simp at this; omega
    subst hvq
    have e6 : bits .and .i64 (v : Int) 0 = (r : Int) := by simpa using e5
    simp only [Nat.zero_mul, Nat.zero_add]
    clear e1 e3 e4 e5 wz4 wz5 HE
    rcases hk with rfl | rfl
    · skip
      have z1 : ¬ ((0 : Int) < (L : Int) - 2) := by omega
      have wz : IntKind.i64.wrap 1 = 1 := by decide
      have w0 : IntKind.i64.wrap 0 = 0 := by decide
      have w1 : IntKind.i64.wrap 1 = 1 := by decide
      have wq : IntKind.i64.wrap (v : Int) = (v : Int) := wrap_i64_id _ (by omega) (by omega)
      go_enter Tryz.func83, Tryz.ntmps83
      go_wp2_with fail
      refine (HLN.out _).mono ?_
      rintro e w2 ⟨rfl, rfl⟩
      go_wp2_with fail
      refine wp_region_still_tail 15 Tryz.mixed (by kernel_rfl) ?_
      simp only [List.take_succ_cons, List.take_zero, List.drop_succ_cons, List.drop_zero]
      change wpStill _ _ (World.drew _) _ _ _
      iterate 15 still_step
      refine wpStill_nil ?_
      refine store_sv B0 (spL 0 0 0) (spL v r 0) rfl Tryz.infoSp (spL_one _ _ _) rfl rfl (HV0.out.made ((Step.refl _ _).drew)) ?_
      intro w3 S3 V3
      have HS3 := hidden ((HS0.out.drew).trans S3 (fun i hi => .inr (by have := HB0.out; omega)))
      have HV3 := hidden V3
      clear S3 V3
      go_wp2
      refine bodyPost_ret (v := spV v r 0) ?_ rfl ⟨rfl, HS3.out⟩
      have := sp_load HV3.out
      simp [results, Tryz.results83, asAddr, this]
    · skip
      have z1 : ¬ ((0 : Int) < (L : Int) - 3) := by omega
      have wz : IntKind.i64.wrap 2 = 2 := by decide
      have w0 : IntKind.i64.wrap 0 = 0 := by decide
      have w1 : IntKind.i64.wrap 1 = 1 := by decide
      have wq : IntKind.i64.wrap (v : Int) = (v : Int) := wrap_i64_id _ (by omega) (by omega)
      go_enter Tryz.func83, Tryz.ntmps83
      go_wp2_with fail
      refine (HLN.out _).mono ?_
      rintro e w2 ⟨rfl, rfl⟩
      go_wp2_with fail
      refine wp_region_still_tail 15 Tryz.mixed (by kernel_rfl) ?_
      simp only [List.take_succ_cons, List.take_zero, List.drop_succ_cons, List.drop_zero]
      change wpStill _ _ (World.drew _) _ _ _
      iterate 15 still_step
      refine wpStill_nil ?_
      refine store_sv B0 (spL 0 0 0) (spL v r 0) rfl Tryz.infoSp (spL_one _ _ _) rfl rfl (HV0.out.made ((Step.refl _ _).drew)) ?_
      intro w3 S3 V3
      have HS3 := hidden ((HS0.out.drew).trans S3 (fun i hi => .inr (by have := HB0.out; omega)))
      have HV3 := hidden V3
      clear S3 V3
      go_wp2
      refine bodyPost_ret (v := spV v r 0) ?_ rfl ⟨rfl, HS3.out⟩
      have := sp_load HV3.out
      simp [results, Tryz.results83, asAddr, this]

theorem split_any (v keep : Nat) (hk : keep = 2 ∨ keep = 3) (hv : v ≤ 40000) (w : World) :
    Calls Tryz.prog 83 #[.int .i64 (v : Int), .int .i64 (keep : Int)] w fun e w' => e = .returned (spV (spS v keep) (spM v keep) (spN v keep)) ∧ Step (fun _ => False) w w' := by
  have hb16 := bl_le_of v 16 (by omega)
  have hn : spN v keep = bl v - keep := rfl
  have hn16 : spN v keep ≤ 16 := by omega
  obtain ⟨⟨b1, b2⟩, a1, a2, a3, a4, a5, _⟩ := split_num v (spN v keep) hv hn16
  exact split_go v keep (bl v) (spN v keep) (v / 2 ^ spN v keep) (v % 2 ^ spN v keep) hk hn16 hb16 (by omega) w (hidden (fun wx => len_bits v (by omega) wx)) a4 b1 b2 a1 a2 a3 hv a5

theorem distanceStep_any (d : Nat) (h1 : 1 ≤ d) (h2 : d ≤ 32768) (w : World) :
    Calls Tryz.prog 55 #[.int .i64 (d : Int)] w fun e w' => e = .returned (spV (dsS d) (dsM d) (dsB d)) ∧ Step (fun _ => False) w w' := by
  have HSP := hidden (fun wx => split_any (d - 1) 2 (.inl rfl) (by omega) wx)
  have hd : (d : Int) - 1 = ((d - 1 : Nat) : Int) := by omega
  show Calls Tryz.prog 55 #[.int .i64 (d : Int)] w fun e w' => e = .returned (spV (spS (d - 1) 2) (spM (d - 1) 2) (spN (d - 1) 2)) ∧ Step (fun _ => False) w w'
  generalize spS (d - 1) 2 = a at *
  generalize spM (d - 1) 2 = b at *
  generalize spN (d - 1) 2 = c at *
  obtain ⟨W0, hW0⟩ : ∃ W0, w.alloc (.cells #[.int .i64 0, .int .i64 0, .int .i64 0] 89) = W0 := ⟨_, rfl⟩
  obtain ⟨B0, hB0⟩ : ∃ B0, w.heap.size = B0 := ⟨_, rfl⟩
  have HS0 := hidden (show Step (fun _ => False) w W0 by rw [← hW0]; exact (Step.refl _ _).alloc _)
  have HV0 := hidden (show Sv W0 B0 (spL 0 0 0) by rw [← hW0, ← hB0]; exact Sv.new w _ _)
  have HB0 := hidden hB0
  generalize d - 1 = d1 at *
  go_enter Tryz.func55, Tryz.ntmps55
  go_wp2_with fail
  refine (HSP.out _).mono ?_
  rintro e w2 ⟨rfl, S2⟩
  have HS2 := hidden (HS0.out.made S2)
  have HV2 := hidden (HV0.out.made S2)
  clear S2
  go_wp2_with (refine store_sv B0 (spL 0 0 0) (spL a b c) rfl Tryz.infoSp (spL_one _ _ _) rfl rfl HV2.out ?_)
  intro w3 S3 V3
  have HS3 := hidden (HS2.out.trans S3 (fun i hi => .inr (by have := HB0.out; omega)))
  have HV3 := hidden V3
  clear S3 V3
  go_wp2
  refine bodyPost_ret (v := spV a b c) ?_ rfl ⟨rfl, HS3.out⟩
  have := sp_load HV3.out
  simp [results, Tryz.results55, asAddr, this]

set_option maxHeartbeats 2000000 in
theorem lengthStep_any (k : Nat) (h1 : 3 ≤ k) (h2 : k ≤ 258) (w : World) :
    Calls Tryz.prog 54 #[.int .i64 (k : Int)] w fun e w' => e = .returned (spV (lnS k) (lnM k) (lnB k)) ∧ Step (fun _ => False) w w' := by
  have HSP := hidden (fun wx => split_any (k - 3) 3 (.inr rfl) (by omega) wx)
  obtain ⟨W0, hW0⟩ : ∃ W0, w.alloc (.cells #[.int .i64 0, .int .i64 0, .int .i64 0] 89) = W0 := ⟨_, rfl⟩
  obtain ⟨B0, hB0⟩ : ∃ B0, w.heap.size = B0 := ⟨_, rfl⟩
  have HS0 := hidden (show Step (fun _ => False) w W0 by rw [← hW0]; exact (Step.refl _ _).alloc _)
  have HV0 := hidden (show Sv W0 B0 (spL 0 0 0) by rw [← hW0, ← hB0]; exact Sv.new w _ _)
  have HB0 := hidden hB0
  have hz0 : B0 < W0.heap.size := HV0.out.lt (by simp [spL])
  by_cases h : k = 258
  · subst h
    go_enter Tryz.func54, Tryz.ntmps54
    go_wp2_with (refine store_sv B0 (spL 0 0 0) (spL 285 0 0) rfl Tryz.infoSp (spL_one _ _ _) rfl rfl HV0.out ?_)
    intro w3 S3 V3
    have HS3 := hidden (HS0.out.trans S3 (fun i hi => .inr (by have := HB0.out; omega)))
    have HV3 := hidden V3
    clear S3 V3
    go_wp2
    refine bodyPost_ret (v := spV 285 0 0) ?_ rfl ⟨rfl, HS3.out⟩
    have := sp_load HV3.out
    simp [results, Tryz.results54, asAddr, this]
  · have hbd := lnS_bd k h1 h2
    have e1 : lnS k = spS (k - 3) 3 + 257 := by unfold lnS; rw [if_neg h]
    have e2 : lnM k = spM (k - 3) 3 := by unfold lnM; rw [if_neg h]
    have e3 : lnB k = spN (k - 3) 3 := by unfold lnB; rw [if_neg h]
    rw [e1] at hbd
    rw [e1, e2, e3]
    have hd : (k : Int) - 3 = ((k - 3 : Nat) : Int) := by omega
    have hne : ¬ (k : Int) = 258 := by omega
    generalize spS (k - 3) 3 = a at *
    generalize spM (k - 3) 3 = b at *
    generalize spN (k - 3) 3 = c at *
    generalize k - 3 = k3 at *
    clear e1 e2 e3
    go_enter Tryz.func54, Tryz.ntmps54
    go_wp2_with fail
    refine (HSP.out _).mono ?_
    rintro e w2 ⟨rfl, S2⟩
    obtain ⟨W2, hW2⟩ : ∃ W2, w2.alloc (.cells #[.int .i64 0, .int .i64 0, .int .i64 0] 89) = W2 := ⟨_, rfl⟩
    obtain ⟨B2, hB2⟩ : ∃ B2, w2.heap.size = B2 := ⟨_, rfl⟩
    have S2' : Step (fun _ => False) w2 W2 := by rw [← hW2]; exact (Step.refl _ _).alloc _
    have HV2 := hidden (show Sv W2 B2 (spL 0 0 0) by rw [← hW2, ← hB2]; exact Sv.new w2 _ _)
    have HS2 := hidden ((HS0.out.made S2).made S2')
    have HV02 := hidden ((HV0.out.made S2).made S2')
    have hz2 : B0 < B2 := by have := S2.size; omega
    clear S2 S2'
    go_wp2_with (refine store_sv B2 (spL 0 0 0) (spL a b c) rfl Tryz.infoSp (spL_one _ _ _) rfl rfl HV2.out ?_)
    intro w3 S3 V3
    have HS3 := hidden (HS2.out.trans S3 (fun i hi => .inr (by have := HB0.out; omega)))
    have HV03 := hidden (HV02.out.step S3 (by omega))
    have c0 := (V3 0 _ rfl).1
    have f0 := (V3 0 _ rfl).2
    obtain ⟨s, hs⟩ : ∃ s, a + 257 = s := ⟨_, rfl⟩
    have ha : (a : Int) + 257 = (s : Int) := by omega
    have Hs := hidden hs
    clear hs
    have S4 : Step (fun i => i = B2) w3 (w3.setCell ⟨B2, 0, none⟩ (.int .i64 (s : Int))) := (Step.refl (fun i => i = B2) w3).setCell ⟨B2, 0, none⟩ _ (.inl rfl)
    have HV4 := hidden (show Sv (w3.setCell ⟨B2, 0, none⟩ (.int .i64 (s : Int))) B2 (spL s b c) from fun j v hv => by
      have hj : j < 3 := (List.getElem?_eq_some_iff.1 hv).1
      refine ⟨?_, by rw [World.frozen?_setCell]; exact (V3 j ((spL a b c)[j]'hj) (List.getElem?_eq_getElem hj)).2⟩
      have : j = 0 ∨ j = 1 ∨ j = 2 := by omega
      rcases this with rfl | rfl | rfl
      · rw [World.cell?_setCell_same _ _ _ c0]; exact hv
      · rw [World.cell?_setCell_other _ _ _ _ (by simp)]; exact (V3 1 v hv).1
      · rw [World.cell?_setCell_other _ _ _ _ (by simp)]; exact (V3 2 v hv).1)
    have HS4 := hidden (HS3.out.trans S4 (fun i hi => .inr (by have := HB0.out; omega)))
    have HV04 := hidden (HV03.out.step S4 (by omega))
    obtain ⟨w4, hw4⟩ : ∃ w4, w3.setCell ⟨B2, 0, none⟩ (.int .i64 (s : Int)) = w4 := ⟨_, rfl⟩
    rw [hw4] at HV4 HS4 HV04
    have HB2 := hidden hB2
    clear S3 V3 S4 hW2 hB2 hW0 hB0
    go_wp2_with (first | (refine load_sv _ Tryz.underlying89 rfl B2 (spL s b c) Tryz.infoSp rfl HV4.out ?_) | (refine store_sv B0 (spL 0 0 0) (spL s b c) rfl Tryz.infoSp (spL_one _ _ _) rfl rfl HV04.out ?_))
    intro w5 S5 V5
    have HS5 := hidden (HS4.out.trans S5 (fun i hi => .inr (by have := HB0.out; omega)))
    have HV5 := hidden V5
    clear S5 V5
    go_wp2
    refine bodyPost_ret (v := spV s b c) ?_ rfl ⟨by rw [Hs.out], HS5.out⟩
    have := sp_load HV5.out
    simp [results, Tryz.results54, asAddr, Act.put, this]

end Go.Proofs.YtcgjmkcigmmjjaaGreatDoor

namespace Go.Proofs.YtcgjmkcigmmjjaaGreatDoor
open Go.RowKit
/-- A row of three cells each, of the call's own, and nothing else has turned. -/
structure O3 (T : TypeId) (w0 w : World) (v : Value) (n : Nat) (xs : List Value) : Prop where
  own : w.ownsRow 0 T 3 v n xs
  new : ∀ k, v.ownBlock = some k → w0.heap.size ≤ k
  st : Step (fun _ => False) w0 w

theorem O3.nil (T : TypeId) (w : World) : O3 T w w (.slice none 0 0) 0 [] := ⟨World.ownsRow_nil _ _ _ _, fun k h => by simp [Value.ownBlock] at h, Step.refl _ w⟩

theorem own3_keep {T : TypeId} {w w' : World} {v : Value} {n : Nat} {xs : List Value} {S : Nat → Prop} (h : w.ownsRow 0 T 3 v n xs) (hs : Step S w w') (hS : ∀ k, v.ownBlock = some k → ¬ S k) : w'.ownsRow 0 T 3 v n xs := by
  refine ⟨h.1, ?_⟩
  rcases h.2 with hn | ⟨g, cap, cur, e, hb, hgg, rest⟩
  · exact .inl hn
  · refine .inr ⟨g, cap, cur, e, hb, ?_, rest⟩
    rw [hs.block g (Array.getElem?_eq_some_iff.1 hgg).1 (hS g (by rw [e]; rfl))]
    exact hgg

theorem O3.keep {T : TypeId} {w0 w w' : World} {v : Value} {n : Nat} {xs : List Value} (h : O3 T w0 w v n xs) (hs : Step (fun _ => False) w w') : O3 T w0 w' v n xs := ⟨own3_keep h.own hs (fun _ _ h => h), h.new, h.st.made hs⟩

theorem O3.alloc {T : TypeId} {w0 w : World} {v : Value} {n : Nat} {xs : List Value} (h : O3 T w0 w v n xs) (o : Obj) : O3 T w0 (w.alloc o) v n xs := h.keep ((Step.refl (fun _ => False) w).alloc o)

theorem Tryz.infoSp3 : (Tryz.prog.info? 89).map (fun i => (i.zero, i.size, i.bytes)) = some (some (.agg #[.int .i64 0, .int .i64 0, .int .i64 0]), 3, 24) := by kernel_rfl

theorem Tryz.infoTk3 : (Tryz.prog.info? 62).map (fun i => (i.zero, i.size, i.bytes)) = some (some (.agg #[.int .u8 0, .int .i64 0, .int .i64 0]), 3, 24) := by kernel_rfl

theorem app_step {w0 w : World} {ops : Array Oper} {rest : List Oper} {o : Oper} {a : Act} {Q : Exit → Act → World → Prop} (hgd : o.guard = none) (s x : Operand)
    (ho : o.op = .call { callee := .builtin .append, args := #[s, x], argTypes := #[101, 101] })
    (v : Value) (n : Nat) (xs : List Value) (hs : a.eval s = v) (hown : O3 89 w0 w v n xs) (ad : Addr) (c : Nat) (news : List Value) (hx : a.eval x = .slice (some ad) 1 c) (hl : news.length = 3) (hnews : ∀ j u, news[j]? = some u → w.cell? (ad.add j) = some u) (h1 : ∀ u ∈ news, u.oneCell' = true) (hb : n ≤ 1000000)
    (h : ∀ v' w', O3 89 w0 w' v' (n + 1) (xs ++ news) → wpList Tryz.prog ops Q rest (a.put o.dst v') w') : wpList Tryz.prog ops Q (o :: rest) a w := by
  obtain ⟨i0, hi, hz0, hz1, hz2⟩ := info_parts Tryz.infoSp3
  refine wpList_append_at w hgd s x 101 ho 89 i0 _ 3 24 Tryz.underlying101 hi hz0 hz1 hz2 rfl (by decide) v n xs hs hown.own ad 1 c news hx (by rw [hl]) hnews h1 (by unfold maxLen; omega) (by omega) ?_
  intro v' w' k1 k2 _ k4
  refine h v' w' ⟨k1, ?_, hown.st.grown k2 (fun k hk => .inr (hown.new k hk))⟩
  intro k hk
  rcases k4 with e | e
  · rw [e] at hk; exact hown.new k hk
  · rw [e] at hk
    have := Option.some.inj hk
    have := hown.st.size
    omega

theorem lit3_news (w : World) (cs : List Value) (T : TypeId) : ∀ j u, cs[j]? = some u → (w.alloc (.cells cs.toArray T)).cell? ((⟨w.heap.size, 0, none⟩ : Addr).add j) = some u := by
  intro j u hu
  rw [Addr.add_lit, Nat.zero_add, World.cell?_alloc_mark]
  simpa using hu

end Go.Proofs.YtcgjmkcigmmjjaaGreatDoor

namespace Go.Proofs.YtcgjmkcigmmjjaaGreatDoor
open Go.RowKit
set_option maxRecDepth 100000
/-- The step, and how many it tells. -/
def lstS (x t : Nat) (again : Bool) : Sp := if x = 0 ∧ 11 ≤ t then ⟨18, min t 138 - 11, 7⟩ else if x = 0 ∧ 3 ≤ t then ⟨17, min t 10 - 3, 3⟩ else if again = true ∧ 3 ≤ t then ⟨16, min t 6 - 3, 2⟩ else ⟨x, 0, 0⟩

def lstN (x t : Nat) (again : Bool) : Nat := if x = 0 ∧ 11 ≤ t then min t 138 else if x = 0 ∧ 3 ≤ t then min t 10 else if again = true ∧ 3 ≤ t then min t 6 else 1

theorem lst_ok (A : List Int) (x t : Nat) (again : Bool) (hx : x ≤ 15) (ht : 1 ≤ t) (ha : again = true → 0 < A.length ∧ A.getD (A.length - 1) 0 = (x : Int)) : spOk A (lstS x t again) (lstN x t again) (x : Int) ∧ 1 ≤ lstN x t again ∧ lstN x t again ≤ t := by
  unfold lstS lstN spOk
  by_cases h1 : x = 0 ∧ 11 ≤ t
  · simp only [if_pos h1]
    refine ⟨.inl ⟨(by first | rfl | trivial), (by first | rfl | trivial), by omega, by omega, (by first | rfl | trivial), by omega⟩, by omega, by omega⟩
  · by_cases h2 : x = 0 ∧ 3 ≤ t
    · simp only [if_neg h1, if_pos h2]
      refine ⟨.inr (.inl ⟨(by first | rfl | trivial), (by first | rfl | trivial), by omega, by omega, (by first | rfl | trivial), by omega⟩), by omega, by omega⟩
    · by_cases h3 : again = true ∧ 3 ≤ t
      · simp only [if_neg h1, if_neg h2, if_pos h3]
        obtain ⟨a1, a2⟩ := ha h3.1
        refine ⟨.inr (.inr (.inl ⟨(by first | rfl | trivial), (by first | rfl | trivial), by omega, by omega, (by first | rfl | trivial), a1, a2.symm⟩)), by omega, by omega⟩
      · simp only [if_neg h1, if_neg h2, if_neg h3]
        exact ⟨.inr (.inr (.inr ⟨hx, (by first | rfl | trivial), (by first | rfl | trivial), (by first | rfl | trivial), (by first | rfl | trivial)⟩)), by omega, ht⟩

set_option maxHeartbeats 4000000 in
theorem lst_go (x t : Nat) (again : Bool) (hx : x ≤ 15) (ht : 1 ≤ t) (ht2 : t ≤ 1000) (w : World) :
    Calls Tryz.prog 90 #[.int .i64 (x : Int), .int .i64 (t : Int), .bool again] w fun e w' => e = .returned (.tuple #[spV (lstS x t again).s (lstS x t again).m (lstS x t again).b, .int .i64 ((lstN x t again : Nat) : Int)]) ∧ Step (fun _ => False) w w' := by
  obtain ⟨W0, hW0⟩ : ∃ W0, w.alloc (.cells #[.int .i64 0, .int .i64 0, .int .i64 0] 89) = W0 := ⟨_, rfl⟩
  obtain ⟨B0, hB0⟩ : ∃ B0, w.heap.size = B0 := ⟨_, rfl⟩
  have HS0 := hidden (show Step (fun _ => False) w W0 by rw [← hW0]; exact (Step.refl _ _).alloc _)
  have HV0 := hidden (show Sv W0 B0 (spL 0 0 0) by rw [← hW0, ← hB0]; exact Sv.new w _ _)
  have HB0 := hidden hB0
  by_cases h1 : x = 0 ∧ 11 ≤ t
  · obtain ⟨rfl, h11⟩ := h1
    by_cases hm : t < 138
    · skip
      obtain ⟨mm, hmm⟩ : ∃ mm, t - 11 = mm := ⟨_, rfl⟩
      have HE := hidden (show lstS 0 t again = ⟨18, mm, 7⟩ ∧ lstN 0 t again = t by unfold lstS lstN; rw [if_pos (⟨rfl, h11⟩ : (0 = 0 ∧ 11 ≤ t)), if_pos (⟨rfl, h11⟩ : (0 = 0 ∧ 11 ≤ t)), show min t 138 = t by omega, hmm]; exact ⟨rfl, rfl⟩)
      have z1 : (11 : Int) ≤ (t : Int) := by omega
      have hlt : (t : Int) < 138 := by omega
      have hsb : (t : Int) - 11 = (mm : Int) := by omega
      rw [HE.out.1, HE.out.2]
      clear HE
      go_enter Tryz.func90, Tryz.ntmps90
      go_wp2_with (refine store_sv B0 (spL 0 0 0) (spL 18 mm 7) rfl Tryz.infoSp (spL_one _ _ _) rfl (by first | rfl | (simp [spL, Act.eval]; done)) HV0.out ?_)
      intro w3 S3 V3
      have HS3 := hidden (HS0.out.trans S3 (fun i hi => .inr (by have := HB0.out; omega)))
      have HV3 := hidden V3
      clear S3 V3
      go_wp2
      refine bodyPost_ret (v := .tuple #[spV 18 mm 7, .int .i64 ((t : Nat) : Int)]) ?_ rfl ⟨rfl, HS3.out⟩
      have := sp_load HV3.out
      simp [results, Tryz.results90, asAddr, Result.andThen, this]
    · skip
      have HE := hidden (show lstS 0 t again = ⟨18, 127, 7⟩ ∧ lstN 0 t again = 138 by unfold lstS lstN; rw [if_pos (⟨rfl, h11⟩ : (0 = 0 ∧ 11 ≤ t)), if_pos (⟨rfl, h11⟩ : (0 = 0 ∧ 11 ≤ t)), show min t 138 = 138 by omega]; exact ⟨rfl, rfl⟩)
      have z1 : (11 : Int) ≤ (t : Int) := by omega
      have hlt : ¬ (t : Int) < 138 := by omega
      have hmn : (if (138 : Int) < (t : Int) then (138 : Int) else (t : Int)) = 138 := by split <;> omega
      rw [HE.out.1, HE.out.2]
      clear HE
      go_enter Tryz.func90, Tryz.ntmps90
      go_wp2_with (refine store_sv B0 (spL 0 0 0) (spL 18 127 7) rfl Tryz.infoSp (spL_one _ _ _) rfl (by first | rfl | (simp [spL, Act.eval]; done)) HV0.out ?_)
      intro w3 S3 V3
      have HS3 := hidden (HS0.out.trans S3 (fun i hi => .inr (by have := HB0.out; omega)))
      have HV3 := hidden V3
      clear S3 V3
      go_wp2
      refine bodyPost_ret (v := .tuple #[spV 18 127 7, .int .i64 ((138 : Nat) : Int)]) ?_ rfl ⟨rfl, HS3.out⟩
      have := sp_load HV3.out
      simp [results, Tryz.results90, asAddr, Result.andThen, this]
  · by_cases h2 : x = 0 ∧ 3 ≤ t
    · obtain ⟨rfl, h3⟩ := h2
      by_cases hm : t < 10
      · skip
        obtain ⟨mm, hmm⟩ : ∃ mm, t - 3 = mm := ⟨_, rfl⟩
        have HE := hidden (show lstS 0 t again = ⟨17, mm, 3⟩ ∧ lstN 0 t again = t by unfold lstS lstN; rw [if_neg h1, if_pos (⟨rfl, h3⟩ : (0 = 0 ∧ 3 ≤ t)), if_neg h1, if_pos (⟨rfl, h3⟩ : (0 = 0 ∧ 3 ≤ t)), show min t 10 = t by omega, hmm]; exact ⟨rfl, rfl⟩)
        have z1 : ¬ (11 : Int) ≤ (t : Int) := by omega
        have z2 : (3 : Int) ≤ (t : Int) := by omega
        have hlt : (t : Int) < 10 := by omega
        have hsb : (t : Int) - 3 = (mm : Int) := by omega
        rw [HE.out.1, HE.out.2]
        clear HE
        go_enter Tryz.func90, Tryz.ntmps90
        go_wp2_with (refine store_sv B0 (spL 0 0 0) (spL 17 mm 3) rfl Tryz.infoSp (spL_one _ _ _) rfl (by first | rfl | (simp [spL, Act.eval]; done)) HV0.out ?_)
        intro w3 S3 V3
        have HS3 := hidden (HS0.out.trans S3 (fun i hi => .inr (by have := HB0.out; omega)))
        have HV3 := hidden V3
        clear S3 V3
        go_wp2
        refine bodyPost_ret (v := .tuple #[spV 17 mm 3, .int .i64 ((t : Nat) : Int)]) ?_ rfl ⟨rfl, HS3.out⟩
        have := sp_load HV3.out
        simp [results, Tryz.results90, asAddr, Result.andThen, this]
      · skip
        obtain rfl : t = 10 := by omega
        have HE := hidden (show lstS 0 10 again = ⟨17, 7, 3⟩ ∧ lstN 0 10 again = 10 by unfold lstS lstN; simp)
        rw [HE.out.1, HE.out.2]
        clear HE
        go_enter Tryz.func90, Tryz.ntmps90
        go_wp2_with (refine store_sv B0 (spL 0 0 0) (spL 17 7 3) rfl Tryz.infoSp (spL_one _ _ _) rfl (by first | rfl | (simp [spL, Act.eval]; done)) HV0.out ?_)
        intro w3 S3 V3
        have HS3 := hidden (HS0.out.trans S3 (fun i hi => .inr (by have := HB0.out; omega)))
        have HV3 := hidden V3
        clear S3 V3
        go_wp2
        refine bodyPost_ret (v := .tuple #[spV 17 7 3, .int .i64 ((10 : Nat) : Int)]) ?_ rfl ⟨rfl, HS3.out⟩
        have := sp_load HV3.out
        simp [results, Tryz.results90, asAddr, Result.andThen, this]
    · by_cases h4 : again = true ∧ 3 ≤ t
      · obtain ⟨rfl, h3⟩ := h4
        have hx0 : ¬ (x : Int) = 0 := by omega
        by_cases hm : t < 6
        · skip
          obtain ⟨mm, hmm⟩ : ∃ mm, t - 3 = mm := ⟨_, rfl⟩
          have HE := hidden (show lstS x t true = ⟨16, mm, 2⟩ ∧ lstN x t true = t by unfold lstS lstN; rw [if_neg h1, if_neg h2, if_pos (⟨rfl, h3⟩ : (true = true ∧ 3 ≤ t)), if_neg h1, if_neg h2, if_pos (⟨rfl, h3⟩ : (true = true ∧ 3 ≤ t)), show min t 6 = t by omega, hmm]; exact ⟨rfl, rfl⟩)
          have z2 : (3 : Int) ≤ (t : Int) := by omega
          have hlt : (t : Int) < 6 := by omega
          have hsb : (t : Int) - 3 = (mm : Int) := by omega
          rw [HE.out.1, HE.out.2]
          clear HE
          go_enter Tryz.func90, Tryz.ntmps90
          go_wp2_with (refine store_sv B0 (spL 0 0 0) (spL 16 mm 2) rfl Tryz.infoSp (spL_one _ _ _) rfl (by first | rfl | (simp [spL, Act.eval]; done)) HV0.out ?_)
          intro w3 S3 V3
          have HS3 := hidden (HS0.out.trans S3 (fun i hi => .inr (by have := HB0.out; omega)))
          have HV3 := hidden V3
          clear S3 V3
          go_wp2
          refine bodyPost_ret (v := .tuple #[spV 16 mm 2, .int .i64 ((t : Nat) : Int)]) ?_ rfl ⟨rfl, HS3.out⟩
          have := sp_load HV3.out
          simp [results, Tryz.results90, asAddr, Result.andThen, this]
        · skip
          have HE := hidden (show lstS x t true = ⟨16, 3, 2⟩ ∧ lstN x t true = 6 by unfold lstS lstN; rw [if_neg h1, if_neg h2, if_pos (⟨rfl, h3⟩ : (true = true ∧ 3 ≤ t)), if_neg h1, if_neg h2, if_pos (⟨rfl, h3⟩ : (true = true ∧ 3 ≤ t)), show min t 6 = 6 by omega]; exact ⟨rfl, rfl⟩)
          have z2 : (3 : Int) ≤ (t : Int) := by omega
          have hlt : ¬ (t : Int) < 6 := by omega
          have hmn : (if (6 : Int) < (t : Int) then (6 : Int) else (t : Int)) = 6 := by split <;> omega
          rw [HE.out.1, HE.out.2]
          clear HE
          go_enter Tryz.func90, Tryz.ntmps90
          go_wp2_with (refine store_sv B0 (spL 0 0 0) (spL 16 3 2) rfl Tryz.infoSp (spL_one _ _ _) rfl (by first | rfl | (simp [spL, Act.eval]; done)) HV0.out ?_)
          intro w3 S3 V3
          have HS3 := hidden (HS0.out.trans S3 (fun i hi => .inr (by have := HB0.out; omega)))
          have HV3 := hidden V3
          clear S3 V3
          go_wp2
          refine bodyPost_ret (v := .tuple #[spV 16 3 2, .int .i64 ((6 : Nat) : Int)]) ?_ rfl ⟨rfl, HS3.out⟩
          have := sp_load HV3.out
          simp [results, Tryz.results90, asAddr, Result.andThen, this]
      · have HE := hidden (show lstS x t again = ⟨x, 0, 0⟩ ∧ lstN x t again = 1 by unfold lstS lstN; rw [if_neg h1, if_neg h2, if_neg h4, if_neg h1, if_neg h2, if_neg h4]; exact ⟨rfl, rfl⟩)
        rw [HE.out.1, HE.out.2]
        clear HE
        have hc : (¬ (x : Int) = 0 ∧ (3 : Int) ≤ (t : Int) ∧ again = false) ∨ (¬ (x : Int) = 0 ∧ ¬ (3 : Int) ≤ (t : Int)) ∨ (x = 0 ∧ ¬ (3 : Int) ≤ (t : Int) ∧ ¬ (11 : Int) ≤ (t : Int)) := by
          by_cases hx0 : x = 0
          · exact .inr (.inr ⟨hx0, by omega, by omega⟩)
          · by_cases h3 : 3 ≤ t
            · refine .inl ⟨by omega, by omega, ?_⟩
              cases again
              · rfl
              · exact absurd ⟨rfl, h3⟩ h4
            · exact .inr (.inl ⟨by omega, by omega⟩)
        rcases hc with ⟨c1, c2, rfl⟩ | ⟨c1, c2⟩ | ⟨rfl, c2, c3⟩
        · skip
          go_enter Tryz.func90, Tryz.ntmps90
          go_wp2_with (refine store_sv B0 (spL 0 0 0) (spL x 0 0) rfl Tryz.infoSp (spL_one _ _ _) rfl (by first | rfl | (simp [spL, Act.eval]; done)) HV0.out ?_)
          intro w3 S3 V3
          have HS3 := hidden (HS0.out.trans S3 (fun i hi => .inr (by have := HB0.out; omega)))
          have HV3 := hidden V3
          clear S3 V3
          go_wp2
          refine bodyPost_ret (v := .tuple #[spV x 0 0, .int .i64 ((1 : Nat) : Int)]) ?_ rfl ⟨rfl, HS3.out⟩
          have := sp_load HV3.out
          simp [results, Tryz.results90, asAddr, Result.andThen, this]
        · skip
          cases again
          · skip
            go_enter Tryz.func90, Tryz.ntmps90
            go_wp2_with (refine store_sv B0 (spL 0 0 0) (spL x 0 0) rfl Tryz.infoSp (spL_one _ _ _) rfl (by first | rfl | (simp [spL, Act.eval]; done)) HV0.out ?_)
            intro w3 S3 V3
            have HS3 := hidden (HS0.out.trans S3 (fun i hi => .inr (by have := HB0.out; omega)))
            have HV3 := hidden V3
            clear S3 V3
            go_wp2
            refine bodyPost_ret (v := .tuple #[spV x 0 0, .int .i64 ((1 : Nat) : Int)]) ?_ rfl ⟨rfl, HS3.out⟩
            have := sp_load HV3.out
            simp [results, Tryz.results90, asAddr, Result.andThen, this]
          · skip
            go_enter Tryz.func90, Tryz.ntmps90
            go_wp2_with (refine store_sv B0 (spL 0 0 0) (spL x 0 0) rfl Tryz.infoSp (spL_one _ _ _) rfl (by first | rfl | (simp [spL, Act.eval]; done)) HV0.out ?_)
            intro w3 S3 V3
            have HS3 := hidden (HS0.out.trans S3 (fun i hi => .inr (by have := HB0.out; omega)))
            have HV3 := hidden V3
            clear S3 V3
            go_wp2
            refine bodyPost_ret (v := .tuple #[spV x 0 0, .int .i64 ((1 : Nat) : Int)]) ?_ rfl ⟨rfl, HS3.out⟩
            have := sp_load HV3.out
            simp [results, Tryz.results90, asAddr, Result.andThen, this]
        · skip
          cases again
          · skip
            go_enter Tryz.func90, Tryz.ntmps90
            go_wp2_with (refine store_sv B0 (spL 0 0 0) (spL 0 0 0) rfl Tryz.infoSp (spL_one _ _ _) rfl (by first | rfl | (simp [spL, Act.eval]; done)) HV0.out ?_)
            intro w3 S3 V3
            have HS3 := hidden (HS0.out.trans S3 (fun i hi => .inr (by have := HB0.out; omega)))
            have HV3 := hidden V3
            clear S3 V3
            go_wp2
            refine bodyPost_ret (v := .tuple #[spV 0 0 0, .int .i64 ((1 : Nat) : Int)]) ?_ rfl ⟨rfl, HS3.out⟩
            have := sp_load HV3.out
            simp [results, Tryz.results90, asAddr, Result.andThen, this]
          · skip
            go_enter Tryz.func90, Tryz.ntmps90
            go_wp2_with (refine store_sv B0 (spL 0 0 0) (spL 0 0 0) rfl Tryz.infoSp (spL_one _ _ _) rfl (by first | rfl | (simp [spL, Act.eval]; done)) HV0.out ?_)
            intro w3 S3 V3
            have HS3 := hidden (HS0.out.trans S3 (fun i hi => .inr (by have := HB0.out; omega)))
            have HV3 := hidden V3
            clear S3 V3
            go_wp2
            refine bodyPost_ret (v := .tuple #[spV 0 0 0, .int .i64 ((1 : Nat) : Int)]) ?_ rfl ⟨rfl, HS3.out⟩
            have := sp_load HV3.out
            simp [results, Tryz.results90, asAddr, Result.andThen, this]

end Go.Proofs.YtcgjmkcigmmjjaaGreatDoor

namespace Go.Proofs.YtcgjmkcigmmjjaaGreatDoor
open Go.RowKit
theorem run_append_ri {w : World} (ty : TypeId) (v x : Value) (n : Nat) (C L : List Int) (hown : w.ownsRow 0 3 1 v n (i64s C)) (hr : Ri w x L) (h63 : n + L.length ≤ 1000000) :
    ∃ v' w', (Builtin.append_ #[30, 30] ty #[v, x]).run Tryz.prog w = .ok v' w' ∧ w'.ownsRow 0 3 1 v' (n + L.length) (i64s (C ++ L)) ∧ w.grownBy w' v.ownBlock ∧ (v'.ownBlock = v.ownBlock ∨ v'.ownBlock = some w.heap.size) := by
  obtain ⟨i0, hi, hz0, hz1, hz2⟩ := info_parts Tryz.info3
  have hr' := hr
  obtain ⟨ao, cap, rfl, hc, h1, h2⟩ := hr
  cases ao with
  | none =>
    obtain ⟨rfl, rfl⟩ := h1 rfl
    exact ⟨v, w, run_append_owned_none (P := Tryz.prog) (w := w) 0 30 ty 3 i0 1 Tryz.underlying30 hi v n (i64s C) hown, by simpa using hown, World.grownBy.refl _ _, .inl rfl⟩
  | some ad =>
    obtain ⟨v', w', hr, h2, h3, _, h5⟩ := append_own (P := Tryz.prog) w 30 ty 3 i0 (.int .i64 0) 1 8 Tryz.underlying30 hi hz0 hz1 hz2 rfl (by decide) v n (i64s C) hown ad L.length cap (i64s L) (by rw [i64s_length]; omega) hr'.news (i64s_one _) (by unfold maxLen; omega) (by omega)
    exact ⟨v', w', hr, by rw [i64s_append]; exact h2, h3, h5⟩

theorem wpList_append_ri {w : World} {ops : Array Oper} {rest : List Oper} {o : Oper} {a : Act} {Q : Exit → Act → World → Prop} (hgd : o.guard = none) (s x : Operand)
    (ho : o.op = .call { callee := .builtin .append, args := #[s, x], argTypes := #[30, 30] })
    (v : Value) (n : Nat) (C : List Int) (hs : a.eval s = v) (hown : w.ownsRow 0 3 1 v n (i64s C)) (xv : Value) (L : List Int) (hx : a.eval x = xv) (hr : Ri w xv L) (h63 : n + L.length ≤ 1000000)
    (h : ∀ v' w', w'.ownsRow 0 3 1 v' (n + L.length) (i64s (C ++ L)) → w.grownBy w' v.ownBlock → (v'.ownBlock = v.ownBlock ∨ v'.ownBlock = some w.heap.size) → wpList Tryz.prog ops Q rest (a.put o.dst v') w') : wpList Tryz.prog ops Q (o :: rest) a w := by
  refine wpList_plain hgd fun K hK' => ?_
  obtain ⟨v', w', hr, h2, h3, h5⟩ := run_append_ri (w := w) o.type v xv n C L hown hr h63
  unfold Oper.wp
  simp [execOp, ho, resolve, invoke, builtin, hs, hx, hr, Result.andThen]
  exact hK' _ _ (h v' w' h2 h3 h5)

theorem step_append_ri {w : World} {ops : Array Oper} {o : Oper} {a : Act} {K : Act → World → Prop} {Q : Exit → Act → World → Prop} {E : Prop} (hgd : o.guard = none) (s x : Operand)
    (ho : o.op = .call { callee := .builtin .append, args := #[s, x], argTypes := #[30, 30] })
    (v : Value) (n : Nat) (C : List Int) (hs : a.eval s = v) (hown : w.ownsRow 0 3 1 v n (i64s C)) (xv : Value) (L : List Int) (hx : a.eval x = xv) (hr : Ri w xv L) (h63 : n + L.length ≤ 1000000)
    (h : ∀ v' w', w'.ownsRow 0 3 1 v' (n + L.length) (i64s (C ++ L)) → w.grownBy w' v.ownBlock → (v'.ownBlock = v.ownBlock ∨ v'.ownBlock = some w.heap.size) → K (a.put o.dst v') w') :
    if Region.wanted o (yielded ops a.tmps) = true then Oper.wp Tryz.prog o a w K Q else E := by
  have hw : Region.wanted o (yielded ops a.tmps) = true := by simp [Region.wanted, hgd]
  rw [if_pos hw]
  obtain ⟨v', w', hr, h2, h3, h5⟩ := run_append_ri (w := w) o.type v xv n C L hown hr h63
  unfold Oper.wp
  simp [execOp, ho, resolve, invoke, builtin, hs, hx, hr, Result.andThen]
  exact h v' w' h2 h3 h5

theorem Ri.takeS {w : World} {ao : Option Addr} {n cap : Nat} {L : List Int} (h : Ri w (.slice ao n cap) L) (k : Nat) (hk : k ≤ n) : Ri w (.slice ao k cap) (L.take k) := by
  obtain ⟨ao', cap', e, hc, h1, h2⟩ := h
  injection e with e1 e2 e3
  subst e1; subst e2; subst e3
  have hl : (L.take k).length = k := by simp; omega
  refine ⟨ao, cap, by rw [hl], by omega, fun h => ?_, fun a ha hne => ?_⟩
  · obtain ⟨rfl, rfl⟩ := h1 h
    exact ⟨by simp, rfl⟩
  · have hne' : L ≠ [] := by intro e; subst e; simp at hne
    obtain ⟨b, off, e, hc⟩ := h2 a ha hne'
    refine ⟨b, off, e, fun j hj => ?_⟩
    rw [hl] at hj
    rw [hc j (by omega)]
    simp [List.getD, hj]

theorem Ri.dropS {w : World} {b off n cap : Nat} {L : List Int} (h : Ri w (.slice (some ⟨b, off, none⟩) n cap) L) (k : Nat) (hk : k ≤ n) : Ri w (.slice (some ⟨b, off + k, none⟩) (n - k) (cap - k)) (L.drop k) := by
  obtain ⟨ao', cap', e, hc, h1, h2⟩ := h
  injection e with e1 e2 e3
  subst e1; subst e2; subst e3
  have hl : (L.drop k).length = L.length - k := by simp
  refine ⟨_, _, by rw [hl], by omega, fun h => (by cases h), fun a ha hne => ?_⟩
  have hne' : L ≠ [] := by intro e; subst e; simp at hne
  obtain ⟨b', off', e, hc⟩ := h2 _ rfl hne'
  injection e with e1 e2
  subst e1; subst e2
  refine ⟨b, off + k, (Option.some.inj ha).symm, fun j hj => ?_⟩
  rw [hl] at hj
  rw [Nat.add_assoc, hc (k + j) (by omega)]
  simp [List.getD]

theorem Ri.cell {w : World} {ao : Option Addr} {n cap : Nat} {L : List Int} (h : Ri w (.slice ao n cap) L) {k : Nat} (hk : k < L.length) : n = L.length ∧ ∃ b off, ao = some ⟨b, off, none⟩ ∧ ∀ k, k < L.length → w.cell? ⟨b, off + k, none⟩ = some (.int .i64 (L.getD k 0)) := by
  obtain ⟨ao', c', e, _, h1, h2⟩ := h
  injection e with e1 e2 e3
  subst e1
  refine ⟨e2, ?_⟩
  cases ao with
  | none => have := (h1 rfl).1; subst this; simp at hk
  | some a =>
    obtain ⟨b, off, rfl, hc⟩ := h2 a rfl (by intro e; subst e; simp at hk)
    exact ⟨b, off, rfl, hc⟩

theorem own_empty (w : World) : (w.alloc (.cells #[] 3)).ownsRow 0 3 1 (.slice (some ⟨w.heap.size, 0, none⟩) 0 0) 0 (i64s []) := by
  have := World.ownsRow_lit (base := 0) (e := 3) (size := 1) w #[] 0 (Nat.zero_le _) (Nat.zero_le _) rfl
  simpa [i64s] using this

theorem ri_one (w : World) (x : Int) : Ri (w.alloc (.cells #[.int .i64 x] 3)) (.slice (some ⟨w.heap.size, 0, none⟩) 1 1) [x] :=
  ⟨some ⟨w.heap.size, 0, none⟩, 1, rfl, Nat.le_refl _, fun h => (by cases h), fun a ha _ => ⟨w.heap.size, 0, (Option.some.inj ha).symm, fun k hk => by
    have : k = 0 := by simp at hk; omega
    subst this
    rw [World.cell?_alloc_at _ _ _ _ rfl]; rfl⟩⟩

theorem own_empty' (w : World) (g : Nat) (hg : w.heap.size = g) : (w.alloc (.cells #[] 3)).ownsRow 0 3 1 (.slice (some ⟨g, 0, none⟩) 0 0) 0 (i64s []) := by subst hg; exact own_empty w

theorem ri_one' (w : World) (x : Int) (g : Nat) (hg : w.heap.size = g) : Ri (w.alloc (.cells #[.int .i64 x] 3)) (.slice (some ⟨g, 0, none⟩) 1 1) [x] := by subst hg; exact ri_one w x

theorem ri_grown {W0 w1 : World} {G g : Nat} {v : Value} {L : List Int} {n c : Nat} (h : Ri W0 (.slice (some ⟨g, 0, none⟩) n c) L) (hg : W0.grownBy w1 v.ownBlock) (hv : v.ownBlock = some G) (hne : g ≠ G) : Ri w1 (.slice (some ⟨g, 0, none⟩) n c) L := by
  rw [hv] at hg
  refine h.step ((Step.refl (fun k => k = G) W0).grown hg (fun k hk => .inl (Option.some.inj hk).symm)) ?_
  intro a n c e _
  injection e with e1
  have := Option.some.inj e1
  subst this
  exact hne

theorem ri_empty (w : World) (a : Addr) (c : Nat) : Ri w (.slice (some a) 0 c) [] := ⟨some a, c, rfl, Nat.zero_le _, fun h => (by cases h), fun _ _ h => absurd rfl h⟩

theorem ri_empty' (w : World) (a : Addr) (n c : Nat) (hn : n = 0) : Ri w (.slice (some a) n c) [] := by subst hn; exact ri_empty w a c

/-- What an append leaves of a row that is younger than the world w. -/
structure Grew (w : World) (v : Value) (n : Nat) (L : List Int) (w' : World) : Prop where
  own : w'.ownsRow 0 3 1 v n (i64s L)
  blk : ∀ j, v.ownBlock = some j → w.heap.size ≤ j
  st : Step (fun _ => False) w w'

theorem Grew.alloc {w w' : World} {v : Value} {n : Nat} {L : List Int} (h : Grew w v n L w') (o : Obj) : Grew w v n L (w'.alloc o) := ⟨h.own.alloc o, h.blk, h.st.alloc o⟩

theorem Grew.drew {w w' : World} {v : Value} {n : Nat} {L : List Int} (h : Grew w v n L w') : Grew w v n L w'.drew := ⟨h.own, h.blk, h.st.drew⟩

theorem Grew.more {w w0 w1 : World} {v v' : Value} {n m : Nat} {L M : List Int} (h : Grew w v n L w0) (h1 : w1.ownsRow 0 3 1 v' m (i64s M)) (h2 : w0.grownBy w1 v.ownBlock) (h3 : v'.ownBlock = v.ownBlock ∨ v'.ownBlock = some w0.heap.size) : Grew w v' m M w1 :=
  ⟨h1, fun j hj => by
    rcases h3 with e | e
    · exact h.blk j (by rw [← e]; exact hj)
    · rw [e] at hj; have := Option.some.inj hj; have := h.st.size; omega, h.st.grown h2 (fun k hk => .inr (h.blk k hk))⟩

theorem Grew.empty {w W : World} (g : Nat) (hg : W.heap.size = g) (hs : Step (fun _ => False) w W) : Grew w (.slice (some ⟨g, 0, none⟩) 0 0) 0 [] (W.alloc (.cells #[] 3)) :=
  ⟨own_empty' W g hg, fun j hj => by simp [Value.ownBlock] at hj; have := hs.size; omega, hs.alloc _⟩

end Go.Proofs.YtcgjmkcigmmjjaaGreatDoor
