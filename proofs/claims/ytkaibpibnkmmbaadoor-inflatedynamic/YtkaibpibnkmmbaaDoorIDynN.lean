/-
  Plain numbers: a block of kind 2 whose lengths are told one by one, laid and read.
-/
import Derived.Test.YtkaibpibnkmmbaaDoorILensR
import Derived.Test.YtkaibpibnkmmbaaDoorIBlockF
import Derived.Test.YtkaibpibnkmmbaaDoorILawN
namespace Go.Proofs.YtkaibpibnkmmbaaDoor
set_option linter.unusedVariables false

/-- The lengths of lengths' codes: sixteen of 4 bits. -/
def C16 : List Int := [4, 4, 4, 4, 4, 4, 4, 4, 4, 4, 4, 4, 4, 4, 4, 4, 0, 0, 0]
theorem C16_ok : newErr C16 = 0 := by decide +kernel
theorem C16_val : ∀ i, i < 16 → C16.getD i 0 = ((4 : Nat) : Int) ∧ codeOf C16 i = (i : Int) := by decide +kernel
theorem D0_ok : newErr [0] = 0 := by decide +kernel

/-- What is laid of them. -/
def clP (k : Nat) : Nat × Nat := (if 15 < ord k then 0 else 4, 3)
def clPs : Nat → Nat → List (Nat × Nat)
  | _, 0 => []
  | k, n + 1 => clP k :: clPs (k + 1) n
theorem clPs_len : ∀ k n, pcL (clPs k n) = 3 * n
  | _, 0 => rfl
  | k, n + 1 => by
    show 3 + pcL (clPs (k + 1) n) = _
    rw [clPs_len (k + 1) n]; omega
theorem clP_ok (k : Nat) : (clP k).1 < 2 ^ (clP k).2 := by unfold clP; simp only; split <;> decide
theorem clPs_read {M m : Nat} : ∀ (n k t : Nat) (ps : List (Nat × Nat)), Bt M m t (clPs k n ++ ps) → t + 3 * n ≤ 8 * m → (∀ i, i < n → M / 2 ^ (t + 3 * i) % 8 = (clP (k + i)).1) ∧ Bt M m (t + 3 * n) ps
  | 0, k, t, ps, h, hm => ⟨fun i hi => by omega, by simpa [clPs] using h⟩
  | n + 1, k, t, ps, h, hm => by
    obtain ⟨h1, h2⟩ := Bt.head (q := clP k) (ps := clPs (k + 1) n ++ ps) h (clP_ok k)
    have hv := bits_val M m t (clP k).1 3 (clP_ok k) h1 (by omega)
    obtain ⟨h3, h4⟩ := clPs_read n (k + 1) (t + 3) ps h2 (by omega)
    refine ⟨fun i hi => ?_, by rw [show t + 3 * (n + 1) = t + 3 + 3 * n by omega]; exact h4⟩
    cases i with
    | zero => simpa using hv
    | succ i =>
      have := h3 i (by omega)
      rw [show t + 3 * (i + 1) = t + 3 + 3 * i by omega, show k + (i + 1) = k + 1 + i by omega]
      exact this

theorem clF_of (f : Nat → Int) (M t : Nat) : ∀ k, (∀ i, i < k → ((M / 2 ^ (t + 3 * i) % 8 : Nat) : Int) = f (ord i)) → ∀ j, (∃ i, i < k ∧ ord i = j) → clF M t k j = f j
  | 0, _, j, h => by obtain ⟨i, hi, _⟩ := h; omega
  | k + 1, hf, j, h => by
    simp only [clF]
    by_cases e : j = ord k
    · rw [if_pos e, hf k (by omega), e]
    · rw [if_neg e]
      obtain ⟨i, hi, hij⟩ := h
      exact clF_of f M t k (fun i hi => hf i (by omega)) j ⟨i, by
        rcases Nat.lt_or_ge i k with h | h
        · exact h
        · have : i = k := by omega
          subst this
          exact absurd hij.symm e, hij⟩
theorem ord_onto : ∀ j, j < 19 → ∃ i, i < 19 ∧ ord i = j := by decide +kernel
theorem C16_at : ∀ i, i < 19 → (((clP i).1 : Nat) : Int) = C16.getD (ord i) 0 := by decide +kernel

theorem clL_C16 {M t : Nat} (h : ∀ i, i < 19 → M / 2 ^ (t + 3 * i) % 8 = (clP i).1) : clL M t 19 = C16 := by
  apply List.ext_getElem
  · rw [clL_length]; rfl
  · intro j h1 h2
    rw [clL_length] at h1
    have e1 := clL_getD M t 19 j h1
    have e2 := clF_of (fun j => C16.getD j 0) M t 19 (fun i hi => by rw [h i hi]; exact C16_at i hi) j (ord_onto j h1)
    exact (getD_i (clL M t 19) j (by rw [clL_length]; exact h1)).symm.trans (e1.trans (e2.trans (getD_i C16 j h2)))

theorem pcL_cons (q : Nat × Nat) (ps : List (Nat × Nat)) : pcL (q :: ps) = q.2 + pcL ps := rfl

/-- A length as it is laid. -/
def lnP (x : Nat) : Nat × Nat := (rv x 4 4, 4)

theorem lens_laid {M m : Nat} (many : Nat) : ∀ (R : List Nat) (t : Nat) (A : List Int) (ps : List (Nat × Nat)), (∀ x ∈ R, x < 16) → Bt M m t (R.map lnP ++ ps) → t + 4 * R.length ≤ 8 * m → A.length + R.length = many →
    Lens C16 M m many t A (.ok (t + 4 * R.length, A ++ R.map (fun (x : Nat) => (x : Int)))) ∧ Bt M m (t + 4 * R.length) ps
  | [], t, A, ps, _, hb, _, hl => ⟨by simpa using Lens.done (by simp at hl; omega), by simpa using hb⟩
  | x :: R, t, A, ps, hx, hb, hm, hl => by
    have hx16 := hx x (by simp)
    obtain ⟨v1, v2⟩ := C16_val x hx16
    obtain ⟨h1, h2⟩ := Bt.head (q := lnP x) (ps := R.map lnP ++ ps) hb (rv_full _ _)
    have hs := symV_code (M := M) (m := m) (t := t) C16_ok (i := x) (n := 4) (c := x) (by simp [C16]; omega) v1 (by omega) v2 hx16 h1
    have hlr : (x :: R).length = R.length + 1 := rfl
    rw [hlr] at hm hl ⊢
    rw [if_pos (by omega)] at hs
    have ht : timP M m x (t + 4) = .ok (1, t + 4) := by unfold timP; rw [if_neg (by omega), if_neg (by omega), if_neg (by omega)]
    have hv : lenOf x A = (x : Int) := by unfold lenOf; rw [if_neg (by omega), if_neg (by omega)]
    obtain ⟨ih1, ih2⟩ := lens_laid many R (t + 4) (A ++ [(x : Int)]) ps (fun y hy => hx y (by simp [hy])) h2 (by omega) (by simp; omega)
    rw [show t + 4 + 4 * R.length = t + 4 * (R.length + 1) by omega] at ih1 ih2
    refine ⟨Lens.more (by omega) hs (by omega) ht (by omega) ?_, ih2⟩
    rw [hv]
    simpa using ih1

/-- A symbol's code as it is laid. -/
def cdP (L : List Int) (i : Nat) : Nat × Nat := (rv (codeOf L i).toNat (L.getD i 0).toNat (L.getD i 0).toNat, (L.getD i 0).toNat)

theorem cd_read {L : List Int} (hL : newErr L = 0) {M m t i : Nat} {ps : List (Nat × Nat)} (hi : i < L.length) (h0 : 0 < L.getD i 0) (hb : Bt M m t (cdP L i :: ps)) (hm : t + (cdP L i).2 ≤ 8 * m) : symV L M m t = .ok (i, t + (cdP L i).2) ∧ Bt M m (t + (cdP L i).2) ps := by
  have hok := (newErr_codes L hL)
  obtain ⟨n, hn⟩ := Int.eq_ofNat_of_zero_le (show 0 ≤ L.getD i 0 by omega)
  obtain ⟨c, hc⟩ := Int.eq_ofNat_of_zero_le (codeOf_nonneg L i)
  have h15 := ((okB_iff L).1 hok.2.1).2 (L.getD i 0) (by rw [getD_i L i hi]; exact List.getElem_mem hi)
  have hlt : c < 2 ^ n := by
    have := (code_lt L i n hi hn (by omega) (by omega) hok.2.2).2
    rw [hc] at this
    have e : ((2 ^ n : Nat) : Int) = (2 : Int) ^ n := by simp
    omega
  have e1 : cdP L i = (rv c n n, n) := by unfold cdP; rw [hn, hc]; simp
  rw [e1] at hb hm ⊢
  obtain ⟨h1, h2⟩ := Bt.head (q := (rv c n n, n)) (ps := ps) hb (rv_full _ _)
  have := symV_code (M := M) (m := m) (t := t) hL hi hn (by omega) hc hlt h1
  rw [if_pos hm] at this
  exact ⟨this, h2⟩

theorem syms_laid {L D : List Int} (hL : newErr L = 0) {M m : Nat} {most : Int} (h257 : L.length = 257) (hE : 0 < L.getD 256 0) : ∀ (P : List Nat) (t : Nat) (O : List Nat), (∀ c ∈ P, c < 256 ∧ 0 < L.getD c 0) → Bt M m t (P.map (cdP L) ++ [cdP L 256]) → t + pcL (P.map (cdP L) ++ [cdP L 256]) ≤ 8 * m → ((O.length + P.length : Nat) : Int) ≤ most →
    Syms L D M m most t O (.ok (t + pcL (P.map (cdP L) ++ [cdP L 256]), O ++ P))
  | [], t, O, _, hb, hm, _ => by
    have hq : pcL ([].map (cdP L) ++ [cdP L 256]) = (cdP L 256).2 := by simp [pcL]
    rw [hq] at hm ⊢
    obtain ⟨h1, _⟩ := cd_read hL (i := 256) (by omega) hE (by simpa using hb) hm
    simpa using Syms.stop h1
  | c :: P, t, O, hp, hb, hm, ho => by
    have hc := hp c (by simp)
    have hq : pcL ((c :: P).map (cdP L) ++ [cdP L 256]) = (cdP L c).2 + pcL (P.map (cdP L) ++ [cdP L 256]) := rfl
    rw [hq] at hm ⊢
    obtain ⟨h1, h2⟩ := cd_read hL (i := c) (by omega) hc.2 (show Bt M m t (cdP L c :: (P.map (cdP L) ++ [cdP L 256])) from hb) (by omega)
    have hcl : (c :: P).length = P.length + 1 := rfl
    have hol : (O ++ [c]).length = O.length + 1 := by simp
    refine Syms.lit h1 hc.1 (by rw [hcl] at ho; omega) ?_
    have := syms_laid (D := D) (most := most) hL h257 hE P (t + (cdP L c).2) (O ++ [c]) (fun x hx => hp x (by simp [hx])) h2 (by omega) (by rw [hol]; rw [hcl] at ho; omega)
    rw [Nat.add_assoc] at this
    simpa using this

/-- All that is laid. -/
def dynP (LN : List Nat) (L : List Int) (P : List Nat) : List (Nat × Nat) := (1, 1) :: (2, 2) :: (0, 5) :: (0, 5) :: (15, 4) :: (clPs 0 19 ++ ((LN ++ [0]).map lnP ++ (P.map (cdP L) ++ [cdP L 256])))

theorem dyn_read {LN : List Nat} {L : List Int} {P : List Nat} {M m : Nat} {most : Int} (hLN : L = LN.map (fun (x : Nat) => (x : Int))) (h257 : LN.length = 257) (h16 : ∀ x ∈ LN, x < 16) (hL : newErr L = 0) (hE : 0 < L.getD 256 0) (hP : ∀ c ∈ P, c < 256 ∧ 0 < L.getD c 0) (hb : Bt M m 0 (dynP LN L P)) (hm : pcL (dynP LN L P) ≤ 8 * m) (ho : (P.length : Int) ≤ most) (n : Nat) :
    BlksF M m most n 0 [] (.ok (pcL (dynP LN L P), P)) := by
  obtain ⟨T, hT⟩ : ∃ T, T = pcL (P.map (cdP L) ++ [cdP L 256]) := ⟨_, rfl⟩
  have hlm : ∀ R : List Nat, pcL (R.map lnP) = 4 * R.length := by
    intro R
    induction R with
    | nil => rfl
    | cons x R ih => show 4 + pcL (R.map lnP) = _; rw [ih]; simp; omega
  have hlen : pcL (dynP LN L P) = 17 + (57 + (4 * 258 + T)) := by
    have h258 : (LN ++ [0]).length = 258 := by simp [h257]
    unfold dynP
    rw [pcL_cons, pcL_cons, pcL_cons, pcL_cons, pcL_cons, pcL_append, pcL_append, clPs_len, hlm, ← hT, h258]
    simp only
    omega
  rw [hlen] at hm
  obtain ⟨a1, b1⟩ := Bt.head (q := (1, 1)) hb (by decide)
  obtain ⟨a2, b2⟩ := Bt.head (q := (2, 2)) b1 (by decide)
  obtain ⟨a3, b3⟩ := Bt.head (q := (0, 5)) b2 (by decide)
  obtain ⟨a4, b4⟩ := Bt.head (q := (0, 5)) b3 (by decide)
  obtain ⟨a5, b5⟩ := Bt.head (q := (15, 4)) b4 (by decide)
  have v1 := bits_val M m _ 1 1 (by decide) a1 (by simp; omega)
  have v2 := bits_val M m _ 2 2 (by decide) a2 (by simp; omega)
  have v3 := bits_val M m _ 0 5 (by decide) a3 (by simp; omega)
  have v4 := bits_val M m _ 0 5 (by decide) a4 (by simp; omega)
  have v5 := bits_val M m _ 15 4 (by decide) a5 (by simp; omega)
  simp only [Nat.zero_add] at v1 v2 v3 v4 v5
  obtain ⟨c1, c2⟩ := clPs_read 19 0 17 _ b5 (by omega)
  have hcl : clL M 17 19 = C16 := clL_C16 (fun i hi => by have := c1 i hi; rwa [Nat.zero_add] at this)
  obtain ⟨d1, d2⟩ := lens_laid (M := M) (m := m) 258 (LN ++ [0]) (17 + 3 * 19) [] _ (fun x hx => by
    rcases List.mem_append.1 hx with h | h
    · exact h16 x h
    · simp at h; omega) c2 (by simp [h257]; omega) (by simp [h257])
  have hA : ([] : List Int) ++ (LN ++ [0]).map (fun (x : Nat) => (x : Int)) = L ++ [0] := by rw [hLN]; simp
  have h258 : (LN ++ [0]).length = 258 := by simp [h257]
  rw [hA, h258] at d1
  rw [h258] at d2
  have hLl : L.length = 257 := by rw [hLN]; simpa using h257
  have hlens : lensR M m 3 = .ok (257, 17 + 3 * 19 + 4 * 258, L ++ [0]) := by
    unfold lensR
    rw [if_pos (by omega), show 3 + 5 = 8 from rfl, show 3 + 10 = 13 from rfl, show 3 + 14 = 17 from rfl]
    have w3 : M / 2 ^ 3 % 32 = 0 := v3
    have w4 : M / 2 ^ 8 % 32 = 0 := v4
    have w5 : M / 2 ^ 13 % 16 = 15 := v5
    rw [w3, w4, w5, if_neg (by omega), show 15 + 4 = 19 from rfl, if_pos (by omega), hcl, if_pos C16_ok, show 0 + 257 + (0 + 1) = 258 from rfl, d1.val]
    rfl
  have htk : (L ++ [0]).take 257 = L := by rw [← hLl]; simp
  have hdr : (L ++ [0]).drop 257 = [0] := by rw [← hLl]; simp
  have h256 : (L ++ [0]).getD 256 0 = L.getD 256 0 := by
    rw [List.getD_eq_getElem?_getD, List.getD_eq_getElem?_getD, List.getElem?_append_left (by omega)]
  have hown : ownP M m 3 = .ok (17 + 3 * 19 + 4 * 258, L, [0]) := by
    rw [ownP_lensR, hlens]
    show ownA 257 _ _ = _
    unfold ownA
    rw [h256, htk, hdr, if_neg (by omega), if_neg (fun q => q hL), if_neg (fun q => q D0_ok)]
  have hsy := syms_laid (D := [0]) (most := most) hL hLl hE P (17 + 3 * 19 + 4 * 258) [] hP d2 (by rw [← hT]; omega) (by simpa using ho)
  rw [← hT, List.nil_append] at hsy
  refine BlksF.last ?_ ?_
  · simpa using v1
  · unfold blkF
    rw [if_pos ⟨by omega, by simpa using v2⟩, hown]
    have hsv := hsy.val
    rw [show 17 + 3 * 19 + 4 * 258 + T = pcL (dynP LN L P) by rw [hlen]; omega] at hsv
    exact hsv

end Go.Proofs.YtkaibpibnkmmbaaDoor
