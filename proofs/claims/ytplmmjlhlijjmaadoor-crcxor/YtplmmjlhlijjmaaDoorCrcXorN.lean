/-
  Rows by xor, and their sums.
-/
import Derived.Test.YtplmmjlhlijjmaaDoorCrcSeesW
import Derived.Test.YtplmmjlhlijjmaaDoorCrcL
namespace Go.Proofs.YtplmmjlhlijjmaaDoor
open Go.RowKit

/-- Three rows by xor, n bytes of each. -/
def xor3 (A B C : List Nat) (n : Nat) : List Nat := (List.range n).map fun i => A.getD i 0 ^^^ B.getD i 0 ^^^ C.getD i 0

theorem xor3_length (A B C : List Nat) (n : Nat) : (xor3 A B C n).length = n := by simp [xor3]
theorem xor3_succ (A B C : List Nat) (n : Nat) : xor3 A B C (n + 1) = xor3 A B C n ++ [A.getD n 0 ^^^ B.getD n 0 ^^^ C.getD n 0] := by simp [xor3, List.range_succ]

/-- A row that is filled from below: the next place. -/
theorem fill_next (X : List Nat) (k d x : Nat) (hX : X.length = k) : (u8s (X ++ List.replicate (d + 1) 0)).set k (.int .u8 (x : Int)) = u8s (X ++ [x] ++ List.replicate d 0) := by
  have hl : (u8s X).length = k := by rw [u8s_length, hX]
  rw [u8s_append, u8s_append, u8s_append, List.replicate_succ, List.set_append_right _ _ (by omega), hl, Nat.sub_self]
  simp [u8s]

theorem crcRun_xor (A B : List Nat) (h : A.length = B.length) : ∀ r s, crcRun (r ^^^ s) (List.zipWith (· ^^^ ·) A B) = crcRun r A ^^^ crcRun s B := by
  induction A generalizing B with
  | nil =>
    intro r s
    have : B = [] := List.eq_nil_of_length_eq_zero (by simpa using h.symm)
    subst this
    rfl
  | cons a A ih =>
    cases B with
    | nil => simp at h
    | cons b B =>
      intro r s
      simp only [List.zipWith_cons_cons, crcRun, List.foldl_cons]
      have := ih B (by simpa using h) (crcByte r a) (crcByte s b)
      simp only [crcRun] at this
      rw [crcByte_xor, this]

theorem take_range (A : List Nat) (n : Nat) (h : n ≤ A.length) : A.take n = (List.range n).map fun i => A.getD i 0 := by
  apply List.ext_getElem
  · simp; omega
  · intro i h1 h2
    have hi : i < A.length := by simp at h1; omega
    simp [List.getD, hi]

theorem xor3_zip (A B C : List Nat) (n : Nat) (ha : n ≤ A.length) (hb : n ≤ B.length) (hc : n ≤ C.length) :
    xor3 A B C n = List.zipWith (· ^^^ ·) (List.zipWith (· ^^^ ·) (A.take n) (B.take n)) (C.take n) := by
  rw [take_range A n ha, take_range B n hb, take_range C n hc]
  apply List.ext_getElem
  · simp [xor3]
  · intro i h1 h2
    simp [xor3]

theorem sum_xor3 (A B C : List Nat) (n : Nat) (ha : n ≤ A.length) (hb : n ≤ B.length) (hc : n ≤ C.length) :
    crcSum (A.take n) ^^^ crcSum (B.take n) ^^^ crcSum (C.take n) = crcSum (xor3 A B C n) := by
  have la : (A.take n).length = n := by simp; omega
  have lb : (B.take n).length = n := by simp; omega
  have lc : (C.take n).length = n := by simp; omega
  rw [xor3_zip A B C n ha hb hc]
  unfold crcSum
  have h1 := crcRun_xor (A.take n) (B.take n) (by omega) 4294967295 4294967295
  have h2 := crcRun_xor (List.zipWith (· ^^^ ·) (A.take n) (B.take n)) (C.take n) (by simp; omega) (4294967295 ^^^ 4294967295) 4294967295
  rw [h1] at h2
  have e : (4294967295 : Nat) ^^^ 4294967295 ^^^ 4294967295 = 4294967295 := by decide
  rw [e] at h2
  rw [h2]
  generalize crcRun 4294967295 (A.take n) = x
  generalize crcRun 4294967295 (B.take n) = y
  generalize crcRun 4294967295 (C.take n) = z
  have e2 : ∀ m : Nat, (x ^^^ m) ^^^ (y ^^^ m) ^^^ (z ^^^ m) = (x ^^^ y ^^^ z) ^^^ (m ^^^ m ^^^ m) := fun m => by
    ac_rfl
  rw [e2, e]

theorem Rd.take {w : World} {a : Option Addr} {cap : Nat} {B : List Nat} (h : Rd w (.slice a B.length cap) B) (n : Nat) (hn : n ≤ B.length) : Rd w (.slice a (B.take n).length cap) (B.take n) := by
  obtain ⟨ao, c, e, h1, h2⟩ := h
  injection e with e1 _ e3
  subst e1; subst e3
  refine ⟨a, cap, rfl, fun h => ?_, fun x hx hne => ?_⟩
  · obtain ⟨rfl, rfl⟩ := h1 h
    exact ⟨by simp, rfl⟩
  · obtain ⟨b, off, e, hc⟩ := h2 x hx (by intro e; subst e; simp at hne)
    refine ⟨b, off, e, fun k hk => ?_⟩
    have hk2 : k < n := by simp at hk; omega
    rw [hc k (by omega)]
    simp only [List.getD, List.getElem?_take_of_lt hk2]

theorem getD_byte (B : List Nat) (k : Nat) (hB : ∀ x ∈ B, x < 256) : B.getD k 0 < 2 ^ 8 := by
  by_cases h : k < B.length
  · exact getD_lt h hB
  · have : B.getD k 0 = 0 := by simp only [List.getD]; rw [List.getElem?_eq_none (by omega)]; rfl
    omega

theorem xor3_byte (A B C : List Nat) (n : Nat) (hA : ∀ x ∈ A, x < 256) (hB : ∀ x ∈ B, x < 256) (hC : ∀ x ∈ C, x < 256) : ∀ x ∈ xor3 A B C n, x < 256 := by
  intro x hx
  obtain ⟨i, _, rfl⟩ := List.mem_map.1 hx
  exact Nat.xor_lt_two_pow (n := 8) (Nat.xor_lt_two_pow (n := 8) (getD_byte A i hA) (getD_byte B i hB)) (getD_byte C i hC)

theorem Rd.cellAt {w : World} {ao : Option Addr} {n cap : Nat} {B : List Nat} (h : Rd w (.slice ao n cap) B) (k : Nat) (hk : k < B.length) : ∃ b off, ao = some ⟨b, off, none⟩ ∧ w.cell? ⟨b, off + k, none⟩ = some (.int .u8 ((B.getD k 0 : Nat) : Int)) := by
  obtain ⟨ao', c, e, h1, h2⟩ := h
  injection e with e1 e2 e3
  subst e1
  have hne : B ≠ [] := by intro e; subst e; simp at hk
  cases ao with
  | none => exact absurd (h1 rfl).1 hne
  | some a =>
    obtain ⟨b, off, rfl, hc⟩ := h2 a rfl hne
    exact ⟨b, off, rfl, hc k hk⟩

end Go.Proofs.YtplmmjlhlijjmaaDoor
