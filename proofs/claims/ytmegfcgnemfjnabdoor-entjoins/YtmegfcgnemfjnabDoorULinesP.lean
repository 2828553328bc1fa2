/-
  Lines by places: how one goes on from a place in the text.
-/
import Derived.Test.YtmegfcgnemfjnabDoorULinesN
namespace Go.Proofs.YtmegfcgnemfjnabDoor
open Go Go.Lib

/-- Does 0d stand just ahead of the place? -/
def crAt (l : List UInt8) (pos : Nat) : Bool := decide (0 < pos ∧ l.getD (pos - 1) 0 = 13)
/-- What stands from a place up to another one. -/
def seg (l : List UInt8) (a b : Nat) : List UInt8 := (l.drop a).take (b - a)

theorem seg_same (l : List UInt8) (a : Nat) : seg l a a = [] := by simp [seg]
theorem drop_one {l : List UInt8} {pos : Nat} (h : pos < l.length) : l.drop pos = l.getD pos 0 :: l.drop (pos + 1) := by
  rw [List.drop_eq_getElem_cons h]
  simp [List.getD, h]
theorem seg_more (l : List UInt8) (a b wd : Nat) (h : a ≤ b) : seg l a b ++ (l.drop b).take wd = seg l a (b + wd) := by
  unfold seg
  rw [show b + wd - a = (b - a) + wd by omega, List.take_add, List.drop_drop, show a + (b - a) = b by omega]
theorem seg_length (l : List UInt8) (a b : Nat) (h : a ≤ b) (hb : b ≤ l.length) : (seg l a b).length = b - a := by
  simp [seg]; omega
theorem seg_end (l : List UInt8) (a : Nat) : seg l a l.length = l.drop a := by
  unfold seg
  rw [List.take_of_length_le (by simp)]

theorem ln_plain (l : List UInt8) (pos beg wd rr : Nat) (hp : pos < l.length) (h1 : (decodeL (l.drop pos)).1 = rr) (h2 : (decodeL (l.drop pos)).2 = wd) (h : rr ≠ 10 ∧ rr ≠ 13) (hb : beg ≤ pos) :
    lnG (crAt l pos) (seg l beg pos) (l.drop pos) = lnG (crAt l (pos + wd)) (seg l beg (pos + wd)) (l.drop (pos + wd)) := by
  have hne : l.drop pos ≠ [] := by
    intro e
    have := congrArg List.length e
    simp at this
    omega
  have hw := decodeL_width (l.drop pos)
  have hle := decodeL_le (l.drop pos) hne
  have hby := rune_bytes (l.drop pos) hne (by rw [h1]; exact h)
  rw [h2] at hw hle hby
  rw [List.length_drop] at hle
  have hq : (l.drop pos).take wd ≠ [] := by
    intro e
    have := congrArg List.length e
    simp at this
    omega
  have hs : (l.drop pos).take wd ++ l.drop (pos + wd) = l.drop pos := by rw [← List.drop_drop, List.take_append_drop]
  have hc : crAt l (pos + wd) = false := by
    unfold crAt
    rw [decide_eq_false_iff_not]
    rintro ⟨_, h13⟩
    refine (hby (l.getD (pos + wd - 1) 0) ?_).2 h13
    rw [List.mem_iff_getElem?]
    refine ⟨wd - 1, ?_⟩
    rw [List.getElem?_take, if_pos (by omega), List.getElem?_drop]
    have : pos + (wd - 1) < l.length := by omega
    rw [show pos + wd - 1 = pos + (wd - 1) by omega]
    simp [List.getD, this]
  rw [← hs, lnG_skip _ _ _ _ hq hby, hc, seg_more l beg pos wd hb]

theorem crAt_next (l : List UInt8) (pos : Nat) : crAt l (pos + 1) = decide (l.getD pos 0 = 13) := by
  unfold crAt
  simp

theorem ln_second (l cur : List UInt8) (pos : Nat) (hp : pos < l.length) (hx : l.getD pos 0 = 10) (hc : crAt l pos = true) :
    lnG (crAt l pos) cur (l.drop pos) = lnG (crAt l (pos + 1)) (seg l (pos + 1) (pos + 1)) (l.drop (pos + 1)) := by
  rw [drop_one hp, crAt_next, hx, hc, lnG_second, seg_same]
  rfl

theorem ln_stop (l cur : List UInt8) (pos : Nat) (hp : pos < l.length) (hx : l.getD pos 0 = 10 ∨ l.getD pos 0 = 13) (hc : ¬ (crAt l pos = true ∧ l.getD pos 0 = 10)) :
    lnG (crAt l pos) cur (l.drop pos) = cur :: lnG (crAt l (pos + 1)) (seg l (pos + 1) (pos + 1)) (l.drop (pos + 1)) := by
  rw [drop_one hp, crAt_next, seg_same]
  rcases hx with hx | hx
  · rw [hx] at hc ⊢
    have : crAt l pos = false := by simpa using hc
    rw [this, lnG_lf false rfl]
    rfl
  · rw [hx, lnG_cr]
    rfl

theorem ln_start (l : List UInt8) : lnG (crAt l 0) (seg l 0 0) (l.drop 0) = linesD l := by
  rw [seg_same]
  rfl
theorem ln_fin (l : List UInt8) (c : Bool) (beg : Nat) : lnG c (seg l beg l.length) (l.drop l.length) = if beg < l.length then [l.drop beg] else [] := by
  rw [seg_end, List.drop_length, lnG_end]
  by_cases h : beg < l.length
  · rw [if_pos h, if_neg]
    intro e
    have := congrArg List.length e
    simp at this
    omega
  · rw [if_neg h, if_pos (List.drop_of_length_le (by omega))]

theorem ext_seg (s : ByteArray) (l : List UInt8) (h : s.data.toList = l) (a b : Nat) (hb : b ≤ l.length) : s.extract a b = ⟨(seg l a b).toArray⟩ := by
  subst h
  obtain ⟨d⟩ := s
  unfold seg
  apply ByteArray.ext
  apply Array.toList_inj.1
  simp only [ByteArray.data_extract, Array.toList_extract, List.extract_eq_take_drop]
theorem getD_at (s : ByteArray) (l : List UInt8) (h : s.data.toList = l) (a : Nat) (ha : a < s.size) : s[a]'ha = l.getD a 0 := by
  subst h
  obtain ⟨d⟩ := s
  have h2 : a < d.size := ha
  show d[a] = _
  simp [List.getD, h2]

end Go.Proofs.YtmegfcgnemfjnabDoor
