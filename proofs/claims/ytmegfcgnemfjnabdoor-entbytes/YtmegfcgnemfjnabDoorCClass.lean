/-
  Kinds of runes: the code's answers and the page's.
-/
import Derived.Test.YtmegfcgnemfjnabDoorRow
import Derived.WalkKit
namespace Go.Proofs.YtmegfcgnemfjnabDoor
open Go Go.RowKit

def inB (r a b : Int) : Bool := decide (a ≤ r) && decide (r ≤ b)
def signB (c : Int) : Bool := inB c 33 47 || inB c 58 64 || inB c 91 96 || inB c 123 126
def blankS (r : Int) : Bool := r == 9 || r == 10 || r == 12 || r == 13 || r == 32 || r == 160 || r == 5760 || r == 8239 || r == 8287 || r == 12288
def blankB (r : Int) : Bool := blankS r || inB r 8192 8202
def latinS (r : Int) : Bool := r == 171 || r == 172 || r == 180 || r == 187 || r == 191 || r == 215 || r == 247
def latinI (r : Int) : Bool := inB r 161 169 || inB r 174 177 || inB r 182 184
def latinB (r : Int) : Bool := latinS r || latinI r
def farB (r : Int) : Bool := inB r 8208 8231 || inB r 8240 8286 || inB r 8352 8384 || inB r 8592 11263 || inB r 12289 12291 || inB r 12296 12320
def pfarB (r : Int) : Bool := latinS r || latinI r || farB r
def punctB (r : Int) : Bool := if 0 ≤ r ∧ r < 128 then signB r else pfarB r

theorem inB_true {r a b : Int} : inB r a b = true ↔ a ≤ r ∧ r ≤ b := by simp [inB]
theorem inB_false {r a b : Int} : inB r a b = false ↔ ¬ (a ≤ r ∧ r ≤ b) := by
  rw [← inB_true]; simp
theorem latinS_false {r : Int} : latinS r = false ↔ (r ≠ 171 ∧ r ≠ 172 ∧ r ≠ 180 ∧ r ≠ 187 ∧ r ≠ 191 ∧ r ≠ 215 ∧ r ≠ 247) := by simp [latinS, and_assoc]
theorem blankS_false {r : Int} : blankS r = false ↔ (r ≠ 9 ∧ r ≠ 10 ∧ r ≠ 12 ∧ r ≠ 13 ∧ r ≠ 32 ∧ r ≠ 160 ∧ r ≠ 5760 ∧ r ≠ 8239 ∧ r ≠ 8287 ∧ r ≠ 12288) := by simp [blankS, and_assoc]
/-- Up to ff there are Latin signs alone, behind it none of these. -/
theorem punct_low (r : Int) (h : 128 ≤ r) (h2 : r ≤ 255) : punctB r = latinB r := by
  have hf : farB r = false := by
    unfold farB
    rw [inB_false.2 (by omega), inB_false.2 (by omega), inB_false.2 (by omega), inB_false.2 (by omega), inB_false.2 (by omega), inB_false.2 (by omega)]
    rfl
  unfold punctB pfarB latinB
  rw [if_neg (by omega), hf, Bool.or_false]
theorem punct_high (r : Int) (h : ¬ (0 ≤ r ∧ r ≤ 127)) (h2 : ¬ (128 ≤ r ∧ r ≤ 255)) : punctB r = farB r := by
  have hs : latinS r = false := latinS_false.2 (by omega)
  have hi : latinI r = false := by
    unfold latinI
    rw [inB_false.2 (by omega), inB_false.2 (by omega), inB_false.2 (by omega)]
    rfl
  unfold punctB pfarB
  rw [if_neg (by omega), hs, hi]
  rfl
theorem punct_sign (r : Int) (h : 0 ≤ r ∧ r ≤ 127) : punctB r = signB r := by
  unfold punctB
  rw [if_pos (by omega)]
/-- No rune is white and a sign. -/
theorem apart (r : Int) (h : blankB r = true) : punctB r = false := by
  have hb : r = 9 ∨ r = 10 ∨ r = 12 ∨ r = 13 ∨ r = 32 ∨ r = 160 ∨ r = 5760 ∨ r = 8239 ∨ r = 8287 ∨ r = 12288 ∨ (8192 ≤ r ∧ r ≤ 8202) := by
    unfold blankB at h
    rw [Bool.or_eq_true, inB_true] at h
    rcases h with h | h
    · by_cases hn : r ≠ 9 ∧ r ≠ 10 ∧ r ≠ 12 ∧ r ≠ 13 ∧ r ≠ 32 ∧ r ≠ 160 ∧ r ≠ 5760 ∧ r ≠ 8239 ∧ r ≠ 8287 ∧ r ≠ 12288
      · rw [blankS_false.2 hn] at h; cases h
      · omega
    · omega
  rcases hb with rfl | rfl | rfl | rfl | rfl | rfl | rfl | rfl | rfl | rfl | hb
  all_goals first | rfl | skip
  rw [punct_high r (by omega) (by omega)]
  unfold farB
  rw [inB_false.2 (by omega), inB_false.2 (by omega), inB_false.2 (by omega), inB_false.2 (by omega), inB_false.2 (by omega), inB_false.2 (by omega)]
  rfl


theorem within_any (r a b : Int) (w : World) :
    Calls Tryd.prog 30 #[.int .i32 r, .int .i32 a, .int .i32 b] w fun e w' => e = .returned (.bool (inB r a b)) ∧ w' = w := by
  by_cases h1 : a ≤ r
  · by_cases h2 : r ≤ b
    · have HB := hidden (inB_true.2 ⟨h1, h2⟩)
      go_enter Tryd.func30, Tryd.ntmps30
      go_wp2
      go_ret
      exact ⟨by rw [HB.out]; rfl, rfl⟩
    · have HB := hidden (inB_false.2 (fun h : a ≤ r ∧ r ≤ b => h2 h.2))
      go_enter Tryd.func30, Tryd.ntmps30
      go_wp2
      go_ret
      exact ⟨by rw [HB.out]; rfl, rfl⟩
  · have HB := hidden (inB_false.2 (fun h : a ≤ r ∧ r ≤ b => h1 h.1))
    go_enter Tryd.func30, Tryd.ntmps30
    go_wp2
    go_ret
    exact ⟨by rw [HB.out]; rfl, rfl⟩

theorem sign_any (c : Int) (h0 : 0 ≤ c) (h1 : c < 256) (w : World) :
    Calls Tryd.prog 25 #[.int .u8 c] w fun e w' => e = .returned (.bool (signB c)) ∧ w' = w := by
  have hwr : IntKind.i32.wrap c = c := by simp [IntKind.wrap, IntKind.bits, IntKind.signed]; omega
  by_cases h0 : inB c 33 47 = true
  · have HB := hidden (show signB c = true by simp [signB, h0])
    go_enter Tryd.func25, Tryd.ntmps25
    go_wp2_with fail
    refine Calls.mono (within_any _ _ _ _) ?_
    rintro e w1 ⟨rfl, rfl⟩
    rw [h0]
    go_wp2
    go_ret
    exact ⟨by rw [HB.out]; rfl, rfl⟩
  by_cases h1 : inB c 58 64 = true
  · have HB := hidden (show signB c = true by simp [signB, h0, h1])
    have f0 : inB c 33 47 = false := by simpa using h0
    go_enter Tryd.func25, Tryd.ntmps25
    go_wp2_with fail
    refine Calls.mono (within_any _ _ _ _) ?_
    rintro e w1 ⟨rfl, rfl⟩
    rw [f0]
    go_wp2_with fail
    refine Calls.mono (within_any _ _ _ _) ?_
    rintro e w2 ⟨rfl, rfl⟩
    rw [h1]
    go_wp2
    go_ret
    exact ⟨by rw [HB.out]; rfl, rfl⟩
  by_cases h2 : inB c 91 96 = true
  · have HB := hidden (show signB c = true by simp [signB, h0, h1, h2])
    have f0 : inB c 33 47 = false := by simpa using h0
    have f1 : inB c 58 64 = false := by simpa using h1
    go_enter Tryd.func25, Tryd.ntmps25
    go_wp2_with fail
    refine Calls.mono (within_any _ _ _ _) ?_
    rintro e w1 ⟨rfl, rfl⟩
    rw [f0]
    go_wp2_with fail
    refine Calls.mono (within_any _ _ _ _) ?_
    rintro e w2 ⟨rfl, rfl⟩
    rw [f1]
    go_wp2_with fail
    refine Calls.mono (within_any _ _ _ _) ?_
    rintro e w3 ⟨rfl, rfl⟩
    rw [h2]
    go_wp2
    go_ret
    exact ⟨by rw [HB.out]; rfl, rfl⟩
  by_cases h3 : inB c 123 126 = true
  · have HB := hidden (show signB c = true by simp [signB, h0, h1, h2, h3])
    have f0 : inB c 33 47 = false := by simpa using h0
    have f1 : inB c 58 64 = false := by simpa using h1
    have f2 : inB c 91 96 = false := by simpa using h2
    go_enter Tryd.func25, Tryd.ntmps25
    go_wp2_with fail
    refine Calls.mono (within_any _ _ _ _) ?_
    rintro e w1 ⟨rfl, rfl⟩
    rw [f0]
    go_wp2_with fail
    refine Calls.mono (within_any _ _ _ _) ?_
    rintro e w2 ⟨rfl, rfl⟩
    rw [f1]
    go_wp2_with fail
    refine Calls.mono (within_any _ _ _ _) ?_
    rintro e w3 ⟨rfl, rfl⟩
    rw [f2]
    go_wp2_with fail
    refine Calls.mono (within_any _ _ _ _) ?_
    rintro e w4 ⟨rfl, rfl⟩
    rw [h3]
    go_wp2
    go_ret
    exact ⟨by rw [HB.out]; rfl, rfl⟩
  have HB := hidden (show signB c = false by simp [signB, h0, h1, h2, h3])
  have f0 : inB c 33 47 = false := by simpa using h0
  have f1 : inB c 58 64 = false := by simpa using h1
  have f2 : inB c 91 96 = false := by simpa using h2
  have f3 : inB c 123 126 = false := by simpa using h3
  go_enter Tryd.func25, Tryd.ntmps25
  go_wp2_with fail
  refine Calls.mono (within_any _ _ _ _) ?_
  rintro e w1 ⟨rfl, rfl⟩
  rw [f0]
  go_wp2_with fail
  refine Calls.mono (within_any _ _ _ _) ?_
  rintro e w2 ⟨rfl, rfl⟩
  rw [f1]
  go_wp2_with fail
  refine Calls.mono (within_any _ _ _ _) ?_
  rintro e w3 ⟨rfl, rfl⟩
  rw [f2]
  go_wp2_with fail
  refine Calls.mono (within_any _ _ _ _) ?_
  rintro e w4 ⟨rfl, rfl⟩
  rw [f3]
  go_wp2
  go_ret
  exact ⟨by rw [HB.out]; rfl, rfl⟩

end Go.Proofs.YtmegfcgnemfjnabDoor
