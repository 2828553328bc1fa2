/-
  Kinds of runes: the code's answers and the page's.
-/
import Derived.Test.YtjpkeenaofdaaaaRow
import Derived.WalkKit
namespace Go.Proofs.Ytjpkeenaofdaaaa
open Go Go.RowKit

def inB (r a b : Int) : Bool := decide (a ≤ r) && decide (r ≤ b)
def signB (c : Int) : Bool := inB c 33 47 || inB c 58 64 || inB c 91 96 || inB c 123 126
def blankS (r : Int) : Bool := r == 9 || r == 10 || r == 12 || r == 13 || r == 32 || r == 160 || r == 5760 || r == 8239 || r == 8287 || r == 12288
def blankB (r : Int) : Bool := blankS r || inB r 8192 8202
def latinS (r : Int) : Bool := r == 171 || r == 172 || r == 180 || r == 187 || r == 191 || r == 215 || r == 247
def latinI (r : Int) : Bool := inB r 161 169 || inB r 174 177 || inB r 182 184
def latinB (r : Int) : Bool := latinS r || latinI r
def farB (r : Int) : Bool := inB r 8208 8231 || inB r 8240 8286 || inB r 8352 8384 || inB r 8592 11263 || inB r 12289 12291 || inB r 12296 12320
def pfarB (r : Int) : Bool := latinS r || latinI r || farB r
def punctB (r : Int) : Bool := if 0 ≤ r ∧ r < 128 then signB r else pfarB r

theorem inB_true {r a b : Int} : inB r a b = true ↔ a ≤ r ∧ r ≤ b := by simp [inB]
theorem inB_false {r a b : Int} : inB r a b = false ↔ ¬ (a ≤ r ∧ r ≤ b) := by
  rw [← inB_true]; simp
theorem latinS_false {r : Int} : latinS r = false ↔ (r ≠ 171 ∧ r ≠ 172 ∧ r ≠ 180 ∧ r ≠ 187 ∧ r ≠ 191 ∧ r ≠ 215 ∧ r ≠ 247) := by simp [latinS, and_assoc]
theorem blankS_false {r : Int} : blankS r = false ↔ (r ≠ 9 ∧ r ≠ 10 ∧ r ≠ 12 ∧ r ≠ 13 ∧ r ≠ 32 ∧ r ≠ 160 ∧ r ≠ 5760 ∧ r ≠ 8239 ∧ r ≠ 8287 ∧ r ≠ 12288) := by simp [blankS, and_assoc]
/-- Up to ff there are Latin signs alone, behind it none of these. -/
theorem punct_low (r : Int) (h : 128 ≤ r) (h2 : r ≤ 255) : punctB r = latinB r := by
  have hf : farB r = false := by
    unfold farB
    rw [inB_false.2 (by omega), inB_false.2 (by omega), inB_false.2 (by omega), inB_false.2 (by omega), inB_false.2 (by omega), inB_false.2 (by omega)]
    rfl
  unfold punctB pfarB latinB
  rw [if_neg (by omega), hf, Bool.or_false]
theorem punct_high (r : Int) (h : ¬ (0 ≤ r ∧ r ≤ 127)) (h2 : ¬ (128 ≤ r ∧ r ≤ 255)) : punctB r = farB r := by
  have hs : latinS r = false := latinS_false.2 (by omega)
  have hi : latinI r = false := by
    unfold latinI
    rw [inB_false.2 (by omega), inB_false.2 (by omega), inB_false.2 (by omega)]
    rfl
  unfold punctB pfarB
  rw [if_neg (by omega), hs, hi]
  rfl
theorem punct_sign (r : Int) (h : 0 ≤ r ∧ r ≤ 127) : punctB r = signB r := by
  unfold punctB
  rw [if_pos (by omega)]
/-- No rune is white and a sign. -/
theorem apart (r : Int) (h : blankB r = true) : punctB r = false := by
  have hb : r = 9 ∨ r = 10 ∨ r = 12 ∨ r = 13 ∨ r = 32 ∨ r = 160 ∨ r = 5760 ∨ r = 8239 ∨ r = 8287 ∨ r = 12288 ∨ (8192 ≤ r ∧ r ≤ 8202) := by
    unfold blankB at h
    rw [Bool.or_eq_true, inB_true] at h
    rcases h with h | h
    · by_cases hn : r ≠ 9 ∧ r ≠ 10 ∧ r ≠ 12 ∧ r ≠ 13 ∧ r ≠ 32 ∧ r ≠ 160 ∧ r ≠ 5760 ∧ r ≠ 8239 ∧ r ≠ 8287 ∧ r ≠ 12288
      · rw [blankS_false.2 hn] at h; cases h
      · omega
    · omega
  rcases hb with rfl | rfl | rfl | rfl | rfl | rfl | rfl | rfl | rfl | rfl | hb
  all_goals first | rfl | skip
  rw [punct_high r (by omega) (by omega)]
  unfold farB
  rw [inB_false.2 (by omega), inB_false.2 (by omega), inB_false.2 (by omega), inB_false.2 (by omega), inB_false.2 (by omega), inB_false.2 (by omega)]
  rfl


theorem within_any (r a b : Int) (w : World) :
    Calls Try.prog 17 #[.int .i32 r, .int .i32 a, .int .i32 b] w fun e w' => e = .returned (.bool (inB r a b)) ∧ w' = w := by
  by_cases h1 : a ≤ r
  · by_cases h2 : r ≤ b
    · have HB := hidden (inB_true.2 ⟨h1, h2⟩)
      go_enter Try.func17, Try.ntmps17
      go_wp2
      go_ret
      exact ⟨by rw [HB.out]; rfl, rfl⟩
    · have HB := hidden (inB_false.2 (fun h : a ≤ r ∧ r ≤ b => h2 h.2))
      go_enter Try.func17, Try.ntmps17
      go_wp2
      go_ret
      exact ⟨by rw [HB.out]; rfl, rfl⟩
  · have HB := hidden (inB_false.2 (fun h : a ≤ r ∧ r ≤ b => h1 h.1))
    go_enter Try.func17, Try.ntmps17
    go_wp2
    go_ret
    exact ⟨by rw [HB.out]; rfl, rfl⟩

theorem pin_any (r a b : Int) (w : World) :
    Calls Try.prog 18 #[.int .i32 r, .int .i32 a, .int .i32 b] w fun e w' => e = .returned (.bool (inB r a b)) ∧ w' = w := by
  by_cases h1 : a ≤ r
  · by_cases h2 : r ≤ b
    · have HB := hidden (inB_true.2 ⟨h1, h2⟩)
      go_enter Try.func18, Try.ntmps18
      go_wp2
      go_ret
      exact ⟨by rw [HB.out]; rfl, rfl⟩
    · have HB := hidden (inB_false.2 (fun h : a ≤ r ∧ r ≤ b => h2 h.2))
      go_enter Try.func18, Try.ntmps18
      go_wp2
      go_ret
      exact ⟨by rw [HB.out]; rfl, rfl⟩
  · have HB := hidden (inB_false.2 (fun h : a ≤ r ∧ r ≤ b => h1 h.1))
    go_enter Try.func18, Try.ntmps18
    go_wp2
    go_ret
    exact ⟨by rw [HB.out]; rfl, rfl⟩

theorem isFar_any (r : Int) (w : World) :
    Calls Try.prog 20 #[.int .i32 r] w fun e w' => e = .returned (.bool (farB r)) ∧ w' = w := by
  by_cases h0 : inB r 8208 8231 = true
  · have HB := hidden (show farB r = true by simp [farB, h0])
    go_enter Try.func20, Try.ntmps20
    go_wp2_with fail
    refine Calls.mono (within_any _ _ _ _) ?_
    rintro e w1 ⟨rfl, rfl⟩
    rw [h0]
    go_wp2
    go_ret
    exact ⟨by rw [HB.out]; rfl, rfl⟩
  by_cases h1 : inB r 8240 8286 = true
  · have HB := hidden (show farB r = true by simp [farB, h0, h1])
    have f0 : inB r 8208 8231 = false := by simpa using h0
    go_enter Try.func20, Try.ntmps20
    go_wp2_with fail
    refine Calls.mono (within_any _ _ _ _) ?_
    rintro e w1 ⟨rfl, rfl⟩
    rw [f0]
    go_wp2_with fail
    refine Calls.mono (within_any _ _ _ _) ?_
    rintro e w2 ⟨rfl, rfl⟩
    rw [h1]
    go_wp2
    go_ret
    exact ⟨by rw [HB.out]; rfl, rfl⟩
  by_cases h2 : inB r 8352 8384 = true
  · have HB := hidden (show farB r = true by simp [farB, h0, h1, h2])
    have f0 : inB r 8208 8231 = false := by simpa using h0
    have f1 : inB r 8240 8286 = false := by simpa using h1
    go_enter Try.func20, Try.ntmps20
    go_wp2_with fail
    refine Calls.mono (within_any _ _ _ _) ?_
    rintro e w1 ⟨rfl, rfl⟩
    rw [f0]
    go_wp2_with fail
    refine Calls.mono (within_any _ _ _ _) ?_
    rintro e w2 ⟨rfl, rfl⟩
    rw [f1]
    go_wp2_with fail
    refine Calls.mono (within_any _ _ _ _) ?_
    rintro e w3 ⟨rfl, rfl⟩
    rw [h2]
    go_wp2
    go_ret
    exact ⟨by rw [HB.out]; rfl, rfl⟩
  by_cases h3 : inB r 8592 11263 = true
  · have HB := hidden (show farB r = true by simp [farB, h0, h1, h2, h3])
    have f0 : inB r 8208 8231 = false := by simpa using h0
    have f1 : inB r 8240 8286 = false := by simpa using h1
    have f2 : inB r 8352 8384 = false := by simpa using h2
    go_enter Try.func20, Try.ntmps20
    go_wp2_with fail
    refine Calls.mono (within_any _ _ _ _) ?_
    rintro e w1 ⟨rfl, rfl⟩
    rw [f0]
    go_wp2_with fail
    refine Calls.mono (within_any _ _ _ _) ?_
    rintro e w2 ⟨rfl, rfl⟩
    rw [f1]
    go_wp2_with fail
    refine Calls.mono (within_any _ _ _ _) ?_
    rintro e w3 ⟨rfl, rfl⟩
    rw [f2]
    go_wp2_with fail
    refine Calls.mono (within_any _ _ _ _) ?_
    rintro e w4 ⟨rfl, rfl⟩
    rw [h3]
    go_wp2
    go_ret
    exact ⟨by rw [HB.out]; rfl, rfl⟩
  by_cases h4 : inB r 12289 12291 = true
  · have HB := hidden (show farB r = true by simp [farB, h0, h1, h2, h3, h4])
    have f0 : inB r 8208 8231 = false := by simpa using h0
    have f1 : inB r 8240 8286 = false := by simpa using h1
    have f2 : inB r 8352 8384 = false := by simpa using h2
    have f3 : inB r 8592 11263 = false := by simpa using h3
    go_enter Try.func20, Try.ntmps20
    go_wp2_with fail
    refine Calls.mono (within_any _ _ _ _) ?_
    rintro e w1 ⟨rfl, rfl⟩
    rw [f0]
    go_wp2_with fail
    refine Calls.mono (within_any _ _ _ _) ?_
    rintro e w2 ⟨rfl, rfl⟩
    rw [f1]
    go_wp2_with fail
    refine Calls.mono (within_any _ _ _ _) ?_
    rintro e w3 ⟨rfl, rfl⟩
    rw [f2]
    go_wp2_with fail
    refine Calls.mono (within_any _ _ _ _) ?_
    rintro e w4 ⟨rfl, rfl⟩
    rw [f3]
    go_wp2_with fail
    refine Calls.mono (within_any _ _ _ _) ?_
    rintro e w5 ⟨rfl, rfl⟩
    rw [h4]
    go_wp2
    go_ret
    exact ⟨by rw [HB.out]; rfl, rfl⟩
  by_cases h5 : inB r 12296 12320 = true
  · have HB := hidden (show farB r = true by simp [farB, h0, h1, h2, h3, h4, h5])
    have f0 : inB r 8208 8231 = false := by simpa using h0
    have f1 : inB r 8240 8286 = false := by simpa using h1
    have f2 : inB r 8352 8384 = false := by simpa using h2
    have f3 : inB r 8592 11263 = false := by simpa using h3
    have f4 : inB r 12289 12291 = false := by simpa using h4
    go_enter Try.func20, Try.ntmps20
    go_wp2_with fail
    refine Calls.mono (within_any _ _ _ _) ?_
    rintro e w1 ⟨rfl, rfl⟩
    rw [f0]
    go_wp2_with fail
    refine Calls.mono (within_any _ _ _ _) ?_
    rintro e w2 ⟨rfl, rfl⟩
    rw [f1]
    go_wp2_with fail
    refine Calls.mono (within_any _ _ _ _) ?_
    rintro e w3 ⟨rfl, rfl⟩
    rw [f2]
    go_wp2_with fail
    refine Calls.mono (within_any _ _ _ _) ?_
    rintro e w4 ⟨rfl, rfl⟩
    rw [f3]
    go_wp2_with fail
    refine Calls.mono (within_any _ _ _ _) ?_
    rintro e w5 ⟨rfl, rfl⟩
    rw [f4]
    go_wp2_with fail
    refine Calls.mono (within_any _ _ _ _) ?_
    rintro e w6 ⟨rfl, rfl⟩
    rw [h5]
    go_wp2
    go_ret
    exact ⟨by rw [HB.out]; rfl, rfl⟩
  have HB := hidden (show farB r = false by simp [farB, h0, h1, h2, h3, h4, h5])
  have f0 : inB r 8208 8231 = false := by simpa using h0
  have f1 : inB r 8240 8286 = false := by simpa using h1
  have f2 : inB r 8352 8384 = false := by simpa using h2
  have f3 : inB r 8592 11263 = false := by simpa using h3
  have f4 : inB r 12289 12291 = false := by simpa using h4
  have f5 : inB r 12296 12320 = false := by simpa using h5
  go_enter Try.func20, Try.ntmps20
  go_wp2_with fail
  refine Calls.mono (within_any _ _ _ _) ?_
  rintro e w1 ⟨rfl, rfl⟩
  rw [f0]
  go_wp2_with fail
  refine Calls.mono (within_any _ _ _ _) ?_
  rintro e w2 ⟨rfl, rfl⟩
  rw [f1]
  go_wp2_with fail
  refine Calls.mono (within_any _ _ _ _) ?_
  rintro e w3 ⟨rfl, rfl⟩
  rw [f2]
  go_wp2_with fail
  refine Calls.mono (within_any _ _ _ _) ?_
  rintro e w4 ⟨rfl, rfl⟩
  rw [f3]
  go_wp2_with fail
  refine Calls.mono (within_any _ _ _ _) ?_
  rintro e w5 ⟨rfl, rfl⟩
  rw [f4]
  go_wp2_with fail
  refine Calls.mono (within_any _ _ _ _) ?_
  rintro e w6 ⟨rfl, rfl⟩
  rw [f5]
  go_wp2
  go_ret
  exact ⟨by rw [HB.out]; rfl, rfl⟩

theorem sign_any (c : Int) (h0 : 0 ≤ c) (h1 : c < 256) (w : World) :
    Calls Try.prog 10 #[.int .u8 c] w fun e w' => e = .returned (.bool (signB c)) ∧ w' = w := by
  have hwr : IntKind.i32.wrap c = c := by simp [IntKind.wrap, IntKind.bits, IntKind.signed]; omega
  by_cases h0 : inB c 33 47 = true
  · have HB := hidden (show signB c = true by simp [signB, h0])
    go_enter Try.func10, Try.ntmps10
    go_wp2_with fail
    refine Calls.mono (within_any _ _ _ _) ?_
    rintro e w1 ⟨rfl, rfl⟩
    rw [h0]
    go_wp2
    go_ret
    exact ⟨by rw [HB.out]; rfl, rfl⟩
  by_cases h1 : inB c 58 64 = true
  · have HB := hidden (show signB c = true by simp [signB, h0, h1])
    have f0 : inB c 33 47 = false := by simpa using h0
    go_enter Try.func10, Try.ntmps10
    go_wp2_with fail
    refine Calls.mono (within_any _ _ _ _) ?_
    rintro e w1 ⟨rfl, rfl⟩
    rw [f0]
    go_wp2_with fail
    refine Calls.mono (within_any _ _ _ _) ?_
    rintro e w2 ⟨rfl, rfl⟩
    rw [h1]
    go_wp2
    go_ret
    exact ⟨by rw [HB.out]; rfl, rfl⟩
  by_cases h2 : inB c 91 96 = true
  · have HB := hidden (show signB c = true by simp [signB, h0, h1, h2])
    have f0 : inB c 33 47 = false := by simpa using h0
    have f1 : inB c 58 64 = false := by simpa using h1
    go_enter Try.func10, Try.ntmps10
    go_wp2_with fail
    refine Calls.mono (within_any _ _ _ _) ?_
    rintro e w1 ⟨rfl, rfl⟩
    rw [f0]
    go_wp2_with fail
    refine Calls.mono (within_any _ _ _ _) ?_
    rintro e w2 ⟨rfl, rfl⟩
    rw [f1]
    go_wp2_with fail
    refine Calls.mono (within_any _ _ _ _) ?_
    rintro e w3 ⟨rfl, rfl⟩
    rw [h2]
    go_wp2
    go_ret
    exact ⟨by rw [HB.out]; rfl, rfl⟩
  by_cases h3 : inB c 123 126 = true
  · have HB := hidden (show signB c = true by simp [signB, h0, h1, h2, h3])
    have f0 : inB c 33 47 = false := by simpa using h0
    have f1 : inB c 58 64 = false := by simpa using h1
    have f2 : inB c 91 96 = false := by simpa using h2
    go_enter Try.func10, Try.ntmps10
    go_wp2_with fail
    refine Calls.mono (within_any _ _ _ _) ?_
    rintro e w1 ⟨rfl, rfl⟩
    rw [f0]
    go_wp2_with fail
    refine Calls.mono (within_any _ _ _ _) ?_
    rintro e w2 ⟨rfl, rfl⟩
    rw [f1]
    go_wp2_with fail
    refine Calls.mono (within_any _ _ _ _) ?_
    rintro e w3 ⟨rfl, rfl⟩
    rw [f2]
    go_wp2_with fail
    refine Calls.mono (within_any _ _ _ _) ?_
    rintro e w4 ⟨rfl, rfl⟩
    rw [h3]
    go_wp2
    go_ret
    exact ⟨by rw [HB.out]; rfl, rfl⟩
  have HB := hidden (show signB c = false by simp [signB, h0, h1, h2, h3])
  have f0 : inB c 33 47 = false := by simpa using h0
  have f1 : inB c 58 64 = false := by simpa using h1
  have f2 : inB c 91 96 = false := by simpa using h2
  have f3 : inB c 123 126 = false := by simpa using h3
  go_enter Try.func10, Try.ntmps10
  go_wp2_with fail
  refine Calls.mono (within_any _ _ _ _) ?_
  rintro e w1 ⟨rfl, rfl⟩
  rw [f0]
  go_wp2_with fail
  refine Calls.mono (within_any _ _ _ _) ?_
  rintro e w2 ⟨rfl, rfl⟩
  rw [f1]
  go_wp2_with fail
  refine Calls.mono (within_any _ _ _ _) ?_
  rintro e w3 ⟨rfl, rfl⟩
  rw [f2]
  go_wp2_with fail
  refine Calls.mono (within_any _ _ _ _) ?_
  rintro e w4 ⟨rfl, rfl⟩
  rw [f3]
  go_wp2
  go_ret
  exact ⟨by rw [HB.out]; rfl, rfl⟩

theorem isLatin_any (r : Int) (w : World) :
    Calls Try.prog 19 #[.int .i32 r] w fun e w' => e = .returned (.bool (latinB r)) ∧ w' = w := by
  by_cases hs : latinS r = true
  · have hc : r = 171 ∨ r = 172 ∨ r = 180 ∨ r = 187 ∨ r = 191 ∨ r = 215 ∨ r = 247 := by
      by_cases hn : r ≠ 171 ∧ r ≠ 172 ∧ r ≠ 180 ∧ r ≠ 187 ∧ r ≠ 191 ∧ r ≠ 215 ∧ r ≠ 247
      · rw [latinS_false.2 hn] at hs; cases hs
      · omega
    rcases hc with rfl | rfl | rfl | rfl | rfl | rfl | rfl
    · have HB := hidden (show latinB 171 = true by decide)
      clear hs
      go_enter Try.func19, Try.ntmps19
      go_wp2
      go_ret
      exact ⟨by rw [HB.out]; rfl, rfl⟩
    · have HB := hidden (show latinB 172 = true by decide)
      clear hs
      go_enter Try.func19, Try.ntmps19
      go_wp2
      go_ret
      exact ⟨by rw [HB.out]; rfl, rfl⟩
    · have HB := hidden (show latinB 180 = true by decide)
      clear hs
      go_enter Try.func19, Try.ntmps19
      go_wp2
      go_ret
      exact ⟨by rw [HB.out]; rfl, rfl⟩
    · have HB := hidden (show latinB 187 = true by decide)
      clear hs
      go_enter Try.func19, Try.ntmps19
      go_wp2
      go_ret
      exact ⟨by rw [HB.out]; rfl, rfl⟩
    · have HB := hidden (show latinB 191 = true by decide)
      clear hs
      go_enter Try.func19, Try.ntmps19
      go_wp2
      go_ret
      exact ⟨by rw [HB.out]; rfl, rfl⟩
    · have HB := hidden (show latinB 215 = true by decide)
      clear hs
      go_enter Try.func19, Try.ntmps19
      go_wp2
      go_ret
      exact ⟨by rw [HB.out]; rfl, rfl⟩
    · have HB := hidden (show latinB 247 = true by decide)
      clear hs
      go_enter Try.func19, Try.ntmps19
      go_wp2
      go_ret
      exact ⟨by rw [HB.out]; rfl, rfl⟩
  have hs2 : latinS r = false := by simpa using hs
  have hne := latinS_false.1 hs2
  obtain ⟨n0, n1, n2, n3, n4, n5, n6⟩ := hne
  have Hs := hidden hs2
  clear hs hs2
  by_cases h0 : inB r 161 169 = true
  · have HB := hidden (show latinB r = true by simp [latinB, latinI, Hs.out, h0])
    go_enter Try.func19, Try.ntmps19
    go_wp2_with fail
    refine Calls.mono (within_any _ _ _ _) ?_
    rintro e w1 ⟨rfl, rfl⟩
    rw [h0]
    go_wp2
    go_ret
    exact ⟨by rw [HB.out]; rfl, rfl⟩
  by_cases h1 : inB r 174 177 = true
  · have HB := hidden (show latinB r = true by simp [latinB, latinI, Hs.out, h0, h1])
    have f0 : inB r 161 169 = false := by simpa using h0
    go_enter Try.func19, Try.ntmps19
    go_wp2_with fail
    refine Calls.mono (within_any _ _ _ _) ?_
    rintro e w1 ⟨rfl, rfl⟩
    rw [f0]
    go_wp2_with fail
    refine Calls.mono (within_any _ _ _ _) ?_
    rintro e w2 ⟨rfl, rfl⟩
    rw [h1]
    go_wp2
    go_ret
    exact ⟨by rw [HB.out]; rfl, rfl⟩
  by_cases h2 : inB r 182 184 = true
  · have HB := hidden (show latinB r = true by simp [latinB, latinI, Hs.out, h0, h1, h2])
    have f0 : inB r 161 169 = false := by simpa using h0
    have f1 : inB r 174 177 = false := by simpa using h1
    go_enter Try.func19, Try.ntmps19
    go_wp2_with fail
    refine Calls.mono (within_any _ _ _ _) ?_
    rintro e w1 ⟨rfl, rfl⟩
    rw [f0]
    go_wp2_with fail
    refine Calls.mono (within_any _ _ _ _) ?_
    rintro e w2 ⟨rfl, rfl⟩
    rw [f1]
    go_wp2_with fail
    refine Calls.mono (within_any _ _ _ _) ?_
    rintro e w3 ⟨rfl, rfl⟩
    rw [h2]
    go_wp2
    go_ret
    exact ⟨by rw [HB.out]; rfl, rfl⟩
  have HB := hidden (show latinB r = false by simp [latinB, latinI, Hs.out, h0, h1, h2])
  have f0 : inB r 161 169 = false := by simpa using h0
  have f1 : inB r 174 177 = false := by simpa using h1
  have f2 : inB r 182 184 = false := by simpa using h2
  go_enter Try.func19, Try.ntmps19
  go_wp2_with fail
  refine Calls.mono (within_any _ _ _ _) ?_
  rintro e w1 ⟨rfl, rfl⟩
  rw [f0]
  go_wp2_with fail
  refine Calls.mono (within_any _ _ _ _) ?_
  rintro e w2 ⟨rfl, rfl⟩
  rw [f1]
  go_wp2_with fail
  refine Calls.mono (within_any _ _ _ _) ?_
  rintro e w3 ⟨rfl, rfl⟩
  rw [f2]
  go_wp2
  go_ret
  exact ⟨by rw [HB.out]; rfl, rfl⟩

theorem blank_any (r : Int) (w : World) :
    Calls Try.prog 6 #[.int .i32 r] w fun e w' => e = .returned (.bool (blankB r)) ∧ w' = w := by
  by_cases hs : blankS r = true
  · have hc : r = 9 ∨ r = 10 ∨ r = 12 ∨ r = 13 ∨ r = 32 ∨ r = 160 ∨ r = 5760 ∨ r = 8239 ∨ r = 8287 ∨ r = 12288 := by
      by_cases hn : r ≠ 9 ∧ r ≠ 10 ∧ r ≠ 12 ∧ r ≠ 13 ∧ r ≠ 32 ∧ r ≠ 160 ∧ r ≠ 5760 ∧ r ≠ 8239 ∧ r ≠ 8287 ∧ r ≠ 12288
      · rw [blankS_false.2 hn] at hs; cases hs
      · omega
    rcases hc with rfl | rfl | rfl | rfl | rfl | rfl | rfl | rfl | rfl | rfl
    · have HB := hidden (show blankB 9 = true by decide)
      clear hs
      go_enter Try.func6, Try.ntmps6
      go_wp2
      go_ret
      exact ⟨by rw [HB.out]; rfl, rfl⟩
    · have HB := hidden (show blankB 10 = true by decide)
      clear hs
      go_enter Try.func6, Try.ntmps6
      go_wp2
      go_ret
      exact ⟨by rw [HB.out]; rfl, rfl⟩
    · have HB := hidden (show blankB 12 = true by decide)
      clear hs
      go_enter Try.func6, Try.ntmps6
      go_wp2
      go_ret
      exact ⟨by rw [HB.out]; rfl, rfl⟩
    · have HB := hidden (show blankB 13 = true by decide)
      clear hs
      go_enter Try.func6, Try.ntmps6
      go_wp2
      go_ret
      exact ⟨by rw [HB.out]; rfl, rfl⟩
    · have HB := hidden (show blankB 32 = true by decide)
      clear hs
      go_enter Try.func6, Try.ntmps6
      go_wp2
      go_ret
      exact ⟨by rw [HB.out]; rfl, rfl⟩
    · have HB := hidden (show blankB 160 = true by decide)
      clear hs
      go_enter Try.func6, Try.ntmps6
      go_wp2
      go_ret
      exact ⟨by rw [HB.out]; rfl, rfl⟩
    · have HB := hidden (show blankB 5760 = true by decide)
      clear hs
      go_enter Try.func6, Try.ntmps6
      go_wp2
      go_ret
      exact ⟨by rw [HB.out]; rfl, rfl⟩
    · have HB := hidden (show blankB 8239 = true by decide)
      clear hs
      go_enter Try.func6, Try.ntmps6
      go_wp2
      go_ret
      exact ⟨by rw [HB.out]; rfl, rfl⟩
    · have HB := hidden (show blankB 8287 = true by decide)
      clear hs
      go_enter Try.func6, Try.ntmps6
      go_wp2
      go_ret
      exact ⟨by rw [HB.out]; rfl, rfl⟩
    · have HB := hidden (show blankB 12288 = true by decide)
      clear hs
      go_enter Try.func6, Try.ntmps6
      go_wp2
      go_ret
      exact ⟨by rw [HB.out]; rfl, rfl⟩
  have hs2 : blankS r = false := by simpa using hs
  have hne := blankS_false.1 hs2
  obtain ⟨n0, n1, n2, n3, n4, n5, n6, n7, n8, n9⟩ := hne
  have Hs := hidden hs2
  clear hs hs2
  by_cases h0 : inB r 8192 8202 = true
  · have HB := hidden (show blankB r = true by simp [blankB, Hs.out, h0])
    go_enter Try.func6, Try.ntmps6
    go_wp2_with fail
    refine Calls.mono (within_any _ _ _ _) ?_
    rintro e w1 ⟨rfl, rfl⟩
    rw [h0]
    go_wp2
    go_ret
    exact ⟨by rw [HB.out]; rfl, rfl⟩
  have HB := hidden (show blankB r = false by simp [blankB, Hs.out, h0])
  have f0 : inB r 8192 8202 = false := by simpa using h0
  go_enter Try.func6, Try.ntmps6
  go_wp2_with fail
  refine Calls.mono (within_any _ _ _ _) ?_
  rintro e w1 ⟨rfl, rfl⟩
  rw [f0]
  go_wp2
  go_ret
  exact ⟨by rw [HB.out]; rfl, rfl⟩

theorem pblank_any (r : Int) (w : World) :
    Calls Try.prog 7 #[.int .i32 r] w fun e w' => e = .returned (.bool (blankB r)) ∧ w' = w := by
  by_cases hs : blankS r = true
  · have hc : r = 9 ∨ r = 10 ∨ r = 12 ∨ r = 13 ∨ r = 32 ∨ r = 160 ∨ r = 5760 ∨ r = 8239 ∨ r = 8287 ∨ r = 12288 := by
      by_cases hn : r ≠ 9 ∧ r ≠ 10 ∧ r ≠ 12 ∧ r ≠ 13 ∧ r ≠ 32 ∧ r ≠ 160 ∧ r ≠ 5760 ∧ r ≠ 8239 ∧ r ≠ 8287 ∧ r ≠ 12288
      · rw [blankS_false.2 hn] at hs; cases hs
      · omega
    rcases hc with rfl | rfl | rfl | rfl | rfl | rfl | rfl | rfl | rfl | rfl
    · have HB := hidden (show blankB 9 = true by decide)
      clear hs
      go_enter Try.func7, Try.ntmps7
      go_wp2
      go_ret
      exact ⟨by rw [HB.out]; rfl, rfl⟩
    · have HB := hidden (show blankB 10 = true by decide)
      clear hs
      go_enter Try.func7, Try.ntmps7
      go_wp2
      go_ret
      exact ⟨by rw [HB.out]; rfl, rfl⟩
    · have HB := hidden (show blankB 12 = true by decide)
      clear hs
      go_enter Try.func7, Try.ntmps7
      go_wp2
      go_ret
      exact ⟨by rw [HB.out]; rfl, rfl⟩
    · have HB := hidden (show blankB 13 = true by decide)
      clear hs
      go_enter Try.func7, Try.ntmps7
      go_wp2
      go_ret
      exact ⟨by rw [HB.out]; rfl, rfl⟩
    · have HB := hidden (show blankB 32 = true by decide)
      clear hs
      go_enter Try.func7, Try.ntmps7
      go_wp2
      go_ret
      exact ⟨by rw [HB.out]; rfl, rfl⟩
    · have HB := hidden (show blankB 160 = true by decide)
      clear hs
      go_enter Try.func7, Try.ntmps7
      go_wp2
      go_ret
      exact ⟨by rw [HB.out]; rfl, rfl⟩
    · have HB := hidden (show blankB 5760 = true by decide)
      clear hs
      go_enter Try.func7, Try.ntmps7
      go_wp2
      go_ret
      exact ⟨by rw [HB.out]; rfl, rfl⟩
    · have HB := hidden (show blankB 8239 = true by decide)
      clear hs
      go_enter Try.func7, Try.ntmps7
      go_wp2
      go_ret
      exact ⟨by rw [HB.out]; rfl, rfl⟩
    · have HB := hidden (show blankB 8287 = true by decide)
      clear hs
      go_enter Try.func7, Try.ntmps7
      go_wp2
      go_ret
      exact ⟨by rw [HB.out]; rfl, rfl⟩
    · have HB := hidden (show blankB 12288 = true by decide)
      clear hs
      go_enter Try.func7, Try.ntmps7
      go_wp2
      go_ret
      exact ⟨by rw [HB.out]; rfl, rfl⟩
  have hs2 : blankS r = false := by simpa using hs
  have hne := blankS_false.1 hs2
  obtain ⟨n0, n1, n2, n3, n4, n5, n6, n7, n8, n9⟩ := hne
  have Hs := hidden hs2
  clear hs hs2
  by_cases h0 : inB r 8192 8202 = true
  · have HB := hidden (show blankB r = true by simp [blankB, Hs.out, h0])
    go_enter Try.func7, Try.ntmps7
    go_wp2_with fail
    refine Calls.mono (pin_any _ _ _ _) ?_
    rintro e w1 ⟨rfl, rfl⟩
    rw [h0]
    go_wp2
    go_ret
    exact ⟨by rw [HB.out]; rfl, rfl⟩
  have HB := hidden (show blankB r = false by simp [blankB, Hs.out, h0])
  have f0 : inB r 8192 8202 = false := by simpa using h0
  go_enter Try.func7, Try.ntmps7
  go_wp2_with fail
  refine Calls.mono (pin_any _ _ _ _) ?_
  rintro e w1 ⟨rfl, rfl⟩
  rw [f0]
  go_wp2
  go_ret
  exact ⟨by rw [HB.out]; rfl, rfl⟩

theorem psign_any (c : Int) (h0 : 0 ≤ c) (h1 : c < 256) (w : World) :
    Calls Try.prog 11 #[.int .u8 c] w fun e w' => e = .returned (.bool (signB c)) ∧ w' = w := by
  rcases (by omega : (0 ≤ c ∧ c ≤ 32) ∨ (33 ≤ c ∧ c ≤ 47) ∨ (48 ≤ c ∧ c ≤ 57) ∨ (58 ≤ c ∧ c ≤ 64) ∨ (65 ≤ c ∧ c ≤ 90) ∨ (91 ≤ c ∧ c ≤ 96) ∨ (97 ≤ c ∧ c ≤ 122) ∨ (123 ≤ c ∧ c ≤ 126) ∨ (127 ≤ c ∧ c ≤ 255)) with ⟨g0, g1⟩ | ⟨g0, g1⟩ | ⟨g0, g1⟩ | ⟨g0, g1⟩ | ⟨g0, g1⟩ | ⟨g0, g1⟩ | ⟨g0, g1⟩ | ⟨g0, g1⟩ | ⟨g0, g1⟩
  · have HB := hidden (show signB c = false by
      have e0 := @inB_false c
      unfold signB
      rw [show inB c 33 47 = false from inB_false.2 (by omega), show inB c 58 64 = false from inB_false.2 (by omega), show inB c 91 96 = false from inB_false.2 (by omega), show inB c 123 126 = false from inB_false.2 (by omega)]
      rfl)
    have l0 : ¬ ((33 : Int) ≤ c) := by omega
    have m0 : c ≤ 47 := by omega
    have l1 : ¬ ((58 : Int) ≤ c) := by omega
    have m1 : c ≤ 64 := by omega
    have l2 : ¬ ((91 : Int) ≤ c) := by omega
    have m2 : c ≤ 96 := by omega
    have l3 : ¬ ((123 : Int) ≤ c) := by omega
    have m3 : c ≤ 126 := by omega
    go_enter Try.func11, Try.ntmps11
    go_wp2
    go_ret
    exact ⟨by rw [HB.out]; rfl, rfl⟩
  · have HB := hidden (show signB c = true by
      have e0 := @inB_true c
      unfold signB
      rw [show inB c 33 47 = true from inB_true.2 (by omega), show inB c 58 64 = false from inB_false.2 (by omega), show inB c 91 96 = false from inB_false.2 (by omega), show inB c 123 126 = false from inB_false.2 (by omega)]
      rfl)
    have l0 : (33 : Int) ≤ c := by omega
    have m0 : c ≤ 47 := by omega
    have l1 : ¬ ((58 : Int) ≤ c) := by omega
    have m1 : c ≤ 64 := by omega
    have l2 : ¬ ((91 : Int) ≤ c) := by omega
    have m2 : c ≤ 96 := by omega
    have l3 : ¬ ((123 : Int) ≤ c) := by omega
    have m3 : c ≤ 126 := by omega
    go_enter Try.func11, Try.ntmps11
    go_wp2
    go_ret
    exact ⟨by rw [HB.out]; rfl, rfl⟩
  · have HB := hidden (show signB c = false by
      have e0 := @inB_false c
      unfold signB
      rw [show inB c 33 47 = false from inB_false.2 (by omega), show inB c 58 64 = false from inB_false.2 (by omega), show inB c 91 96 = false from inB_false.2 (by omega), show inB c 123 126 = false from inB_false.2 (by omega)]
      rfl)
    have l0 : (33 : Int) ≤ c := by omega
    have m0 : ¬ (c ≤ 47) := by omega
    have l1 : ¬ ((58 : Int) ≤ c) := by omega
    have m1 : c ≤ 64 := by omega
    have l2 : ¬ ((91 : Int) ≤ c) := by omega
    have m2 : c ≤ 96 := by omega
    have l3 : ¬ ((123 : Int) ≤ c) := by omega
    have m3 : c ≤ 126 := by omega
    go_enter Try.func11, Try.ntmps11
    go_wp2
    go_ret
    exact ⟨by rw [HB.out]; rfl, rfl⟩
  · have HB := hidden (show signB c = true by
      have e0 := @inB_true c
      unfold signB
      rw [show inB c 33 47 = false from inB_false.2 (by omega), show inB c 58 64 = true from inB_true.2 (by omega), show inB c 91 96 = false from inB_false.2 (by omega), show inB c 123 126 = false from inB_false.2 (by omega)]
      rfl)
    have l0 : (33 : Int) ≤ c := by omega
    have m0 : ¬ (c ≤ 47) := by omega
    have l1 : (58 : Int) ≤ c := by omega
    have m1 : c ≤ 64 := by omega
    have l2 : ¬ ((91 : Int) ≤ c) := by omega
    have m2 : c ≤ 96 := by omega
    have l3 : ¬ ((123 : Int) ≤ c) := by omega
    have m3 : c ≤ 126 := by omega
    go_enter Try.func11, Try.ntmps11
    go_wp2
    go_ret
    exact ⟨by rw [HB.out]; rfl, rfl⟩
  · have HB := hidden (show signB c = false by
      have e0 := @inB_false c
      unfold signB
      rw [show inB c 33 47 = false from inB_false.2 (by omega), show inB c 58 64 = false from inB_false.2 (by omega), show inB c 91 96 = false from inB_false.2 (by omega), show inB c 123 126 = false from inB_false.2 (by omega)]
      rfl)
    have l0 : (33 : Int) ≤ c := by omega
    have m0 : ¬ (c ≤ 47) := by omega
    have l1 : (58 : Int) ≤ c := by omega
    have m1 : ¬ (c ≤ 64) := by omega
    have l2 : ¬ ((91 : Int) ≤ c) := by omega
    have m2 : c ≤ 96 := by omega
    have l3 : ¬ ((123 : Int) ≤ c) := by omega
    have m3 : c ≤ 126 := by omega
    go_enter Try.func11, Try.ntmps11
    go_wp2
    go_ret
    exact ⟨by rw [HB.out]; rfl, rfl⟩
  · have HB := hidden (show signB c = true by
      have e0 := @inB_true c
      unfold signB
      rw [show inB c 33 47 = false from inB_false.2 (by omega), show inB c 58 64 = false from inB_false.2 (by omega), show inB c 91 96 = true from inB_true.2 (by omega), show inB c 123 126 = false from inB_false.2 (by omega)]
      rfl)
    have l0 : (33 : Int) ≤ c := by omega
    have m0 : ¬ (c ≤ 47) := by omega
    have l1 : (58 : Int) ≤ c := by omega
    have m1 : ¬ (c ≤ 64) := by omega
    have l2 : (91 : Int) ≤ c := by omega
    have m2 : c ≤ 96 := by omega
    have l3 : ¬ ((123 : Int) ≤ c) := by omega
    have m3 : c ≤ 126 := by omega
    go_enter Try.func11, Try.ntmps11
    go_wp2
    go_ret
    exact ⟨by rw [HB.out]; rfl, rfl⟩
  · have HB := hidden (show signB c = false by
      have e0 := @inB_false c
      unfold signB
      rw [show inB c 33 47 = false from inB_false.2 (by omega), show inB c 58 64 = false from inB_false.2 (by omega), show inB c 91 96 = false from inB_false.2 (by omega), show inB c 123 126 = false from inB_false.2 (by omega)]
      rfl)
    have l0 : (33 : Int) ≤ c := by omega
    have m0 : ¬ (c ≤ 47) := by omega
    have l1 : (58 : Int) ≤ c := by omega
    have m1 : ¬ (c ≤ 64) := by omega
    have l2 : (91 : Int) ≤ c := by omega
    have m2 : ¬ (c ≤ 96) := by omega
    have l3 : ¬ ((123 : Int) ≤ c) := by omega
    have m3 : c ≤ 126 := by omega
    go_enter Try.func11, Try.ntmps11
    go_wp2
    go_ret
    exact ⟨by rw [HB.out]; rfl, rfl⟩
  · have HB := hidden (show signB c = true by
      have e0 := @inB_true c
      unfold signB
      rw [show inB c 33 47 = false from inB_false.2 (by omega), show inB c 58 64 = false from inB_false.2 (by omega), show inB c 91 96 = false from inB_false.2 (by omega), show inB c 123 126 = true from inB_true.2 (by omega)]
      rfl)
    have l0 : (33 : Int) ≤ c := by omega
    have m0 : ¬ (c ≤ 47) := by omega
    have l1 : (58 : Int) ≤ c := by omega
    have m1 : ¬ (c ≤ 64) := by omega
    have l2 : (91 : Int) ≤ c := by omega
    have m2 : ¬ (c ≤ 96) := by omega
    have l3 : (123 : Int) ≤ c := by omega
    have m3 : c ≤ 126 := by omega
    go_enter Try.func11, Try.ntmps11
    go_wp2
    go_ret
    exact ⟨by rw [HB.out]; rfl, rfl⟩
  · have HB := hidden (show signB c = false by
      have e0 := @inB_false c
      unfold signB
      rw [show inB c 33 47 = false from inB_false.2 (by omega), show inB c 58 64 = false from inB_false.2 (by omega), show inB c 91 96 = false from inB_false.2 (by omega), show inB c 123 126 = false from inB_false.2 (by omega)]
      rfl)
    have l0 : (33 : Int) ≤ c := by omega
    have m0 : ¬ (c ≤ 47) := by omega
    have l1 : (58 : Int) ≤ c := by omega
    have m1 : ¬ (c ≤ 64) := by omega
    have l2 : (91 : Int) ≤ c := by omega
    have m2 : ¬ (c ≤ 96) := by omega
    have l3 : (123 : Int) ≤ c := by omega
    have m3 : ¬ (c ≤ 126) := by omega
    go_enter Try.func11, Try.ntmps11
    go_wp2
    go_ret
    exact ⟨by rw [HB.out]; rfl, rfl⟩

theorem punct_any (r : Int) (w : World) :
    Calls Try.prog 8 #[.int .i32 r] w fun e w' => e = .returned (.bool (punctB r)) ∧ w' = w := by
  by_cases h0 : inB r 0 127 = true
  · have h2 := inB_true.1 h0
    have hwr : IntKind.u8.wrap r = r := by simp [IntKind.wrap, IntKind.bits, IntKind.signed]; omega
    have HB := hidden (punct_sign r h2)
    have HS := hidden (fun wx => sign_any r h2.1 (by omega) wx)
    go_enter Try.func8, Try.ntmps8
    go_wp2_with fail
    refine Calls.mono (within_any _ _ _ _) ?_
    rintro e w1 ⟨rfl, rfl⟩
    rw [h0]
    go_wp2_with fail
    refine Calls.mono (HS.out _) ?_
    rintro e w2 ⟨rfl, rfl⟩
    go_wp2
    go_ret
    exact ⟨by rw [HB.out]; rfl, rfl⟩
  have f0 : inB r 0 127 = false := by simpa using h0
  have g0 := inB_false.1 f0
  by_cases h1 : inB r 128 255 = true
  · have h2 := inB_true.1 h1
    have HB := hidden (punct_low r h2.1 h2.2)
    clear g0 h2
    go_enter Try.func8, Try.ntmps8
    go_wp2_with fail
    refine Calls.mono (within_any _ _ _ _) ?_
    rintro e w1 ⟨rfl, rfl⟩
    rw [f0]
    go_wp2_with fail
    refine Calls.mono (within_any _ _ _ _) ?_
    rintro e w2 ⟨rfl, rfl⟩
    rw [h1]
    go_wp2_with fail
    refine Calls.mono (isLatin_any _ _) ?_
    rintro e w3 ⟨rfl, rfl⟩
    go_wp2
    go_ret
    exact ⟨by rw [HB.out]; rfl, rfl⟩
  have f1 : inB r 128 255 = false := by simpa using h1
  have HB := hidden (punct_high r g0 (inB_false.1 f1))
  clear g0
  go_enter Try.func8, Try.ntmps8
  go_wp2_with fail
  refine Calls.mono (within_any _ _ _ _) ?_
  rintro e w1 ⟨rfl, rfl⟩
  rw [f0]
  go_wp2_with fail
  refine Calls.mono (within_any _ _ _ _) ?_
  rintro e w2 ⟨rfl, rfl⟩
  rw [f1]
  go_wp2_with fail
  refine Calls.mono (isFar_any _ _) ?_
  rintro e w3 ⟨rfl, rfl⟩
  go_wp2
  go_ret
  exact ⟨by rw [HB.out]; rfl, rfl⟩

set_option maxHeartbeats 8000000 in
theorem ppunct_up (r : Int) (hr : 128 ≤ r) (w : World) :
    Calls Try.prog 9 #[.int .i32 r] w fun e w' => e = .returned (.bool (pfarB r)) ∧ w' = w := by
  have p0 : (0 : Int) ≤ r := by omega
  have p1 : ¬ (r < 128) := by omega
  by_cases hs : latinS r = true
  · have hc : r = 171 ∨ r = 172 ∨ r = 180 ∨ r = 187 ∨ r = 191 ∨ r = 215 ∨ r = 247 := by
      by_cases hn : r ≠ 171 ∧ r ≠ 172 ∧ r ≠ 180 ∧ r ≠ 187 ∧ r ≠ 191 ∧ r ≠ 215 ∧ r ≠ 247
      · rw [latinS_false.2 hn] at hs; cases hs
      · omega
    rcases hc with rfl | rfl | rfl | rfl | rfl | rfl | rfl
    · have HB := hidden (show pfarB 171 = true by decide)
      clear hs
      go_enter Try.func9, Try.ntmps9
      go_wp2
      go_ret
      exact ⟨by rw [HB.out]; rfl, rfl⟩
    · have HB := hidden (show pfarB 172 = true by decide)
      clear hs
      go_enter Try.func9, Try.ntmps9
      go_wp2
      go_ret
      exact ⟨by rw [HB.out]; rfl, rfl⟩
    · have HB := hidden (show pfarB 180 = true by decide)
      clear hs
      go_enter Try.func9, Try.ntmps9
      go_wp2
      go_ret
      exact ⟨by rw [HB.out]; rfl, rfl⟩
    · have HB := hidden (show pfarB 187 = true by decide)
      clear hs
      go_enter Try.func9, Try.ntmps9
      go_wp2
      go_ret
      exact ⟨by rw [HB.out]; rfl, rfl⟩
    · have HB := hidden (show pfarB 191 = true by decide)
      clear hs
      go_enter Try.func9, Try.ntmps9
      go_wp2
      go_ret
      exact ⟨by rw [HB.out]; rfl, rfl⟩
    · have HB := hidden (show pfarB 215 = true by decide)
      clear hs
      go_enter Try.func9, Try.ntmps9
      go_wp2
      go_ret
      exact ⟨by rw [HB.out]; rfl, rfl⟩
    · have HB := hidden (show pfarB 247 = true by decide)
      clear hs
      go_enter Try.func9, Try.ntmps9
      go_wp2
      go_ret
      exact ⟨by rw [HB.out]; rfl, rfl⟩
  have hs2 : latinS r = false := by simpa using hs
  have hne := latinS_false.1 hs2
  obtain ⟨n0, n1, n2, n3, n4, n5, n6⟩ := hne
  have Hs := hidden hs2
  clear hs hs2
  by_cases h0 : inB r 161 169 = true
  · have HB := hidden (show pfarB r = true by simp [pfarB, latinI, farB, Hs.out, h0])
    go_enter Try.func9, Try.ntmps9
    go_wp2_with fail
    refine Calls.mono (pin_any _ _ _ _) ?_
    rintro e w1 ⟨rfl, rfl⟩
    rw [h0]
    go_wp2
    go_ret
    exact ⟨by rw [HB.out]; rfl, rfl⟩
  by_cases h1 : inB r 174 177 = true
  · have HB := hidden (show pfarB r = true by simp [pfarB, latinI, farB, Hs.out, h0, h1])
    have f0 : inB r 161 169 = false := by simpa using h0
    go_enter Try.func9, Try.ntmps9
    go_wp2_with fail
    refine Calls.mono (pin_any _ _ _ _) ?_
    rintro e w1 ⟨rfl, rfl⟩
    rw [f0]
    go_wp2_with fail
    refine Calls.mono (pin_any _ _ _ _) ?_
    rintro e w2 ⟨rfl, rfl⟩
    rw [h1]
    go_wp2
    go_ret
    exact ⟨by rw [HB.out]; rfl, rfl⟩
  by_cases h2 : inB r 182 184 = true
  · have HB := hidden (show pfarB r = true by simp [pfarB, latinI, farB, Hs.out, h0, h1, h2])
    have f0 : inB r 161 169 = false := by simpa using h0
    have f1 : inB r 174 177 = false := by simpa using h1
    go_enter Try.func9, Try.ntmps9
    go_wp2_with fail
    refine Calls.mono (pin_any _ _ _ _) ?_
    rintro e w1 ⟨rfl, rfl⟩
    rw [f0]
    go_wp2_with fail
    refine Calls.mono (pin_any _ _ _ _) ?_
    rintro e w2 ⟨rfl, rfl⟩
    rw [f1]
    go_wp2_with fail
    refine Calls.mono (pin_any _ _ _ _) ?_
    rintro e w3 ⟨rfl, rfl⟩
    rw [h2]
    go_wp2
    go_ret
    exact ⟨by rw [HB.out]; rfl, rfl⟩
  by_cases h3 : inB r 8208 8231 = true
  · have HB := hidden (show pfarB r = true by simp [pfarB, latinI, farB, Hs.out, h0, h1, h2, h3])
    have f0 : inB r 161 169 = false := by simpa using h0
    have f1 : inB r 174 177 = false := by simpa using h1
    have f2 : inB r 182 184 = false := by simpa using h2
    go_enter Try.func9, Try.ntmps9
    go_wp2_with fail
    refine Calls.mono (pin_any _ _ _ _) ?_
    rintro e w1 ⟨rfl, rfl⟩
    rw [f0]
    go_wp2_with fail
    refine Calls.mono (pin_any _ _ _ _) ?_
    rintro e w2 ⟨rfl, rfl⟩
    rw [f1]
    go_wp2_with fail
    refine Calls.mono (pin_any _ _ _ _) ?_
    rintro e w3 ⟨rfl, rfl⟩
    rw [f2]
    go_wp2_with fail
    refine Calls.mono (pin_any _ _ _ _) ?_
    rintro e w4 ⟨rfl, rfl⟩
    rw [h3]
    go_wp2
    go_ret
    exact ⟨by rw [HB.out]; rfl, rfl⟩
  by_cases h4 : inB r 8240 8286 = true
  · have HB := hidden (show pfarB r = true by simp [pfarB, latinI, farB, Hs.out, h0, h1, h2, h3, h4])
    have f0 : inB r 161 169 = false := by simpa using h0
    have f1 : inB r 174 177 = false := by simpa using h1
    have f2 : inB r 182 184 = false := by simpa using h2
    have f3 : inB r 8208 8231 = false := by simpa using h3
    go_enter Try.func9, Try.ntmps9
    go_wp2_with fail
    refine Calls.mono (pin_any _ _ _ _) ?_
    rintro e w1 ⟨rfl, rfl⟩
    rw [f0]
    go_wp2_with fail
    refine Calls.mono (pin_any _ _ _ _) ?_
    rintro e w2 ⟨rfl, rfl⟩
    rw [f1]
    go_wp2_with fail
    refine Calls.mono (pin_any _ _ _ _) ?_
    rintro e w3 ⟨rfl, rfl⟩
    rw [f2]
    go_wp2_with fail
    refine Calls.mono (pin_any _ _ _ _) ?_
    rintro e w4 ⟨rfl, rfl⟩
    rw [f3]
    go_wp2_with fail
    refine Calls.mono (pin_any _ _ _ _) ?_
    rintro e w5 ⟨rfl, rfl⟩
    rw [h4]
    go_wp2
    go_ret
    exact ⟨by rw [HB.out]; rfl, rfl⟩
  by_cases h5 : inB r 8352 8384 = true
  · have HB := hidden (show pfarB r = true by simp [pfarB, latinI, farB, Hs.out, h0, h1, h2, h3, h4, h5])
    have f0 : inB r 161 169 = false := by simpa using h0
    have f1 : inB r 174 177 = false := by simpa using h1
    have f2 : inB r 182 184 = false := by simpa using h2
    have f3 : inB r 8208 8231 = false := by simpa using h3
    have f4 : inB r 8240 8286 = false := by simpa using h4
    go_enter Try.func9, Try.ntmps9
    go_wp2_with fail
    refine Calls.mono (pin_any _ _ _ _) ?_
    rintro e w1 ⟨rfl, rfl⟩
    rw [f0]
    go_wp2_with fail
    refine Calls.mono (pin_any _ _ _ _) ?_
    rintro e w2 ⟨rfl, rfl⟩
    rw [f1]
    go_wp2_with fail
    refine Calls.mono (pin_any _ _ _ _) ?_
    rintro e w3 ⟨rfl, rfl⟩
    rw [f2]
    go_wp2_with fail
    refine Calls.mono (pin_any _ _ _ _) ?_
    rintro e w4 ⟨rfl, rfl⟩
    rw [f3]
    go_wp2_with fail
    refine Calls.mono (pin_any _ _ _ _) ?_
    rintro e w5 ⟨rfl, rfl⟩
    rw [f4]
    go_wp2_with fail
    refine Calls.mono (pin_any _ _ _ _) ?_
    rintro e w6 ⟨rfl, rfl⟩
    rw [h5]
    go_wp2
    go_ret
    exact ⟨by rw [HB.out]; rfl, rfl⟩
  by_cases h6 : inB r 8592 11263 = true
  · have HB := hidden (show pfarB r = true by simp [pfarB, latinI, farB, Hs.out, h0, h1, h2, h3, h4, h5, h6])
    have f0 : inB r 161 169 = false := by simpa using h0
    have f1 : inB r 174 177 = false := by simpa using h1
    have f2 : inB r 182 184 = false := by simpa using h2
    have f3 : inB r 8208 8231 = false := by simpa using h3
    have f4 : inB r 8240 8286 = false := by simpa using h4
    have f5 : inB r 8352 8384 = false := by simpa using h5
    go_enter Try.func9, Try.ntmps9
    go_wp2_with fail
    refine Calls.mono (pin_any _ _ _ _) ?_
    rintro e w1 ⟨rfl, rfl⟩
    rw [f0]
    go_wp2_with fail
    refine Calls.mono (pin_any _ _ _ _) ?_
    rintro e w2 ⟨rfl, rfl⟩
    rw [f1]
    go_wp2_with fail
    refine Calls.mono (pin_any _ _ _ _) ?_
    rintro e w3 ⟨rfl, rfl⟩
    rw [f2]
    go_wp2_with fail
    refine Calls.mono (pin_any _ _ _ _) ?_
    rintro e w4 ⟨rfl, rfl⟩
    rw [f3]
    go_wp2_with fail
    refine Calls.mono (pin_any _ _ _ _) ?_
    rintro e w5 ⟨rfl, rfl⟩
    rw [f4]
    go_wp2_with fail
    refine Calls.mono (pin_any _ _ _ _) ?_
    rintro e w6 ⟨rfl, rfl⟩
    rw [f5]
    go_wp2_with fail
    refine Calls.mono (pin_any _ _ _ _) ?_
    rintro e w7 ⟨rfl, rfl⟩
    rw [h6]
    go_wp2
    go_ret
    exact ⟨by rw [HB.out]; rfl, rfl⟩
  by_cases h7 : inB r 12289 12291 = true
  · have HB := hidden (show pfarB r = true by simp [pfarB, latinI, farB, Hs.out, h0, h1, h2, h3, h4, h5, h6, h7])
    have f0 : inB r 161 169 = false := by simpa using h0
    have f1 : inB r 174 177 = false := by simpa using h1
    have f2 : inB r 182 184 = false := by simpa using h2
    have f3 : inB r 8208 8231 = false := by simpa using h3
    have f4 : inB r 8240 8286 = false := by simpa using h4
    have f5 : inB r 8352 8384 = false := by simpa using h5
    have f6 : inB r 8592 11263 = false := by simpa using h6
    go_enter Try.func9, Try.ntmps9
    go_wp2_with fail
    refine Calls.mono (pin_any _ _ _ _) ?_
    rintro e w1 ⟨rfl, rfl⟩
    rw [f0]
    go_wp2_with fail
    refine Calls.mono (pin_any _ _ _ _) ?_
    rintro e w2 ⟨rfl, rfl⟩
    rw [f1]
    go_wp2_with fail
    refine Calls.mono (pin_any _ _ _ _) ?_
    rintro e w3 ⟨rfl, rfl⟩
    rw [f2]
    go_wp2_with fail
    refine Calls.mono (pin_any _ _ _ _) ?_
    rintro e w4 ⟨rfl, rfl⟩
    rw [f3]
    go_wp2_with fail
    refine Calls.mono (pin_any _ _ _ _) ?_
    rintro e w5 ⟨rfl, rfl⟩
    rw [f4]
    go_wp2_with fail
    refine Calls.mono (pin_any _ _ _ _) ?_
    rintro e w6 ⟨rfl, rfl⟩
    rw [f5]
    go_wp2_with fail
    refine Calls.mono (pin_any _ _ _ _) ?_
    rintro e w7 ⟨rfl, rfl⟩
    rw [f6]
    go_wp2_with fail
    refine Calls.mono (pin_any _ _ _ _) ?_
    rintro e w8 ⟨rfl, rfl⟩
    rw [h7]
    go_wp2
    go_ret
    exact ⟨by rw [HB.out]; rfl, rfl⟩
  by_cases h8 : inB r 12296 12320 = true
  · have HB := hidden (show pfarB r = true by simp [pfarB, latinI, farB, Hs.out, h0, h1, h2, h3, h4, h5, h6, h7, h8])
    have f0 : inB r 161 169 = false := by simpa using h0
    have f1 : inB r 174 177 = false := by simpa using h1
    have f2 : inB r 182 184 = false := by simpa using h2
    have f3 : inB r 8208 8231 = false := by simpa using h3
    have f4 : inB r 8240 8286 = false := by simpa using h4
    have f5 : inB r 8352 8384 = false := by simpa using h5
    have f6 : inB r 8592 11263 = false := by simpa using h6
    have f7 : inB r 12289 12291 = false := by simpa using h7
    go_enter Try.func9, Try.ntmps9
    go_wp2_with fail
    refine Calls.mono (pin_any _ _ _ _) ?_
    rintro e w1 ⟨rfl, rfl⟩
    rw [f0]
    go_wp2_with fail
    refine Calls.mono (pin_any _ _ _ _) ?_
    rintro e w2 ⟨rfl, rfl⟩
    rw [f1]
    go_wp2_with fail
    refine Calls.mono (pin_any _ _ _ _) ?_
    rintro e w3 ⟨rfl, rfl⟩
    rw [f2]
    go_wp2_with fail
    refine Calls.mono (pin_any _ _ _ _) ?_
    rintro e w4 ⟨rfl, rfl⟩
    rw [f3]
    go_wp2_with fail
    refine Calls.mono (pin_any _ _ _ _) ?_
    rintro e w5 ⟨rfl, rfl⟩
    rw [f4]
    go_wp2_with fail
    refine Calls.mono (pin_any _ _ _ _) ?_
    rintro e w6 ⟨rfl, rfl⟩
    rw [f5]
    go_wp2_with fail
    refine Calls.mono (pin_any _ _ _ _) ?_
    rintro e w7 ⟨rfl, rfl⟩
    rw [f6]
    go_wp2_with fail
    refine Calls.mono (pin_any _ _ _ _) ?_
    rintro e w8 ⟨rfl, rfl⟩
    rw [f7]
    go_wp2_with fail
    refine Calls.mono (pin_any _ _ _ _) ?_
    rintro e w9 ⟨rfl, rfl⟩
    rw [h8]
    go_wp2
    go_ret
    exact ⟨by rw [HB.out]; rfl, rfl⟩
  have HB := hidden (show pfarB r = false by simp [pfarB, latinI, farB, Hs.out, h0, h1, h2, h3, h4, h5, h6, h7, h8])
  have f0 : inB r 161 169 = false := by simpa using h0
  have f1 : inB r 174 177 = false := by simpa using h1
  have f2 : inB r 182 184 = false := by simpa using h2
  have f3 : inB r 8208 8231 = false := by simpa using h3
  have f4 : inB r 8240 8286 = false := by simpa using h4
  have f5 : inB r 8352 8384 = false := by simpa using h5
  have f6 : inB r 8592 11263 = false := by simpa using h6
  have f7 : inB r 12289 12291 = false := by simpa using h7
  have f8 : inB r 12296 12320 = false := by simpa using h8
  go_enter Try.func9, Try.ntmps9
  go_wp2_with fail
  refine Calls.mono (pin_any _ _ _ _) ?_
  rintro e w1 ⟨rfl, rfl⟩
  rw [f0]
  go_wp2_with fail
  refine Calls.mono (pin_any _ _ _ _) ?_
  rintro e w2 ⟨rfl, rfl⟩
  rw [f1]
  go_wp2_with fail
  refine Calls.mono (pin_any _ _ _ _) ?_
  rintro e w3 ⟨rfl, rfl⟩
  rw [f2]
  go_wp2_with fail
  refine Calls.mono (pin_any _ _ _ _) ?_
  rintro e w4 ⟨rfl, rfl⟩
  rw [f3]
  go_wp2_with fail
  refine Calls.mono (pin_any _ _ _ _) ?_
  rintro e w5 ⟨rfl, rfl⟩
  rw [f4]
  go_wp2_with fail
  refine Calls.mono (pin_any _ _ _ _) ?_
  rintro e w6 ⟨rfl, rfl⟩
  rw [f5]
  go_wp2_with fail
  refine Calls.mono (pin_any _ _ _ _) ?_
  rintro e w7 ⟨rfl, rfl⟩
  rw [f6]
  go_wp2_with fail
  refine Calls.mono (pin_any _ _ _ _) ?_
  rintro e w8 ⟨rfl, rfl⟩
  rw [f7]
  go_wp2_with fail
  refine Calls.mono (pin_any _ _ _ _) ?_
  rintro e w9 ⟨rfl, rfl⟩
  rw [f8]
  go_wp2
  go_ret
  exact ⟨by rw [HB.out]; rfl, rfl⟩

set_option maxHeartbeats 8000000 in
theorem ppunct_neg (r : Int) (hr : r < 0) (w : World) :
    Calls Try.prog 9 #[.int .i32 r] w fun e w' => e = .returned (.bool (pfarB r)) ∧ w' = w := by
  have p0 : ¬ ((0 : Int) ≤ r) := by omega
  have Hs := hidden (latinS_false.2 (show (r ≠ 171 ∧ r ≠ 172 ∧ r ≠ 180 ∧ r ≠ 187 ∧ r ≠ 191 ∧ r ≠ 215 ∧ r ≠ 247) by omega))
  have n0 : r ≠ 171 := by omega
  have n1 : r ≠ 172 := by omega
  have n2 : r ≠ 180 := by omega
  have n3 : r ≠ 187 := by omega
  have n4 : r ≠ 191 := by omega
  have n5 : r ≠ 215 := by omega
  have n6 : r ≠ 247 := by omega
  have f0 : inB r 161 169 = false := inB_false.2 (by omega)
  have f1 : inB r 174 177 = false := inB_false.2 (by omega)
  have f2 : inB r 182 184 = false := inB_false.2 (by omega)
  have f3 : inB r 8208 8231 = false := inB_false.2 (by omega)
  have f4 : inB r 8240 8286 = false := inB_false.2 (by omega)
  have f5 : inB r 8352 8384 = false := inB_false.2 (by omega)
  have f6 : inB r 8592 11263 = false := inB_false.2 (by omega)
  have f7 : inB r 12289 12291 = false := inB_false.2 (by omega)
  have f8 : inB r 12296 12320 = false := inB_false.2 (by omega)
  have HB := hidden (show pfarB r = false by simp [pfarB, latinI, farB, Hs.out, f0, f1, f2, f3, f4, f5, f6, f7, f8])
  go_enter Try.func9, Try.ntmps9
  go_wp2_with fail
  refine Calls.mono (pin_any _ _ _ _) ?_
  rintro e w1 ⟨rfl, rfl⟩
  rw [f0]
  go_wp2_with fail
  refine Calls.mono (pin_any _ _ _ _) ?_
  rintro e w2 ⟨rfl, rfl⟩
  rw [f1]
  go_wp2_with fail
  refine Calls.mono (pin_any _ _ _ _) ?_
  rintro e w3 ⟨rfl, rfl⟩
  rw [f2]
  go_wp2_with fail
  refine Calls.mono (pin_any _ _ _ _) ?_
  rintro e w4 ⟨rfl, rfl⟩
  rw [f3]
  go_wp2_with fail
  refine Calls.mono (pin_any _ _ _ _) ?_
  rintro e w5 ⟨rfl, rfl⟩
  rw [f4]
  go_wp2_with fail
  refine Calls.mono (pin_any _ _ _ _) ?_
  rintro e w6 ⟨rfl, rfl⟩
  rw [f5]
  go_wp2_with fail
  refine Calls.mono (pin_any _ _ _ _) ?_
  rintro e w7 ⟨rfl, rfl⟩
  rw [f6]
  go_wp2_with fail
  refine Calls.mono (pin_any _ _ _ _) ?_
  rintro e w8 ⟨rfl, rfl⟩
  rw [f7]
  go_wp2_with fail
  refine Calls.mono (pin_any _ _ _ _) ?_
  rintro e w9 ⟨rfl, rfl⟩
  rw [f8]
  go_wp2
  go_ret
  exact ⟨by rw [HB.out]; rfl, rfl⟩

theorem ppunct_any (r : Int) (w : World) :
    Calls Try.prog 9 #[.int .i32 r] w fun e w' => e = .returned (.bool (punctB r)) ∧ w' = w := by
  by_cases g0 : 0 ≤ r ∧ r < 128
  · obtain ⟨h1, h2⟩ := g0
    have hwr : IntKind.u8.wrap r = r := by simp [IntKind.wrap, IntKind.bits, IntKind.signed]; omega
    have HB := hidden (punct_sign r ⟨h1, by omega⟩)
    have HS := hidden (fun wx => psign_any r h1 (by omega) wx)
    go_enter Try.func9, Try.ntmps9
    go_wp2_with fail
    refine Calls.mono (HS.out _) ?_
    rintro e w1 ⟨rfl, rfl⟩
    go_wp2
    go_ret
    exact ⟨by rw [HB.out]; rfl, rfl⟩
  have HP := hidden (show punctB r = pfarB r by unfold punctB; rw [if_neg g0])
  suffices HH : Calls Try.prog 9 #[.int .i32 r] w fun e w' => e = .returned (.bool (pfarB r)) ∧ w' = w by rw [HP.out]; exact HH
  clear HP
  by_cases g1 : 0 ≤ r
  · exact ppunct_up r (by omega) w
  · exact ppunct_neg r (by omega) w
end Go.Proofs.Ytjpkeenaofdaaaa
