/-
  Bytes of an address: the code's tests.
-/
import Derived.Test.YtmegfcgnemfjnabDoorECode3
import Derived.Lib.IndexLaws
namespace Go.Proofs.YtmegfcgnemfjnabDoor
open Go.RowKit Go.Lib

theorem ewithin_any (c a b : Int) (w : World) :
    Calls Tryd.prog 22 #[.int .u8 c, .int .u8 a, .int .u8 b] w fun e w' => e = .returned (.bool (decide (a ≤ c ∧ c ≤ b))) ∧ w' = w := by
  by_cases h1 : a ≤ c
  · by_cases h2 : c ≤ b
    · rw [decide_eq_true (show a ≤ c ∧ c ≤ b from ⟨h1, h2⟩)]
      go_enter Tryd.func22, Tryd.ntmps22
      go_wp2
      go_ret
      exact ⟨rfl, rfl⟩
    · rw [decide_eq_false (fun h : a ≤ c ∧ c ≤ b => h2 h.2)]
      go_enter Tryd.func22, Tryd.ntmps22
      go_wp2
      go_ret
      exact ⟨rfl, rfl⟩
  · rw [decide_eq_false (fun h : a ≤ c ∧ c ≤ b => h1 h.1)]
    go_enter Tryd.func22, Tryd.ntmps22
    go_wp2
    go_ret
    exact ⟨rfl, rfl⟩

theorem isDigit_any (c : Int) (w : World) :
    Calls Tryd.prog 21 #[.int .u8 c] w fun e w' => e = .returned (.bool (decide (48 ≤ c ∧ c ≤ 57))) ∧ w' = w := by
  have HW := hidden (ewithin_any c 48 57 w)
  generalize decide (48 ≤ c ∧ c ≤ 57) = b at *
  go_enter Tryd.func21, Tryd.ntmps21
  go_wp2_with fail
  refine Calls.mono HW.out ?_
  rintro e w' ⟨rfl, rfl⟩
  go_wp2
  go_ret
  exact ⟨rfl, rfl⟩

theorem isHex_any (c : Nat) (w : World) :
    Calls Tryd.prog 24 #[.int .u8 (c : Int)] w fun e w' => e = .returned (.bool (decide (dv c < 16))) ∧ w' = w := by
  have hd := isDigit_any (c : Int) w
  have h1 := ewithin_any (c : Int) 97 102 w
  have h2 := ewithin_any (c : Int) 65 70 w
  by_cases k0 : 48 ≤ c ∧ c ≤ 57
  · rw [decide_eq_true (by unfold dv; rw [if_pos k0]; omega)]
    rw [decide_eq_true (by omega)] at hd
    have HD := hidden hd
    clear hd h1 h2 k0
    go_enter Tryd.func24, Tryd.ntmps24
    go_wp2_with fail
    refine Calls.mono HD.out ?_
    rintro e w' ⟨rfl, rfl⟩
    go_wp2
    go_ret
    exact ⟨rfl, rfl⟩
  rw [decide_eq_false (by omega)] at hd
  have HD := hidden hd
  by_cases k1 : 97 ≤ c ∧ c ≤ 102
  · rw [decide_eq_true (by unfold dv; rw [if_neg k0, if_pos k1]; omega)]
    rw [decide_eq_true (by omega)] at h1
    have H1 := hidden h1
    clear hd h1 h2 k0 k1
    go_enter Tryd.func24, Tryd.ntmps24
    go_wp2_with fail
    refine Calls.mono HD.out ?_
    rintro e w' ⟨rfl, rfl⟩
    go_wp2_with fail
    refine Calls.mono H1.out ?_
    rintro e w' ⟨rfl, rfl⟩
    go_wp2
    go_ret
    exact ⟨rfl, rfl⟩
  rw [decide_eq_false (by omega)] at h1
  have H1 := hidden h1
  have hv : decide (dv c < 16) = decide ((65 : Int) ≤ (c : Int) ∧ (c : Int) ≤ 70) := by
    by_cases k2 : 65 ≤ c ∧ c ≤ 70
    · rw [decide_eq_true (by unfold dv; rw [if_neg k0, if_neg k1, if_pos k2]; omega), decide_eq_true (by omega)]
    · rw [decide_eq_false (by unfold dv; rw [if_neg k0, if_neg k1, if_neg k2]; omega), decide_eq_false (by omega)]
  rw [hv]
  generalize decide ((65 : Int) ≤ (c : Int) ∧ (c : Int) ≤ 70) = b at *
  have H2 := hidden h2
  clear hd h1 h2 k0 k1 hv
  go_enter Tryd.func24, Tryd.ntmps24
  go_wp2_with fail
  refine Calls.mono HD.out ?_
  rintro e w' ⟨rfl, rfl⟩
  go_wp2_with fail
  refine Calls.mono H1.out ?_
  rintro e w' ⟨rfl, rfl⟩
  go_wp2_with fail
  refine Calls.mono H2.out ?_
  rintro e w' ⟨rfl, rfl⟩
  go_wp2
  go_ret
  exact ⟨rfl, rfl⟩

theorem strings_indexc (s : ByteArray) (c : Int) (w : World) :
    Calls Tryd.prog 23 #[.string s, .int .u8 c] w fun e w' => e = .returned (.int .i64 (Lib.indexByte s.data.toList c.toNat.toUInt8)) ∧ w' = w := by
  have HI := hidden (litindex_any s c w)
  go_enter Tryd.func23, Tryd.ntmps23
  go_wp2_with fail
  refine Calls.mono HI.out ?_
  rintro e w' ⟨rfl, rfl⟩
  go_wp2
  go_ret
  exact ⟨rfl, rfl⟩

theorem index_mem (l : List UInt8) (c : UInt8) : 0 ≤ Lib.indexByte l c ↔ c ∈ l := by
  constructor
  · intro h
    obtain ⟨o, ho⟩ : ∃ o : Nat, Lib.indexByte l c = (o : Int) := ⟨(Lib.indexByte l c).toNat, by omega⟩
    exact List.mem_of_getElem? (Lib.indexByte_some ho).1
  · intro h
    have hg := Lib.indexByte_ge l c
    rcases Int.lt_or_le (Lib.indexByte l c) 0 with hn | hn
    · have he : Lib.indexByte l c = -1 := by omega
      obtain ⟨k, hk, e⟩ := List.getElem_of_mem h
      exact absurd (by rw [List.getElem?_eq_getElem hk, e]) (Lib.indexByte_none he k)
    · exact hn

set_option maxRecDepth 100000 in
theorem signs_memF : ∀ X : Fin 256, (((X.val : Nat) : Int).toNat.toUInt8 ∈ ([59, 47, 63, 58, 64, 38, 61, 43, 36, 44, 45, 95, 46, 33, 126, 42, 39, 40, 41, 35] : List UInt8)) ↔ [59, 47, 63, 58, 64, 38, 61, 43, 36, 44, 45, 95, 46, 33, 126, 42, 39, 40, 41, 35].contains X.val = true := by decide +kernel
theorem signs_mem (c : Nat) (h : c < 256) : ((c : Int).toNat.toUInt8 ∈ ([59, 47, 63, 58, 64, 38, 61, 43, 36, 44, 45, 95, 46, 33, 126, 42, 39, 40, 41, 35] : List UInt8)) ↔ [59, 47, 63, 58, 64, 38, 61, 43, 36, 44, 45, 95, 46, 33, 126, 42, 39, 40, 41, 35].contains c = true := signs_memF ⟨c, h⟩

theorem isPlain_any (c : Nat) (hc : c < 256) (w : World) :
    Calls Tryd.prog 11 #[.int .u8 (c : Int)] w fun e w' => e = .returned (.bool (plainN c)) ∧ w' = w := by
  have hd := isDigit_any (c : Int) w
  have h1 := ewithin_any (c : Int) 97 122 w
  have h2 := ewithin_any (c : Int) 65 90 w
  have hp : plainN c = (decide (48 ≤ c ∧ c ≤ 57) || decide (97 ≤ c ∧ c ≤ 122) || decide (65 ≤ c ∧ c ≤ 90) || [59, 47, 63, 58, 64, 38, 61, 43, 36, 44, 45, 95, 46, 33, 126, 42, 39, 40, 41, 35].contains c) := rfl
  by_cases k0 : 48 ≤ c ∧ c ≤ 57
  · rw [show plainN c = true by rw [hp]; simp [k0]]
    rw [decide_eq_true (by omega)] at hd
    have HD := hidden hd
    clear hd h1 h2 k0 hp
    go_enter Tryd.func11, Tryd.ntmps11
    go_wp2_with fail
    refine Calls.mono HD.out ?_
    rintro e w' ⟨rfl, rfl⟩
    go_wp2
    go_ret
    exact ⟨rfl, rfl⟩
  rw [decide_eq_false (by omega)] at hd
  have HD := hidden hd
  by_cases k1 : 97 ≤ c ∧ c ≤ 122
  · rw [show plainN c = true by rw [hp]; simp [k1]]
    rw [decide_eq_true (by omega)] at h1
    have H1 := hidden h1
    clear hd h1 h2 k0 k1 hp
    go_enter Tryd.func11, Tryd.ntmps11
    go_wp2_with fail
    refine Calls.mono HD.out ?_
    rintro e w' ⟨rfl, rfl⟩
    go_wp2_with fail
    refine Calls.mono H1.out ?_
    rintro e w' ⟨rfl, rfl⟩
    go_wp2
    go_ret
    exact ⟨rfl, rfl⟩
  rw [decide_eq_false (by omega)] at h1
  have H1 := hidden h1
  by_cases k2 : 65 ≤ c ∧ c ≤ 90
  · rw [show plainN c = true by rw [hp]; simp [k2]]
    rw [decide_eq_true (by omega)] at h2
    have H2 := hidden h2
    clear hd h1 h2 k0 k1 k2 hp
    go_enter Tryd.func11, Tryd.ntmps11
    go_wp2_with fail
    refine Calls.mono HD.out ?_
    rintro e w' ⟨rfl, rfl⟩
    go_wp2_with fail
    refine Calls.mono H1.out ?_
    rintro e w' ⟨rfl, rfl⟩
    go_wp2_with fail
    refine Calls.mono H2.out ?_
    rintro e w' ⟨rfl, rfl⟩
    go_wp2
    go_ret
    exact ⟨rfl, rfl⟩
  rw [decide_eq_false (by omega)] at h2
  have H2 := hidden h2
  have hi := strings_indexc ⟨#[59, 47, 63, 58, 64, 38, 61, 43, 36, 44, 45, 95, 46, 33, 126, 42, 39, 40, 41, 35]⟩ (c : Int) w
  have hm := index_mem [59, 47, 63, 58, 64, 38, 61, 43, 36, 44, 45, 95, 46, 33, 126, 42, 39, 40, 41, 35] ((c : Int).toNat.toUInt8)
  rw [show (⟨#[59, 47, 63, 58, 64, 38, 61, 43, 36, 44, 45, 95, 46, 33, 126, 42, 39, 40, 41, 35]⟩ : ByteArray).data.toList = [59, 47, 63, 58, 64, 38, 61, 43, 36, 44, 45, 95, 46, 33, 126, 42, 39, 40, 41, 35] from rfl] at hi
  generalize Lib.indexByte [59, 47, 63, 58, 64, 38, 61, 43, 36, 44, 45, 95, 46, 33, 126, 42, 39, 40, 41, 35] ((c : Int).toNat.toUInt8) = q at *
  have HI := hidden hi
  have hmem : ((c : Int).toNat.toUInt8 ∈ ([59, 47, 63, 58, 64, 38, 61, 43, 36, 44, 45, 95, 46, 33, 126, 42, 39, 40, 41, 35] : List UInt8)) ↔ [59, 47, 63, 58, 64, 38, 61, 43, 36, 44, 45, 95, 46, 33, 126, 42, 39, 40, 41, 35].contains c = true := signs_mem c hc
  have hpl : plainN c = decide (0 ≤ q) := by
    rw [hp, decide_eq_false k0, decide_eq_false k1, decide_eq_false k2, Bool.false_or, Bool.false_or, Bool.false_or, Bool.eq_iff_iff, decide_eq_true_eq, hm]
    exact hmem.symm
  rw [hpl]
  clear hd h1 h2 k0 k1 k2 hp hi hm hmem hpl hc
  by_cases hq : 0 ≤ q
  · rw [decide_eq_true hq]
    go_enter Tryd.func11, Tryd.ntmps11
    go_wp2_with fail
    refine Calls.mono HD.out ?_
    rintro e w' ⟨rfl, rfl⟩
    go_wp2_with fail
    refine Calls.mono H1.out ?_
    rintro e w' ⟨rfl, rfl⟩
    go_wp2_with fail
    refine Calls.mono H2.out ?_
    rintro e w' ⟨rfl, rfl⟩
    go_wp2_with fail
    refine Calls.mono HI.out ?_
    rintro e w' ⟨rfl, rfl⟩
    go_wp2
    go_ret
    exact ⟨rfl, rfl⟩
  · rw [decide_eq_false hq]
    go_enter Tryd.func11, Tryd.ntmps11
    go_wp2_with fail
    refine Calls.mono HD.out ?_
    rintro e w' ⟨rfl, rfl⟩
    go_wp2_with fail
    refine Calls.mono H1.out ?_
    rintro e w' ⟨rfl, rfl⟩
    go_wp2_with fail
    refine Calls.mono H2.out ?_
    rintro e w' ⟨rfl, rfl⟩
    go_wp2_with fail
    refine Calls.mono HI.out ?_
    rintro e w' ⟨rfl, rfl⟩
    go_wp2
    go_ret
    exact ⟨by first | rfl | (show Ending.returned (Value.bool (decide (0 ≤ q))) = _; rw [decide_eq_false (by omega)]), rfl⟩

theorem isSpelt_any (s : ByteArray) (l : List UInt8) (h : s.data.toList = l) (hl : l.length ≤ 100000) (w : World) :
    Calls Tryd.prog 12 #[.string s] w fun e w' => e = .returned (.bool (hx2 (l.drop 1))) ∧ w' = w := by
  have hsz : s.size = l.length := by rw [← h]; rfl
  have hsb : s.size ≤ 100000 := by omega
  by_cases h2 : 2 < s.size
  · have z2 : (2 : Int) < (s.size : Int) := by omega
    have z1 : (1 : Int) < (s.size : Int) := by omega
    have p1 : 1 < s.size := by omega
    have c1 : (s[1]'p1).toNat = bN l 1 := by rw [getD_at s l h 1 p1]; rfl
    have c2 : (s[2]'h2).toNat = bN l 2 := by rw [getD_at s l h 2 h2]; rfl
    have hv : hx2 (l.drop 1) = (decide (dv (bN l 1) < 16) && decide (dv (bN l 2) < 16)) := by
      match l, hsz ▸ h2 with
      | _ :: _ :: _ :: _, _ => rfl
    rw [hv]
    have H1 := isHex_any (bN l 1) w
    have H2 := isHex_any (bN l 2) w
    generalize bN l 1 = x1 at *
    generalize bN l 2 = x2 at *
    clear h hl hsz hv
    by_cases k1 : dv x1 < 16
    · rw [decide_eq_true k1] at H1 ⊢
      rw [Bool.true_and]
      generalize decide (dv x2 < 16) = b at *
      have H1' := hidden H1
      have H2' := hidden H2
      clear H1 H2 k1
      go_enter Tryd.func12, Tryd.ntmps12
      go_wp2_with fail
      refine Calls.mono H1'.out ?_
      rintro e w' ⟨rfl, rfl⟩
      go_wp2_with fail
      refine Calls.mono H2'.out ?_
      rintro e w' ⟨rfl, rfl⟩
      go_wp2
      go_ret
      exact ⟨rfl, rfl⟩
    · rw [decide_eq_false k1] at H1 ⊢
      rw [Bool.false_and]
      have H1' := hidden H1
      clear H1 H2 k1
      go_enter Tryd.func12, Tryd.ntmps12
      go_wp2_with fail
      refine Calls.mono H1'.out ?_
      rintro e w' ⟨rfl, rfl⟩
      go_wp2
      go_ret
      exact ⟨rfl, rfl⟩
  · have z2 : ¬ ((2 : Int) < (s.size : Int)) := by omega
    have hv : hx2 (l.drop 1) = false := by
      match l, (show ¬ 2 < l.length by omega) with
      | [], _ => rfl
      | [_], _ => rfl
      | [_, _], _ => rfl
      | _ :: _ :: _ :: _, hh => exact absurd (by simp) hh
    rw [hv]
    clear h hl hsz hv h2
    go_enter Tryd.func12, Tryd.ntmps12
    go_wp2
    go_ret
    exact ⟨rfl, rfl⟩

end Go.Proofs.YtmegfcgnemfjnabDoor
