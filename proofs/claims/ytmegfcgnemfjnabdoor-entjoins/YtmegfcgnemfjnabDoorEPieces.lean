/-
  Small steps: a rune as a text, a byte's place, a text cut off at its beginning.
-/
import Derived.Test.YtmegfcgnemfjnabDoorEN
import Derived.Test.YtmegfcgnemfjnabDoorEItoa
import Derived.Test.YtmegfcgnemfjnabDoorUTexts
import Derived.Test.YtmegfcgnemfjnabDoorUPageU
namespace Go.Proofs.YtmegfcgnemfjnabDoor
open Go.RowKit Go.Lib

theorem index_semi : ∀ l : List UInt8, Lib.indexByte l 59 = if (l.takeWhile fun c => c.toNat != 59).length < l.length then (((l.takeWhile fun c => c.toNat != 59).length : Nat) : Int) else -1
  | [] => rfl
  | b :: l => by
    have ih := index_semi l
    unfold Lib.indexByte
    by_cases h : b = 59
    · subst h
      simp
    · have hb : (b == 59) = false := by simpa using h
      have hn : (b.toNat != 59) = true := by
        rw [bne_iff_ne]
        intro e
        exact h (UInt8.toNat_inj.1 (by rw [e]; rfl))
      rw [hb, ih, List.takeWhile_cons, hn]
      simp only [Bool.false_eq_true, if_false, if_true, List.length_cons]
      generalize (List.takeWhile (fun c : UInt8 => c.toNat != 59) l).length = n at *
      by_cases hl : n < l.length
      · have h1 : ((n : Int) == -1) = false := by rw [beq_eq_false_iff_ne]; omega
        rw [if_pos hl, h1, if_pos (show n + 1 < l.length + 1 by omega)]
        simp
      · rw [if_neg hl, if_neg (show ¬ n + 1 < l.length + 1 by omega)]
        simp

theorem strings_index (s : ByteArray) (l : List UInt8) (h : s.data.toList = l) (w : World) :
    Calls Tryd.prog 23 #[.string s, .int .u8 59] w fun e w' => e = .returned (.int .i64 (if (l.takeWhile fun c => c.toNat != 59).length < l.length then (((l.takeWhile fun c => c.toNat != 59).length : Nat) : Int) else -1)) ∧ w' = w := by
  have hi := litindex_any s 59 w
  rw [h, show ((59 : Int).toNat.toUInt8) = 59 from rfl, index_semi] at hi
  generalize (if (l.takeWhile fun c => c.toNat != 59).length < l.length then (((l.takeWhile fun c => c.toNat != 59).length : Nat) : Int) else -1) = q at *
  have HI := hidden hi
  clear hi h
  go_enter Tryd.func23, Tryd.ntmps23
  go_wp2_with (go_at_call 29; refine HI.out.mono ?_; rintro e w' ⟨rfl, rfl⟩)
  go_ret
  exact ⟨rfl, rfl⟩

/-- The code's At looks for the last sign no farther than ten bytes on. -/
theorem semi_index (l : List UInt8) : (if ((l.take 10).takeWhile fun c => c.toNat != 59).length < (l.take 10).length then ((((l.take 10).takeWhile fun c => c.toNat != 59).length : Nat) : Int) else -1) = if semi l < min l.length 10 then ((semi l : Nat) : Int) else -1 := by
  unfold semi
  rw [List.length_take, Nat.min_comm]

end Go.Proofs.YtmegfcgnemfjnabDoor
