/-
  The walk of the law on a text's lines.
-/
import Derived.Test.YthomkgajilmphaaUPageL
import Derived.Test.YthomkgajilmphaaURepair
namespace Go.Proofs.Ythomkgajilmphaa
open Go.RowKit Go.Lib

set_option maxHeartbeats 1000000 in
theorem linesLaw_any (l : List UInt8) (w : World) (hm : l.length ≤ 140737488351232) :
    Calls Try.prog 3 #[str l] w fun e w' => e = .returned (.bool true) ∧ Step (fun _ => False) w w' := by
  have hsz : (⟨l.toArray⟩ : ByteArray).size = l.length := ba_size l
  by_cases h : l.length ≤ 3000
  · have g : ¬ ((3000 : Int) < (l.length : Int)) := by omega
    have HL := hidden (fun wx => lines_any l wx (by omega))
    have HP := hidden (fun wx => plines_any l wx (by omega))
    have Hlen := hidden (lnG_length l false [])
    unfold str at HL HP ⊢
    generalize (⟨l.toArray⟩ : ByteArray) = s at *
    rw [← hsz] at g
    go_enter Try.func3, Try.ntmps3
    go_wp2_with fail
    refine Calls.mono (HL.out _) ?_
    rintro e w1 ⟨v1, rfl, O1, S1⟩
    have HO1 := hidden O1
    have HS1 := hidden S1
    clear O1 S1
    go_wp2_with fail
    refine Calls.mono (HP.out _) ?_
    rintro e w2 ⟨v2, rfl, O2, S2⟩
    have HT := hidden (texts_any v1 v2 (linesD l) (linesD l) w2 (Ss.of_own (HO1.out.keep S2).own) (Ss.of_own O2.own) (by have := Hlen.out; unfold linesD; omega))
    rw [decide_eq_true rfl] at HT
    have HS2 := hidden (HS1.out.made S2)
    clear O2 S2
    go_wp2_with fail
    refine Calls.mono HT.out ?_
    rintro e w3 ⟨rfl, q, rfl⟩
    have HK := hidden (known_any (w2.drewN q))
    go_wp2_with fail
    refine Calls.mono HK.out ?_
    rintro e w4 ⟨rfl, S4⟩
    have HS4 := hidden ((HS2.out.drewN q).made S4)
    clear S4
    go_wp2
    go_ret
    exact ⟨rfl, HS4.out⟩
  · have g : (3000 : Int) < (l.length : Int) := by omega
    unfold str
    generalize (⟨l.toArray⟩ : ByteArray) = s at *
    rw [← hsz] at g
    clear h hm
    go_enter Try.func3, Try.ntmps3
    go_wp2
    go_ret
    exact ⟨rfl, Step.refl _ _⟩

end Go.Proofs.Ythomkgajilmphaa
