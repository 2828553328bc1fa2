/-
  Whether bytes are text: the code's Valid, and of a text's bytes.
-/
import Derived.Test.YthomkgajilmphaaDoorUValid
import Derived.Test.YthomkgajilmphaaDoorUBytes
namespace Go.Proofs.YthomkgajilmphaaDoor
open Go.RowKit Go.Lib

theorem tabs_step {w w' : World} (h : Lib.Utf8Tabs 0 1 w) (hs : Step (fun _ => False) w w') : Lib.Utf8Tabs 0 1 w' := Utf8Tabs_below h (hs.below _ (Nat.le_refl _) (fun _ h => h.elim))

theorem uvalid_any (ao : Option Addr) (n cap : Nat) (l : List UInt8) (w : World) (hn : l.length = n) (hr : Rb w (.slice ao n cap) l) (hcap : n ≤ cap) (hl : n ≤ 140737488355328) (hT : Lib.Utf8Tabs 0 1 w) :
    Calls Tryd.prog 10 #[.slice ao n cap] w fun e w' => e = .returned (.bool (Lib.validD l)) ∧ Step (fun _ => False) w w' := by
  subst hn
  have HV := hidden (valid8_any ao cap l w hr hcap hl hT)
  clear hr hT
  go_enter Tryd.func10, Tryd.ntmps10
  go_wp2_with fail
  refine Calls.mono HV.out ?_
  rintro e w' ⟨rfl, S⟩
  go_wp2
  go_ret
  exact ⟨rfl, S⟩

theorem valid_conv (l : List UInt8) (hl : l.length ≤ 100000) (w : World) (hT : Lib.Utf8Tabs 0 1 w) :
    Calls Tryd.prog 10 #[.slice (some ⟨w.heap.size, 0, none⟩) l.length (grownCap w l.length 0 5)] (Lib.bytesWorld w 5 ⟨l.toArray⟩) fun e w' => e = .returned (.bool (Lib.validD l)) ∧ Step (fun _ => False) w w' := by
  refine (uvalid_any _ _ _ l _ rfl (bytes_rb w l _) (grownCap_ge w _ _ _) (by omega) (tabs_step hT (bytes_step w _))).mono ?_
  rintro e w' ⟨rfl, S⟩
  exact ⟨rfl, (bytes_step w ⟨l.toArray⟩).made S⟩

end Go.Proofs.YthomkgajilmphaaDoor
