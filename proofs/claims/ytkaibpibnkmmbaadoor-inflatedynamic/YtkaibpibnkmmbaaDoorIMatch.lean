/-
  A byte, and bytes again, behind what came out.
-/
import Derived.Test.YtkaibpibnkmmbaaDoorILen
import Derived.Test.YtkaibpibnkmmbaaDoorIStored
namespace Go.Proofs.YtkaibpibnkmmbaaDoor
open Go.RowKit
set_option maxRecDepth 100000
set_option linter.unusedVariables false

theorem Rd.lit' (w : World) (x : Nat) : Rd (w.alloc (.cells #[.int .u8 (x : Int)] 5)) (.slice (some ⟨w.heap.size, 0, none⟩) 1 1) [x] := Rd.lit w x

set_option maxHeartbeats 4000000 in
theorem literal_any (p b : Nat) (s v : Value) (M m t : Nat) (O : List Nat) (most : Int) (c : Nat) (w : World) (h : Str w p b s v M m t O most) (hc : c < 256) (hO : O.length ≤ 10000000000) (h0 : 0 ≤ most) (h1 : most ≤ 9223372036854775807) :
    Calls Tryd.prog 30 #[.pointer (some ⟨p, 0, none⟩), .int .u8 c] w (Ends w p b s v M m most (if 1 ≤ most - (O.length : Int) then .ok (t, O ++ [c]) else .error 5)) := by
  have H := hidden h
  by_cases g : 1 ≤ most - (O.length : Int)
  · have hR : Hid (Calls Tryd.prog 27 #[.pointer (some ⟨p, 0, none⟩), .int .i64 (1 : Nat)] w fun e w' => e = .returned (.int .i64 0) ∧ Hid (∃ v', Str w' p b s v' M m t O most ∧ O.length + 1 ≤ capOf v' ∧ Step (Sb p b v) w w' ∧ (v'.ownBlock = v.ownBlock ∨ ∃ k, v'.ownBlock = some k ∧ w.heap.size ≤ k) ∧ Keep p w w')) :=
      hidden ((room_ok p v O most 1 w h.ou (by omega) hO h0 h1 g).mono fun e w' ⟨he, R⟩ => ⟨he, h.roomed R⟩)
    rw [if_pos g]
    have HO : Hid (O.length + 1 ≤ 137438953600) := hidden (by omega)
    clear h hO g
    go_enter Tryd.func30, Tryd.ntmps30
    go_wp2_with fail
    refine hR.out.mono ?_
    rintro e w1 ⟨rfl, S1⟩
    obtain ⟨v', s1, s2, s3, s4, s5⟩ := S1.out
    have HS1 := hidden s1
    have HS2 := hidden (And.intro s2 (And.intro s3 (And.intro s4 s5)))
    have c1 := s1.ou.co
    clear s1 s2 s3 s4 s5 S1
    have hS := hidden (HS1.out.made ((Step.refl (fun _ => False) w1).alloc (.cells #[.int .u8 (c : Int)] 5)))
    go_wp2_with (at_builtin; refine append_cap rfl _ _ rfl v' O.length O rfl hS.out.ou.ow _ [c] rfl (Rd.lit' w1 c) HO.out HS2.out.1 ?_)
    intro v2 w6 k1 k2 k3 k4
    obtain ⟨ao2, cap2, hv2⟩ := own_slice k1
    subst hv2
    have HK := hidden (hS.out.appended (B := [c]) (by simpa using k1) k2 k3 k4 (by intro y hy; simp at hy; subst hy; exact hc))
    have HK3 := hidden k3
    clear k1 k2 k4 k3
    have c6 := HK.out.1
    have f6 := HK.out.2.1
    go_wp2
    go_ret
    have hal : Step (Sb p b v') w1 (w1.alloc (.cells #[.int .u8 (c : Int)] 5)) := (Step.refl _ w1).alloc _
    refine ⟨rfl, After.trans HS2.out.2.1 HS2.out.2.2.1 HS2.out.2.2.2 ⟨_, HK.out.2.2.1, Sb.trans hal (.inl rfl) HK.out.2.2.2.1, .inl HK3.out, ?_⟩⟩
    exact (Keep.step ((Step.refl (fun _ => False) w1).alloc _) (World.block_lt_of_cell? w1 _ c1) (fun h => h)).trans HK.out.2.2.2.2
  · have hR : Hid (Calls Tryd.prog 27 #[.pointer (some ⟨p, 0, none⟩), .int .i64 (1 : Nat)] w fun e w' => e = .returned (.int .i64 5) ∧ Hid (Step (Sb p b v) w w' ∧ Keep p w w')) :=
      hidden ((room_no p v O most 1 w h.ou (by omega) hO h0 h1 (by omega)).mono fun e w' ⟨he, q, hq⟩ => by
        subst hq
        exact ⟨he, (Step.refl _ w).drewN q, (Keep.refl p w).drewN q⟩)
    rw [if_neg g]
    clear h hO g
    go_enter Tryd.func30, Tryd.ntmps30
    go_wp2_with fail
    refine hR.out.mono ?_
    rintro e w1 ⟨rfl, S1⟩
    go_wp2
    go_ret
    exact ⟨rfl, S1.out⟩

/-- So many bytes of those so far back, one by one. -/
def copyP (O : List Nat) (d : Nat) : Nat → List Nat
  | 0 => O
  | k + 1 => copyP O d k ++ [(copyP O d k).getD ((copyP O d k).length - d) 0]

theorem copyP_length (O : List Nat) (d : Nat) : ∀ k, (copyP O d k).length = O.length + k
  | 0 => rfl
  | k + 1 => by simp [copyP, copyP_length O d k, Nat.add_assoc]

/-- What a match tells. -/
noncomputable def matchP (D : List Int) (M m : Nat) (most : Int) (x t : Nat) (O : List Nat) : Except Nat (Nat × List Nat) :=
  match lenP M m x t with
  | .error e => .error e
  | .ok (n, t1) =>
    match disP D M m t1 with
    | .error e => .error e
    | .ok (d, t2) => if O.length < d then .error 22 else if (n : Int) ≤ most - (O.length : Int) then .ok (t2, copyP O d n) else .error 5

end Go.Proofs.YtkaibpibnkmmbaaDoor
