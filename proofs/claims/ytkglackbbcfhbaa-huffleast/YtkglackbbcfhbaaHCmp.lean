/-
  How often two symbols come, compared.
-/
import Derived.Test.YtkglackbbcfhbaaHArr
namespace Go.Proofs.Ytkglackbbcfhbaa
open Go.RowKit
set_option maxRecDepth 100000

theorem nan_any (x : Int) (w : World) : Calls Try.prog 36 #[.int .i64 x] w fun e w' => e = .returned (.bool false) ∧ w' = w := by
  have h : (x != x) = false := by simp
  go_enter Try.func36, Try.ntmps36
  go_wp2
  go_ret
  exact ⟨rfl, rfl⟩

def cmpI (x y : Int) : Int := if x < y then -1 else if y < x then 1 else 0

theorem compare_any (x y : Int) (w : World) : Calls Try.prog 31 #[.int .i64 x, .int .i64 y] w fun e w' => e = .returned (.int .i64 (cmpI x y)) ∧ w' = w := by
  by_cases h1 : x < y
  · have HE := hidden (show cmpI x y = -1 by simp [cmpI, h1])
    go_enter Try.func31, Try.ntmps31
    go_wp2_with (go_at_call 36; refine (nan_any _ _).mono ?_; rintro e w' ⟨rfl, rfl⟩)
    go_ret
    exact ⟨by rw [HE.out]; rfl, rfl⟩
  · by_cases h2 : y < x
    · have HE := hidden (show cmpI x y = 1 by simp [cmpI, h1, h2])
      go_enter Try.func31, Try.ntmps31
      go_wp2_with (go_at_call 36; refine (nan_any _ _).mono ?_; rintro e w' ⟨rfl, rfl⟩)
      go_ret
      exact ⟨by rw [HE.out]; rfl, rfl⟩
    · have HE := hidden (show cmpI x y = 0 by simp [cmpI, h1, h2])
      go_enter Try.func31, Try.ntmps31
      go_wp2_with (go_at_call 36; refine (nan_any _ _).mono ?_; rintro e w' ⟨rfl, rfl⟩)
      go_ret
      exact ⟨by rw [HE.out]; rfl, rfl⟩

/-- What the sort's comparison reads: a box B with the slice v, which reads as O; neither lies in block g. -/
structure Env (w : World) (B g : Nat) (v : Value) (O : List Int) : Prop where
  box : w.cell? ⟨B, 0, none⟩ = some v
  ri : Ri w v O
  bg : B ≠ g
  vg : ∀ a n c, v = .slice (some a) n c → O ≠ [] → a.block ≠ g

theorem Env.step {w w' : World} {B g : Nat} {v : Value} {O : List Int} (h : Env w B g v O) (hs : Step (fun k => k = g) w w') : Env w' B g v O :=
  ⟨hs.cell h.box h.bg, h.ri.step hs (fun a n c e ne => h.vg a n c e ne), h.bg, h.vg⟩
theorem Env.drewN {w : World} {B g : Nat} {v : Value} {O : List Int} (h : Env w B g v O) (n : Nat) : Env (w.drewN n) B g v O := ⟨h.box, h.ri, h.bg, h.vg⟩

set_option maxHeartbeats 1000000 in
theorem closure_any (a b B g : Nat) (v : Value) (O : List Int) (w : World) (h : Env w B g v O) (ha : a < O.length) (hb : b < O.length) (hl : O.length ≤ 100000) :
    Calls Try.prog 30 #[.int .i64 (a : Int), .int .i64 (b : Int), .pointer (some ⟨B, 0, none⟩)] w fun e w' => e = .returned (.int .i64 (cmpI (O.getD a 0) (O.getD b 0))) ∧ ∃ n, w' = w.drewN n := by
  obtain ⟨hbox, hr, _, _⟩ := h
  obtain ⟨ao, cap, rfl, hcap, r1, r2⟩ := hr
  cases ao with
  | none => have := (r1 rfl).1; subst this; simp at ha
  | some ad =>
    obtain ⟨ba, oa, rfl, ka⟩ := r2 ad rfl (by intro e; subst e; simp at ha)
    have c1 := ka a ha
    have c2 := ka b hb
    have ha' : (a : Int) < (O.length : Int) := by omega
    have hb' : (b : Int) < (O.length : Int) := by omega
    generalize O.getD a 0 = x at *
    generalize O.getD b 0 = y at *
    generalize O.length = n at *
    clear ka r1 r2
    go_enter Try.func30, Try.ntmps30
    go_wp2
    go_quiet ((go_at_call 31; exact Calls.quiet_of_same (compare_any _ _ _)))
    go_wp2
    go_ret
    exact ⟨rfl, _, rfl⟩

end Go.Proofs.Ytkglackbbcfhbaa
