/-
  The stable sort: what it leaves; rows of fewer than twenty.
-/
import Derived.Test.YtkglackbbcfhbaaHIns
namespace Go.Proofs.Ytkglackbbcfhbaa
open Go.RowKit
set_option maxRecDepth 100000

/-- The comparison as the program hands it on. -/
abbrev cmpV (B : Nat) : Value := .func (.func 30) #[] #[.pointer (some ⟨B, 0, none⟩)]

/-- Rows of n symbols are sorted. -/
def SortOk (n : Nat) : Prop := ∀ (O : List Int) (v : Value) (B g : Nat) (D : List Int) (cap : Nat) (w : World), Env w B g v O → Row w g D → InO O D → D.length = n → O.length ≤ 100000 →
  Calls Try.prog 29 #[.slice (some ⟨g, 0, none⟩) D.length cap, cmpV B] w fun e w' => (∃ u, e = .returned u) ∧ ∃ D', Srt O D 0 n D' ∧ Row w' g D' ∧ Step (fun k => k = g) w w'

theorem stable_small (O : List Int) (v : Value) (B g : Nat) (D : List Int) (cap : Nat) (w : World) (hE : Env w B g v O) (hD : Row w g D) (hin : InO O D) (hl : D.length < 20) (hO : O.length ≤ 100000) :
    Calls Try.prog 35 #[.slice (some ⟨g, 0, none⟩) D.length cap, .int .i64 (D.length : Int), cmpV B] w fun e w' => (∃ u, e = .returned u) ∧ ∃ D', Srt O D 0 D.length D' ∧ Row w' g D' ∧ Step (fun k => k = g) w w' := by
  have HI := hidden (ins_any O v B g D 0 D.length cap w hE hD hin (Nat.zero_le _) (Nat.le_refl _) (by omega) hO)
  generalize D.length = n at *
  clear hE hD hin
  have h1 : ¬ (20 : Int) ≤ (n : Int) := by omega
  have h2 : ¬ (20 : Int) < (n : Int) := by omega
  go_enter Try.func35, Try.ntmps35
  go_wp2
  go_loopw [7, 8] (fun a b wr => a = .int .i64 0 ∧ b = .int .i64 20 ∧ wr = w) (fun _ _ _ => 0)
  case atStart => exact ⟨rfl, rfl, rfl⟩
  case round =>
    obtain ⟨rfl, rfl, rfl⟩ := hrel
    go_wp2_with (go_at_call 37; refine HI.out.mono ?_)
    rintro e w2 ⟨⟨u, rfl⟩, hrest⟩
    have HR := hidden hrest
    clear hrest
    go_wp2
    go_loopw [6, 7, 8, 9] (fun s _ _ _ wr => s = .int .i64 20 ∧ wr = w2) (fun _ _ _ _ _ => 0)
    case atStart => exact ⟨rfl, rfl⟩
    case round =>
      obtain ⟨rfl, rfl⟩ := hrel
      go_wp2
      go_end0
      exact ⟨⟨_, rfl⟩, HR.out⟩

theorem sort_of_stable (n : Nat) (hs : ∀ (O : List Int) (v : Value) (B g : Nat) (D : List Int) (cap : Nat) (w : World), Env w B g v O → Row w g D → InO O D → D.length = n → O.length ≤ 100000 →
    Calls Try.prog 35 #[.slice (some ⟨g, 0, none⟩) D.length cap, .int .i64 (D.length : Int), cmpV B] w fun e w' => (∃ u, e = .returned u) ∧ ∃ D', Srt O D 0 D.length D' ∧ Row w' g D' ∧ Step (fun k => k = g) w w') (hn : n ≤ 100000) : SortOk n := by
  intro O v B g D cap w hE hD hin hl hO
  have HS := hidden (hs O v B g D cap w hE hD hin hl hO)
  clear hE hD hin hs
  rw [hl] at HS ⊢
  have hn' : n ≤ 9223372036854775807 := by omega
  go_enter Try.func29, Try.ntmps29
  go_wp2_with (go_at_call 35; refine HS.out.mono ?_)
  rintro e w2 ⟨⟨u, rfl⟩, hrest⟩
  have HR := hidden hrest
  clear hrest
  go_wp2
  go_end0
  exact ⟨⟨_, rfl⟩, HR.out⟩

theorem sort_small (n : Nat) (h : n < 20) : SortOk n :=
  sort_of_stable n (fun O v B g D cap w hE hD hin hl hO => stable_small O v B g D cap w hE hD hin (by omega) hO) (by omega)

end Go.Proofs.Ytkglackbbcfhbaa
