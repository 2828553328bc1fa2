/-
  Whether a script is more than is looked at.
-/
import Derived.Test.YtelengfdbhambaaReadsM
namespace Go.Proofs.Ytelengfdbhambaa
open Go.RowKit

/-- No step that is played has a row of more than 2000 bytes. -/
def Light (w : World) (ao : Option Addr) (len : Nat) : Prop :=
  ∀ b off, ao = some ⟨b, off, none⟩ → ∀ i, i < len → i < 200 → ∀ aB lB cB aC lC cC, w.cell? ⟨b, off + i * 5 + 3, none⟩ = some (.slice aB lB cB) → w.cell? ⟨b, off + i * 5 + 4, none⟩ = some (.slice aC lC cC) → lB ≤ 2000 ∧ lC ≤ 2000

/-- What the call leaves. -/
def Weighed (w : World) (ao : Option Addr) (len : Nat) (e : Ending) (w' : World) : Prop := ∃ hb : Bool, e = .returned (.bool hb) ∧ (hb = false → Light w ao len) ∧ ∃ n, w' = w.drewN n

set_option maxRecDepth 100000 in
set_option maxHeartbeats 1000000 in
theorem heavy_any (al : Option Addr) (ll cl : Nat) (w : World) (hA : Acts w al ll) (hll : ll ≤ 9223372036854775807)
    (hmax : ∀ b off, al = some ⟨b, off, none⟩ → ∀ i, i < ll → ∀ j a l c, w.cell? ⟨b, off + i * 5 + j, none⟩ = some (.slice a l c) → (j = 3 ∨ j = 4) → l ≤ 9223372036854775807) :
    Calls Try.prog 9 #[.slice al ll cl] w fun e w' => Weighed w al ll e w' := by
  have HA := hidden hA
  have HM := hidden hmax
  clear hA hmax
  go_enter Try.func9, Try.ntmps9
  go_wp2
  go_loopw [3, 4] (fun n i wr => ∃ k s : Nat, k ≤ ll ∧ k ≤ 200 ∧ s ≤ 2000 ∧ n = .int .i64 s ∧ i = .int .i64 k ∧ Hid (Light w al k) ∧ ∃ q, wr = w.drewN q) (fun _ i _ => 200 - (intOf i).toNat)
  case atStart => exact ⟨0, 0, Nat.zero_le _, Nat.zero_le _, Nat.zero_le _, rfl, rfl, fun b off _ i hi => absurd hi (by omega), 0, rfl⟩
  case round =>
    obtain ⟨k, s, hk, hk2, hs, rfl, rfl, HL, q, rfl⟩ := hrel
    by_cases hlt : k < ll ∧ k < 200
    · obtain ⟨g1, g2⟩ := hlt
      obtain ⟨bl, ol, rfl, hcl⟩ := HA.out (by omega)
      obtain ⟨kd, x, n, aB, aC, lB, cB, lC, cC, _, _, _, c4, c5⟩ := hcl k g1
      have mB := HM.out bl ol rfl k g1 3 _ _ _ c4 (.inl rfl)
      have mC := HM.out bl ol rfl k g1 4 _ _ _ c5 (.inr rfl)
      have k1 : (k : Int) < (ll : Int) := by omega
      have k2 : (k : Int) < 200 := by omega
      clear hcl
      by_cases hB : lB ≤ 2000
      · by_cases hC : lC ≤ 2000
        · have hnext : Hid (Light w (some ⟨bl, ol, none⟩) (k + 1)) := by
            intro b off e i hi hi2 aB' lB' cB' aC' lC' cC' h3 h4
            injection e with e
            injection e with e1 e2
            subst e1 e2
            by_cases hik : i = k
            · subst hik
              rw [c4] at h3
              rw [c5] at h4
              injection h3 with h3
              injection h4 with h4
              injection h3 with _ h3
              injection h4 with _ h4
              omega
            · exact HL.out bl ol rfl i (by omega) hi2 _ _ _ _ _ _ h3 h4
          by_cases hS : s + 4 + lB + lC ≤ 2000
          · go_wp2
            go_quiet (fail)
            go_wp2
            go_roundw
            case rel => exact ⟨k + 1, s + 4 + lB + lC, by omega, by omega, hS, by go_num, by go_num, hnext, _, rfl⟩
            case measure => simp [intOf]; omega
          · go_wp2
            go_quiet (fail)
            go_wp2
            go_ret
            exact ⟨true, rfl, (fun h => by cases h), _, rfl⟩
        · go_wp2
          go_ret
          exact ⟨true, rfl, (fun h => by cases h), _, rfl⟩
      · go_wp2
        go_ret
        exact ⟨true, rfl, (fun h => by cases h), _, rfl⟩
    · have hor : ¬ ((k : Int) < (ll : Int)) ∨ ((k : Int) < (ll : Int) ∧ ¬ ((k : Int) < 200)) := by omega
      have HF : Hid (Light w al ll) := by
        intro b off e i hi hi2 aB' lB' cB' aC' lC' cC' h3 h4
        exact HL.out b off e i (by omega) hi2 _ _ _ _ _ _ h3 h4
      clear hlt
      rcases hor with hq | ⟨hq, hq2⟩
      all_goals
        go_wp2
        go_ret
        exact ⟨false, rfl, (fun _ => HF.out), _, rfl⟩

end Go.Proofs.Ytelengfdbhambaa
