/-
  Lines of a text: the code's.
-/
import Derived.Test.YthomkgajilmphaaUCount
import Derived.Test.YthomkgajilmphaaULinesP
import Derived.Test.YthomkgajilmphaaUShelfC
namespace Go.Proofs.Ythomkgajilmphaa
open Go.RowKit Go.Lib

/-- A row of texts of the call's own. -/
structure Own (w0 w : World) (v : Value) (L : List (List UInt8)) : Prop where
  own : w.ownsRow 0 9 1 v L.length (strs L)
  new : ∀ k, v.ownBlock = some k → w0.heap.size ≤ k
theorem Own.nil (w0 w : World) : Own w0 w (.slice none 0 0) [] := ⟨World.ownsRow_nil _ _ _ _, fun k h => by simp [Value.ownBlock] at h⟩
theorem Own.keep {w0 w w' : World} {v : Value} {L : List (List UInt8)} (h : Own w0 w v L) (hs : Step (fun _ => False) w w') : Own w0 w' v L :=
  ⟨owns_step h.own hs (fun _ _ h => h), h.new⟩
theorem Own.old {w0 w1 w : World} {v : Value} {L : List (List UInt8)} (h : Own w1 w v L) (hs : w0.heap.size ≤ w1.heap.size) : Own w0 w v L :=
  ⟨h.own, fun k hk => Nat.le_trans hs (h.new k hk)⟩

theorem clone_any (s : ByteArray) (w : World) (hs : s.size ≤ 140737488355328) :
    Calls Try.prog 14 #[.string s] w fun e w' => e = .returned (.string s) ∧ Step (fun _ => False) w w' := by
  go_enter Try.func14, Try.ntmps14
  go_wp2_with (go_at_call 19; refine (litclone_any s _ hs).mono ?_; rintro e w' ⟨rfl, hb⟩)
  go_ret
  exact ⟨rfl, Step.of_below hb⟩

theorem u8_eq (x : UInt8) (k : Nat) (hk : k < 256) (h : x.toNat = k) : x = k.toUInt8 := by
  subst h
  simp

set_option maxHeartbeats 1000000 in
theorem second_any (s : ByteArray) (l : List UInt8) (hs : s.data.toList = l) (pos : Nat) (hp : pos < l.length) (hl : l.length ≤ 140737488355328) (w : World) :
    Calls Try.prog 13 #[.string s, .int .i64 (pos : Int)] w fun e w' => e = .returned (.bool (decide (crAt l pos = true ∧ l.getD pos 0 = 10))) ∧ w' = w := by
  have hsz : s.size = l.length := by rw [← hs]; rfl
  have hp2 : pos < s.size := by omega
  have c0 : s[pos]'hp2 = l.getD pos 0 := getD_at s l hs pos hp2
  have hb : crAt l pos = decide (0 < pos ∧ l.getD (pos - 1) 0 = 13) := rfl
  rw [hb]
  by_cases h0 : 0 < pos
  · have hq : pos - 1 < s.size := by omega
    have c1 : s[pos - 1]'hq = l.getD (pos - 1) 0 := getD_at s l hs (pos - 1) hq
    have e : (pos : Int) - 1 = ((pos - 1 : Nat) : Int) := by omega
    generalize l.getD (pos - 1) 0 = y at *
    generalize l.getD pos 0 = x at *
    generalize pos - 1 = q at *
    have hy := y.toNat_lt
    have hx := x.toNat_lt
    have H0 := hidden h0
    have p0 : (0 : Int) < (pos : Int) := by omega
    have pz : (pos : Int) < (s.size : Int) := by omega
    have qz : (q : Int) < (s.size : Int) := by omega
    have hsb : s.size ≤ 140737488355328 := by omega
    clear hs hsz hp hl hb
    by_cases h1 : y.toNat = 13
    · have g1 : ((y.toNat : Int) == 13) = true := by simp [h1]
      by_cases h2 : x.toNat = 10
      · have g2 : ((x.toNat : Int) == 10) = true := by simp [h2]
        have hf := hidden (show decide (decide (0 < pos ∧ y = 13) = true ∧ x = 10) = true by
          rw [u8_eq y 13 (by omega) h1, u8_eq x 10 (by omega) h2]
          simp [H0.out])
        clear h0 h1 h2
        go_enter Try.func13, Try.ntmps13
        go_wp2
        go_ret
        exact ⟨by rw [hf.out]; rfl, rfl⟩
      · have g2 : ((x.toNat : Int) == 10) = false := by simp; omega
        have hf := hidden (show decide (decide (0 < pos ∧ y = 13) = true ∧ x = 10) = false by
          rw [decide_eq_false_iff_not]
          rintro ⟨_, e⟩
          exact h2 (by rw [e]; rfl))
        clear h0 h1 h2
        go_enter Try.func13, Try.ntmps13
        go_wp2
        go_ret
        exact ⟨by rw [hf.out]; rfl, rfl⟩
    · have g1 : ((y.toNat : Int) == 13) = false := by simp; omega
      have hf := hidden (show decide (decide (0 < pos ∧ y = 13) = true ∧ x = 10) = false by
        rw [decide_eq_false_iff_not, decide_eq_true_eq]
        rintro ⟨⟨_, e⟩, _⟩
        exact h1 (by rw [e]; rfl))
      clear h0 h1
      go_enter Try.func13, Try.ntmps13
      go_wp2
      go_ret
      exact ⟨by rw [hf.out]; rfl, rfl⟩
  · rw [show decide (decide (0 < pos ∧ l.getD (pos - 1) 0 = 13) = true ∧ l.getD pos 0 = 10) = false by simp [h0]]
    have p0 : ¬ (0 : Int) < (pos : Int) := by omega
    clear hb c0
    go_enter Try.func13, Try.ntmps13
    go_wp2
    go_ret
    exact ⟨rfl, rfl⟩

end Go.Proofs.Ythomkgajilmphaa
