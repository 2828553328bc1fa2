/-
  Rows of bytes that came in, opened.
-/
import Derived.Test.YtplmmjlhlijjmaaDoorCrcS
import Derived.Test.YtplmmjlhlijjmaaDoorRowOf
import Derived.WalkKit
import Derived.ProofKit
import Derived.Deep.Slices
import Derived.ChangeArms
namespace Go.Proofs.YtplmmjlhlijjmaaDoor
open Go.RowKit Go.ChangeShapes Go.WideShapes Go.Deep

theorem list_of {P : Nat → List Nat → Prop} : ∀ n, (∀ i, i < n → ∃ B, P i B) → ∃ L : List (List Nat), L.length = n ∧ ∀ i, i < n → P i (L.getD i [])
  | 0, _ => ⟨[], rfl, fun i hi => by omega⟩
  | n + 1, h => by
    obtain ⟨L, hl, hL⟩ := list_of n (fun i hi => h i (by omega))
    obtain ⟨B, hB⟩ := h n (by omega)
    refine ⟨L ++ [B], by simp [hl], fun i hi => ?_⟩
    by_cases e : i < n
    · have : (L ++ [B]).getD i [] = L.getD i [] := by
        simp only [List.getD]
        rw [List.getElem?_append_left (by omega)]
      rw [this]; exact hL i e
    · have e2 : i = n := by omega
      subst e2
      have : (L ++ [B]).getD i [] = B := by
        simp only [List.getD]
        rw [List.getElem?_append_right (by omega), hl]
        simp
      rw [this]; exact hB

theorem weights_mem_all {H : Type} {P : Program} {e : TypeId} {d : DataW H} : ∀ {l : List (DataW H)}, d ∈ l → ∀ n ∈ d.weights P e, n ∈ DataW.weightsAll P e l
  | [], h, _, _ => by simp at h
  | x :: l, h, n, hn => by
    simp only [DataW.weightsAll, List.mem_append]
    rcases List.mem_cons.1 h with rfl | h
    · exact .inl hn
    · exact .inr (weights_mem_all h n hn)

theorem rows_of {H : Type} {enc : TypeId × Value → H} {W : World} {fuel : Nat} {ao : Option Addr} {len cap : Nat} {d : DataW H} {p : List MemPlace}
    (h : DataW.trod enc Tryd.prog W 0 (fun _ => true) true fuel 36 [.slice ao len cap] = some (d, p)) (hs : ∀ n ∈ d.weights Tryd.prog 36, n ≤ reachBytes) :
    ∃ L : List (List Nat), L.length = len ∧ Rds W (.slice ao L.length cap) L ∧ (∀ B ∈ L, ∀ y ∈ B, y < 256) ∧ L.length ≤ 9223372036854775807 ∧ (∀ B ∈ L, B.length ≤ 140737488351232) := by
  have cS : Tryd.prog.cellsOf 22 = 1 := by kernel_rfl
  rcases open_slice Tryd.underlying36 h with ⟨hcs, _⟩ | ⟨a, l, c, m, n, D, Pl, hcs, _, hl, hm, hmm, hx, hel⟩
  · simp at hcs
    obtain ⟨rfl, rfl, rfl⟩ := hcs
    exact ⟨[], rfl, ⟨none, 0, rfl, fun _ => rfl, fun a h => by cases h⟩, by simp, by simp, by simp⟩
  · simp at hcs
    obtain ⟨rfl, rfl, rfl⟩ := hcs
    simp only [if_true] at hmm
    subst hmm
    simp only [Prod.mk.injEq] at hx
    have each : ∀ i, i < len → ∃ B : List Nat, (∃ u, W.cell? (a.add i) = some u ∧ Rd W u B) ∧ (∀ y ∈ B, y < 256) ∧ B.length ≤ 140737488351232 := by
      intro i hi
      obtain ⟨cs', h1, h2⟩ := hel i (by omega)
      rw [cS, Nat.mul_one] at h1
      obtain ⟨_, hlen', hcell⟩ := World.cells?_some h1
      match cs', hlen' with
      | [v0], _ =>
        have e0 := hcell 0 (by omega)
        rw [add_add] at e0
        obtain ⟨_, _, B, _, rB, bB, _, lB⟩ := row_of h2 (fun z hz => hs z (by
          rw [hx.1]
          simp only [DataW.weights, Tryd.underlying36]
          refine List.mem_cons_of_mem _ (List.mem_append_left _ (weights_mem_all ?_ _ hz))
          exact List.mem_map.2 ⟨i, List.mem_range.2 hi, rfl⟩))
        exact ⟨B, ⟨v0, by simpa using e0, rB⟩, bB, lB⟩
    obtain ⟨L, hL, hP⟩ := list_of len each
    have mem : ∀ B ∈ L, (∀ y ∈ B, y < 256) ∧ B.length ≤ 140737488351232 := by
      intro B hB
      obtain ⟨i, hi, rfl⟩ := List.mem_iff_getElem.1 hB
      have := hP i (by omega)
      have e : L.getD i [] = L[i] := by simp [List.getD, hi]
      rw [e] at this
      exact this.2
    refine ⟨L, hL, ⟨some a, _, rfl, fun h => (by cases h), fun x hx hne => ?_⟩, fun B hB => (mem B hB).1, by unfold maxLen at hm; omega, fun B hB => (mem B hB).2⟩
    have h0 : 0 < len := by
      rcases Nat.eq_zero_or_pos len with h | h
      · exact absurd (List.eq_nil_of_length_eq_zero (by omega)) hne
      · exact h
    obtain rfl := Option.some.inj hx
    obtain ⟨b, off, spot⟩ := a
    have hspot : spot = none := by
      obtain ⟨⟨u, c0, _⟩, _⟩ := hP 0 h0
      simpa [Addr.add] using World.cell?_spot c0
    subst hspot
    refine ⟨b, off, rfl, fun i hi => ?_⟩
    obtain ⟨⟨u, c0, r0⟩, _⟩ := hP i (by omega)
    rw [Addr.add_lit] at c0
    exact ⟨u, c0, r0⟩

end Go.Proofs.YtplmmjlhlijjmaaDoor
