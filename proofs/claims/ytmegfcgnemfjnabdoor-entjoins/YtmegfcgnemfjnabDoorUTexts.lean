/-
  Rows of texts in memory.
-/
import Derived.Test.YtmegfcgnemfjnabDoorRow
import Derived.Lib.OthersKept
namespace Go.Proofs.YtmegfcgnemfjnabDoor
open Go.RowKit

/-- A text as a value. -/
abbrev str (l : List UInt8) : Value := .string ⟨l.toArray⟩
def strs (L : List (List UInt8)) : List Value := L.map str
theorem str_ba (s : ByteArray) : str s.data.toList = .string s := by cases s; simp [str]
theorem strs_length (L : List (List UInt8)) : (strs L).length = L.length := by simp [strs]
theorem strs_append (A B : List (List UInt8)) : strs (A ++ B) = strs A ++ strs B := by simp [strs]
theorem strs_get? (L : List (List UInt8)) (i : Nat) : (strs L)[i]? = L[i]?.map str := by simp [strs]
theorem strs_one (L : List (List UInt8)) : ∀ u ∈ strs L, u.oneCell' = true := by
  intro u hu
  obtain ⟨_, _, rfl⟩ := List.mem_map.1 hu
  rfl
theorem ba_size (l : List UInt8) : (⟨l.toArray⟩ : ByteArray).size = l.length := by simp [ByteArray.size]

theorem Tryd.info9 : (Tryd.prog.info? 9).map (fun i => (i.zero, i.size, i.bytes)) = some (some (.string ⟨#[]⟩), 1, 16) := by kernel_rfl

/-- The slice v reads as the texts L. -/
def Ss (w : World) (v : Value) (L : List (List UInt8)) : Prop :=
  ∃ ao cap, v = .slice ao L.length cap ∧ (ao = none → L = [] ∧ cap = 0) ∧
    ∀ a, ao = some a → L ≠ [] → ∃ b off, a = ⟨b, off, none⟩ ∧ ∀ k, k < L.length → w.cell? ⟨b, off + k, none⟩ = some (str (L.getD k []))

theorem Ss.of_own {w : World} {v : Value} {n : Nat} {L : List (List UInt8)} (h : w.ownsRow 0 9 1 v n (strs L)) : Ss w v L := by
  have hl := h.1
  rw [strs_length, Nat.mul_one] at hl
  rcases h.2 with ⟨rfl, rfl⟩ | ⟨g, cap, cur, rfl, _, hg, _⟩
  · refine ⟨none, 0, by rw [hl], fun _ => ⟨List.eq_nil_of_length_eq_zero hl, rfl⟩, fun a h => by cases h⟩
  · refine ⟨some ⟨g, 0, none⟩, cap, by rw [hl], (fun h => by cases h), fun a ha _ => ⟨g, 0, (Option.some.inj ha).symm, fun k hk => ?_⟩⟩
    rw [Nat.zero_add, h.cellAt k (by omega), strs_get?]
    simp [List.getD, hk]

theorem Ss.step {w w' : World} {v : Value} {L : List (List UInt8)} (h : Ss w v L) (hs : Step (fun _ => False) w w') : Ss w' v L := by
  obtain ⟨ao, cap, rfl, h1, h2⟩ := h
  refine ⟨ao, cap, rfl, h1, fun a ha hb => ?_⟩
  obtain ⟨b, off, rfl, hc⟩ := h2 a ha hb
  exact ⟨b, off, rfl, fun k hk => hs.cell (hc k hk) (fun h => h)⟩

theorem Ss.news {w : World} {a : Addr} {n cap : Nat} {L : List (List UInt8)} (h : Ss w (.slice (some a) n cap) L) : ∀ j u, (strs L)[j]? = some u → w.cell? (a.add j) = some u := by
  obtain ⟨ao, c, e, h1, h2⟩ := h
  injection e with e1
  intro j u hu
  have hne : L ≠ [] := by intro e; subst e; simp [strs] at hu
  obtain ⟨b, off, rfl, hc⟩ := h2 a e1.symm hne
  have hj : j < L.length := by
    have := (List.getElem?_eq_some_iff.1 hu).1
    rwa [strs_length] at this
  rw [Addr.add_lit, hc j hj, ← hu, strs_get?]
  simp [List.getD, hj]

theorem Step.of_below {w w' : World} (h : Below w.heap.size w w') : Step (fun _ => False) w w' :=
  ⟨h.os, h.tape, h.output, h.size, fun k hk _ => h.block k hk⟩

theorem eq_of_getDs {A B : List (List UInt8)} (hl : A.length = B.length) (h : ∀ j, j < A.length → A.getD j [] = B.getD j []) : A = B := by
  apply List.ext_getElem hl
  intro j h1 h2
  have := h j h1
  simpa [List.getD, h1, h2] using this

end Go.Proofs.YtmegfcgnemfjnabDoor
