/-
  Lengths; the codes and lengths that all know.
-/
import Derived.Test.YtkglackbbcfhbaaHLenW
import Derived.Test.YtkglackbbcfhbaaHCodes
import Derived.Test.YtkglackbbcfhbaaHInts
namespace Go.Proofs.Ytkglackbbcfhbaa
open Go.RowKit
set_option maxRecDepth 100000

theorem len_any (v : Value) (O : List Int) (m : Int) (w : World) (h : Ri w v O) (hl : O.length ≤ 9223372036854775807) (hS : ∀ n, n = (posTo O O.length).length → SortOk n) :
    Calls Try.prog 7 #[v, .int .i64 m] w (LenP O m w) := by
  cases hm : mayB O m with
  | false => exact len_no v O m w h hl hS hm
  | true =>
    by_cases hf : (posTo O O.length).length < 2
    · exact len_few v O m w h hl hS hm hf
    · have := (mayB_iff O m).1 hm
      obtain ⟨M, rfl⟩ := Int.eq_ofNat_of_zero_le (show 0 ≤ m by omega)
      exact len_many v O M w h hl hS hm (by omega)

theorem Ri.lits (w : World) (L : List Int) (t : TypeId) : Ri (w.alloc (.cells (i64s L).toArray t)) (.slice (some ⟨w.heap.size, 0, none⟩) L.length L.length) L := by
  refine ⟨some ⟨w.heap.size, 0, none⟩, L.length, rfl, Nat.le_refl _, fun h => (by cases h), fun a ha _ => ⟨w.heap.size, 0, (Option.some.inj ha).symm, fun k hk => ?_⟩⟩
  have h1 : (i64s L)[k]? = some (.int .i64 (L.getD k 0)) := by rw [i64s_get?]; simp [List.getD, hk]
  rw [Nat.zero_add, World.cell?_alloc_at _ _ _ _ rfl, ← h1]
  simp

theorem ints_lit (L : List Int) (hL : L.length ≤ 1000) (W : World) (v : Value) (h : Ri W v L) (g : Nat) (hg : g = W.heap.size) : Calls Try.prog 10 #[v, .slice (some ⟨g, 0, none⟩) L.length L.length] (W.alloc (.cells (i64s L).toArray 3)) fun e w' => e = .returned (.bool true) ∧ ∃ n, w' = (W.alloc (.cells (i64s L).toArray 3)).drewN n := by
  subst hg
  exact (ints_any _ _ _ _ _ (h.made ((Step.refl _ W).alloc _)) (Ri.lits W L 3) (by omega)).mono fun e w' ⟨h1, h2⟩ => ⟨by rw [h1]; simp, h2⟩

theorem known_codes : codesR [2, 1, 3, 3] = [2, 0, 6, 7] ∧ codeErr [2, 1, 3, 3] = 0 := by decide +kernel

theorem known_may : mayB [5, 1, 1] 15 = true := by decide +kernel
theorem known_pos : posTo [5, 1, 1] 3 = [0, 1, 2] := by decide +kernel

theorem known_lens1 : lensOf [5, 1, 1] [1, 2, 0] 15 = [1, 2, 2] := by decide +kernel
theorem known_lens2 : lensOf [5, 1, 1] [2, 1, 0] 15 = [1, 2, 2] := by decide +kernel

theorem known_D (D : List Int) (hp : List.Perm D [0, 1, 2]) (hs : Sr [5, 1, 1] D 0 D.length) : lensOf [5, 1, 1] D 15 = [1, 2, 2] := by
  have hl : D.length = 3 := hp.length_eq
  match D, hl with
  | [a, b, c], _ =>
    have ha : a ∈ ([0, 1, 2] : List Int) := hp.mem_iff.1 (by simp)
    have hb : b ∈ ([0, 1, 2] : List Int) := hp.mem_iff.1 (by simp)
    have hc : c ∈ ([0, 1, 2] : List Int) := hp.mem_iff.1 (by simp)
    have s1 : key [5, 1, 1] a ≤ key [5, 1, 1] b := hs 0 1 (by omega) (by omega) (by simp)
    have s2 : key [5, 1, 1] b ≤ key [5, 1, 1] c := hs 1 2 (by omega) (by omega) (by simp)
    have n1 : List.Nodup [a, b, c] := hp.nodup_iff.2 (by decide)
    simp only [List.mem_cons, List.not_mem_nil, or_false] at ha hb hc
    rcases ha with rfl | rfl | rfl <;> rcases hb with rfl | rfl | rfl <;> rcases hc with rfl | rfl | rfl <;> first
      | (exfalso; revert n1; decide)
      | (exfalso; revert s1; decide)
      | (exfalso; revert s2; decide)
      | exact known_lens1
      | exact known_lens2

set_option maxHeartbeats 400000 in
theorem known_any (w : World) : Calls Try.prog 9 #[] w fun e w' => e = .returned (.bool true) ∧ Step (fun _ => False) w w' := by
  have H1 := hidden (show Calls Try.prog _ _ _ (fun e w' => CodesP [2, 1, 3, 3] w e w') from (codes_any _ [2, 1, 3, 3] _ (Ri.lits w [2, 1, 3, 3] 3) (by simp)).mono (fun e w' h => by
    obtain ⟨v, h1, h2, h3, h4⟩ := h
    exact ⟨v, h1, h2, fun a n c e => by have := h3 a n c e; simp at this; omega, ((Step.refl _ w).alloc _).made h4⟩))
  have H2 := hidden (fun W => len_any _ [5, 1, 1] 15 _ (Ri.lits W [5, 1, 1] 3) (by simp) (fun n hn => sort_small n (by rw [hn]; decide)))
  have H3 := hidden (ints_lit [2, 0, 6, 7] (by simp))
  have H4 := hidden (ints_lit [1, 2, 2] (by simp))
  simp only [i64s, List.map_cons, List.map_nil, List.length_cons, List.length_nil, Nat.zero_add, Nat.reduceAdd] at H1 H2 H3 H4
  go_enter Try.func9, Try.ntmps9
  go_wp2_with (go_at_call 15; refine H1.out.mono ?_; rintro e w1 ⟨v1, rfl, r1, _, s1⟩; rw [known_codes.1] at r1; rw [known_codes.2]; have R1 := hidden r1; have S1 := hidden s1; obtain ⟨a1, c1, rfl, _⟩ := r1; clear s1)
  go_wp2_with (go_at_call 7; refine (H2.out _).mono ?_)
  rintro e w2 (⟨h, _⟩ | ⟨_, v2, D, rfl, d1, d2, r2, _, s2⟩)
  · rw [known_may] at h; cases h
  · rw [show (15 : Int).toNat = 15 from rfl, known_D D (by rw [← known_pos]; exact d1) d2] at r2
    have R2 := hidden r2
    obtain ⟨a2, c2, rfl, _⟩ := r2
    have s12 : Step (fun _ => False) w1 w2 := ((Step.refl _ w1).alloc _).made s2
    have R12 := hidden (R1.out.made s12)
    have S2 := hidden (S1.out.made s12)
    clear d1 d2 s2 s12
    simp only [List.length_cons, List.length_nil, Nat.zero_add, Nat.reduceAdd] at R1 R2 R12 ⊢
    go_wp2_with fail
    refine (H3.out _ _ R12.out _ rfl).mono ?_
    rintro e w3 ⟨rfl, q3, rfl⟩
    go_wp2_with fail
    have R3 : Hid (Ri ((w2.alloc (.cells #[.int .i64 2, .int .i64 0, .int .i64 6, .int .i64 7] 3)).drewN q3) (.slice a2 3 c2) [1, 2, 2]) := (R2.out.made ((Step.refl _ w2).alloc (.cells #[.int .i64 2, .int .i64 0, .int .i64 6, .int .i64 7] 3))).drewN q3
    have h4 := H4.out _ _ R3.out (w2.heap.size + 1) (by simp [World.drewN])
    refine h4.mono ?_
    rintro e w4 ⟨rfl, q4, rfl⟩
    go_wp2
    go_ret
    exact ⟨rfl, (((S2.out.alloc _).drewN _).alloc _).drewN _⟩


end Go.Proofs.Ytkglackbbcfhbaa
