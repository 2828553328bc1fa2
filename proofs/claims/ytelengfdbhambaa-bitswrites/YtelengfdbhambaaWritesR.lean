/-
  Raw of both Writers, in one statement of the law.
-/
import Derived.Test.YtelengfdbhambaaWritesM
namespace Go.Proofs.Ytelengfdbhambaa
open Go.RowKit

theorem Roomy.short {w : World} {g cap : Nat} {B : List Nat} (h : Roomy w g cap B) : ∃ xs, w.ownsRow 0 5 1 (.slice (some ⟨g, 0, none⟩) (B.length + 1) cap) (B.length + 1) xs := by
  rcases h.own.2 with ⟨e, _⟩ | ⟨g', cap', cur, e, e2, e3, e4, e5, e6, e7⟩
  · cases e
  · injection e with x1 x2 x3
    injection x1 with x1
    injection x1 with x1
    subst x1 x3
    refine ⟨cur.toList.take (B.length + 1), ?_, .inr ⟨g, cap, cur, rfl, e2, e3, by omega, e5, e6, by simp⟩⟩
    have : cur.toList.length = cap := by simpa using e6
    simp
    omega

theorem two_new0 (w : World) (x y : Value) (t : TypeId) : (w.alloc (.cells #[x, y] t)).cell? ⟨w.heap.size, 0, none⟩ = some x := by simp
theorem two_new1 (w : World) (x y : Value) (t : TypeId) : (w.alloc (.cells #[x, y] t)).cell? ⟨w.heap.size, 1, none⟩ = some y := by simp

theorem two_b0 (w : World) (o : Obj) (x y : Value) (t : TypeId) : ((w.alloc o).alloc (.cells #[x, y] t)).drew.cell? ⟨w.heap.size + 1, 0, none⟩ = some x := by simp
theorem two_b1 (w : World) (o : Obj) (x y : Value) (t : TypeId) : ((w.alloc o).alloc (.cells #[x, y] t)).drew.cell? ⟨w.heap.size + 1, 1, none⟩ = some y := by simp
theorem two_c0 (w : World) (o : Obj) (x y : Value) (t : TypeId) : ((w.alloc (.cells #[x, y] t)).alloc o).drew.cell? ⟨w.heap.size, 0, none⟩ = some x :=
  ((Step.refl (fun _ => False) _).alloc o).cell (two_new0 w x y t) (fun h => h)
theorem two_c1 (w : World) (o : Obj) (x y : Value) (t : TypeId) : ((w.alloc (.cells #[x, y] t)).alloc o).drew.cell? ⟨w.heap.size, 1, none⟩ = some y :=
  ((Step.refl (fun _ => False) _).alloc o).cell (two_new1 w x y t) (fun h => h)

theorem two_sz (w : World) (o o' : Obj) : ((w.alloc o).alloc o').drew.heap.size = w.heap.size + 2 := by
  show ((w.heap.push o).push o').size = _
  simp
theorem two_sz1 (w : World) (o o' : Obj) : w.heap.size + 1 < ((w.alloc o).alloc o').drew.heap.size := by rw [two_sz]; omega
theorem two_sz0 (w : World) (o o' : Obj) : w.heap.size < ((w.alloc o).alloc o').drew.heap.size := by rw [two_sz]; omega

/-- The rows that the law hands over, beside both Writers: z: all from there on was made since. -/
structure Hold (w w1 : World) (z a b : Nat) (sa sb : Value) (N L N' L' : Nat) (g cp : Nat) (B C : List Nat) (vB vC : Value) : Prop where
  P : Both w w1 a b sa sb N L N' L'
  Y : Roomy w1 g cp B
  rB : Rd w1 vB B
  rC : Rd w1 vC C
  hg : w.heap.size ≤ g ∧ g < z ∧ ¬ Own2 a b sa sb g
  hB : ∀ x n c, vB = .slice (some x) n c → B ≠ [] → x.block < w.heap.size
  hC : ∀ x n c, vC = .slice (some x) n c → C ≠ [] → x.block < w.heap.size
  bB : ∀ y ∈ B, y < 256
  bC : ∀ y ∈ C, y < 256

section
variable {w w1 w2 : World} {z a b : Nat} {sa sb : Value} {N L N' L' g cp : Nat} {B C : List Nat} {vB vC : Value}

theorem Hold.made (H : Hold w w1 z a b sa sb N L N' L' g cp B C vB vC) (h : Step (fun _ => False) w1 w2) : Hold w w2 z a b sa sb N L N' L' g cp B C vB vC :=
  ⟨H.P.made h, H.Y.step h (fun h => h), H.rB.step h (fun _ _ _ _ _ h => h), H.rC.step h (fun _ _ _ _ _ h => h), H.hg, H.hB, H.hC, H.bB, H.bC⟩
theorem Hold.alloc (H : Hold w w1 z a b sa sb N L N' L' g cp B C vB vC) (o : Obj) : Hold w (w1.alloc o) z a b sa sb N L N' L' g cp B C vB vC := H.made ((Step.refl _ _).alloc o)
theorem Hold.drew (H : Hold w w1 z a b sa sb N L N' L' g cp B C vB vC) : Hold w w1.drew z a b sa sb N L N' L' g cp B C vB vC := H.made ((Step.refl _ _).drew)

/-- A row of the arguments is none of a Writer's. -/
theorem Hold.src {v : Value} {D : List Nat} (hr : Rd w1 v D) (hb : ∀ y ∈ D, y < 256) (hv : ∀ x n c, v = .slice (some x) n c → D ≠ [] → x.block < w.heap.size) {c : Nat} {s : Value} (ho : ∀ k, Of c s k → w.heap.size ≤ k) : Src w1 c s v D :=
  ⟨hr, fun x n c' e hne h => by have := hv x n c' e hne; have := ho _ h; omega, hb⟩

end

theorem raw_hold (w : World) (z a b : Nat) (sa sb : Value) (N L : Nat) (hL : L ≤ 100000000) (g cp : Nat) (B C : List Nat) (vB vC : Value) (lB : B.length ≤ 2000) (lC : C.length ≤ 2000) (sx : Nat) (hsx : ¬ Own2 a b sa sb sx)
    (hz : ∀ k, Own2 a b sa sb k → k < z) (x3 x4 : Value) : ∃ (r : Int) (N' L' : Nat), L' ≤ L + 32000 ∧
    (∀ w2 q, Hold w w2 z a b sa sb N L N L g cp B C vB vC → w2.cell? ⟨q, 0, none⟩ = some (.slice (some ⟨g, 0, none⟩) B.length cp) → w2.cell? ⟨q, 1, none⟩ = some vC → z ≤ q → w2.cell? ⟨sx, 3, none⟩ = some x3 → w2.cell? ⟨sx, 4, none⟩ = some x4 →
      Calls Try.prog 18 #[.pointer (some ⟨a, 0, none⟩), .slice (some ⟨q, 0, none⟩) 2 2] w2 fun e w' => e = .returned (.int .i64 r) ∧ Hid (∃ s, Hold w w' z a b s sb N' L' N L g cp B C vB vC) ∧
        w'.cell? ⟨sx, 3, none⟩ = some x3 ∧ w'.cell? ⟨sx, 4, none⟩ = some x4 ∧ (∀ q' j, z ≤ q' → q' < w2.heap.size → w'.cell? ⟨q', j, none⟩ = w2.cell? ⟨q', j, none⟩) ∧ w2.heap.size ≤ w'.heap.size) ∧
    (∀ w2 q, Hid (∃ s, Hold w w2 z a b s sb N' L' N L g cp B C vB vC) → w2.cell? ⟨q, 0, none⟩ = some vB → w2.cell? ⟨q, 1, none⟩ = some vC → z ≤ q → w2.cell? ⟨sx, 3, none⟩ = some x3 → w2.cell? ⟨sx, 4, none⟩ = some x4 →
      Calls Try.prog 19 #[.pointer (some ⟨b, 0, none⟩), .slice (some ⟨q, 0, none⟩) 2 2] w2 fun e w' => e = .returned (.int .i64 r) ∧ Hid (∃ s s', Hold w w' z a b s s' N' L' N' L' g cp B C vB vC) ∧
        w'.cell? ⟨sx, 3, none⟩ = some x3 ∧ w'.cell? ⟨sx, 4, none⟩ = some x4) := by
  obtain ⟨r, N', L', hle, G1, G2⟩ := raw_two w a b sa sb N L hL B C lB lC
  refine ⟨r, N', L', hle, fun w2 q H c0 c1 hq h3 h4 => ?_, fun w2 q H c0 c1 hq h3 h4 => ?_⟩
  · have hoA : ∀ k, Of a sa k → w.heap.size ≤ k := fun k hk => (H.P.lt k (.inl hk)).1
    have sP : Src w2 a sa (.slice (some ⟨g, 0, none⟩) B.length cp) B := ⟨H.Y.rd, fun x n c e _ h => by
      injection e with e1
      injection e1 with e1
      subst e1
      exact H.hg.2.2 (.inl h), H.bB⟩
    refine (G1 w2 q _ _ H.P c0 c1 (fun h => by have := hz q (.inl h); omega) sP (Hold.src H.rC H.bC H.hC hoA)).mono ?_
    rintro e w' ⟨rfl, s, P', hS, hW⟩
    have hng : ¬ Of a sa g := fun h => H.hg.2.2 (.inl h)
    have hg' : ¬ Own2 a b s sb g := by
      rintro ((h | h) | h)
      · exact hng (.inl h)
      · have hlt := (H.Y.own.lt g rfl).2
        rcases hW with e | ⟨k, e, hk⟩
        · exact hng (.inr (by rw [← e]; exact h))
        · rw [e] at h; have := Option.some.inj h; omega
      · exact H.hg.2.2 (.inr h)
    refine ⟨rfl, ⟨s, P', H.Y.step hS hng, H.rB.step hS (fun x n c e hne h => by have := H.hB x n c e hne; have := hoA _ h; omega), H.rC.step hS (fun x n c e hne h => by have := H.hC x n c e hne; have := hoA _ h; omega), ⟨H.hg.1, H.hg.2.1, hg'⟩, H.hB, H.hC, H.bB, H.bC⟩,
      hS.cell h3 (fun h => hsx (.inl h)), hS.cell h4 (fun h => hsx (.inl h)), fun q' j h1 h2 => hS.cell' (p := ⟨q', j, none⟩) h2 (fun h => by have := hz q' (.inl h); omega), hS.size⟩
  · obtain ⟨s, H⟩ := H.out
    have hoB : ∀ k, Of b sb k → w.heap.size ≤ k := fun k hk => (H.P.lt k (.inr hk)).1
    refine (G2 w2 s q _ _ H.P c0 c1 (fun h => by have := hz q (.inr h); omega) (Hold.src H.rB H.bB H.hB hoB) (Hold.src H.rC H.bC H.hC hoB)).mono ?_
    rintro e w' ⟨rfl, s', P', hS, hW⟩
    have hng : ¬ Of b sb g := fun h => H.hg.2.2 (.inr h)
    have hg' : ¬ Own2 a b s s' g := by
      rintro (h | (h | h))
      · exact H.hg.2.2 (.inl h)
      · exact hng (.inl h)
      · have hlt := (H.Y.own.lt g rfl).2
        rcases hW with e | ⟨k, e, hk⟩
        · exact hng (.inr (by rw [← e]; exact h))
        · rw [e] at h; have := Option.some.inj h; omega
    exact ⟨rfl, ⟨s, s', P', H.Y.step hS hng, H.rB.step hS (fun x n c e hne h => by have := H.hB x n c e hne; have := hoB _ h; omega), H.rC.step hS (fun x n c e hne h => by have := H.hC x n c e hne; have := hoB _ h; omega), ⟨H.hg.1, H.hg.2.1, hg'⟩, H.hB, H.hC, H.bB, H.bC⟩,
      hS.cell h3 (fun h => hsx (.inr h)), hS.cell h4 (fun h => hsx (.inr h))⟩

end Go.Proofs.Ytelengfdbhambaa
