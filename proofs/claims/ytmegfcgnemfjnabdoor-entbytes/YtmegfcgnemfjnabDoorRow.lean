/-
  Rows of bytes in memory: read, owned, handed in.
-/
import Derived.Test.YtmegfcgnemfjnabDoorMem
import Derived.Test.YtmegfcgnemfjnabDoorRows
import Derived.Outline
import Derived.StillTailTactics
import Derived.BigQuiet
import Derived.Deep.QuietTactic
import Derived.OpenShut
namespace Go.Proofs.YtmegfcgnemfjnabDoor
open Go.RowKit

theorem Tryd.mixed : Tryd.prog.follows .mixedOrders = true := by kernel_rfl

theorem hidden {p : Prop} (h : p) : Hid p := h

/-- Bytes as cells. -/
def u8s (bs : List Nat) : List Value := bs.map fun (x : Nat) => Value.int .u8 (x : Int)
theorem Tryd.info5 : (Tryd.prog.info? 5).map (fun i => (i.zero, i.size, i.bytes)) = some (some (.int .u8 0), 1, 1) := by kernel_rfl

theorem u8s_get? (bs : List Nat) (i : Nat) : (u8s bs)[i]? = bs[i]?.map fun (x : Nat) => Value.int .u8 (x : Int) := by simp [u8s]
theorem u8s_length (bs : List Nat) : (u8s bs).length = bs.length := by simp [u8s]
theorem u8s_append (a b : List Nat) : u8s (a ++ b) = u8s a ++ u8s b := by simp [u8s]
theorem u8s_one (bs : List Nat) : ∀ u ∈ u8s bs, u.oneCell' = true := by
  intro u hu
  obtain ⟨_, _, rfl⟩ := List.mem_map.1 hu
  rfl

/-- The slice v reads as the bytes bs. -/
def Rd (w : World) (v : Value) (bs : List Nat) : Prop :=
  ∃ ao cap, v = .slice ao bs.length cap ∧ (ao = none → bs = [] ∧ cap = 0) ∧
    ∀ a, ao = some a → bs ≠ [] → ∃ b off, a = ⟨b, off, none⟩ ∧ ∀ k, k < bs.length → w.cell? ⟨b, off + k, none⟩ = some (.int .u8 ((bs.getD k 0 : Nat) : Int))

theorem Rd.of_own {w : World} {v : Value} {n : Nat} {bs : List Nat} (h : w.ownsRow 0 5 1 v n (u8s bs)) : Rd w v bs := by
  have hl := h.1
  rw [u8s_length, Nat.mul_one] at hl
  rcases h.2 with ⟨rfl, rfl⟩ | ⟨g, cap, cur, rfl, _, hg, _⟩
  · refine ⟨none, 0, by rw [hl], fun _ => ⟨List.eq_nil_of_length_eq_zero hl, rfl⟩, fun a h => by cases h⟩
  · refine ⟨some ⟨g, 0, none⟩, cap, by rw [hl], (fun h => by cases h), fun a ha _ => ⟨g, 0, (Option.some.inj ha).symm, fun k hk => ?_⟩⟩
    rw [Nat.zero_add, h.cellAt k (by omega), u8s_get?]
    simp [List.getD, hk]

theorem Rd.step {S : Nat → Prop} {w w' : World} {v : Value} {bs : List Nat} (h : Rd w v bs) (hs : Step S w w') (hS : ∀ a n c, v = .slice (some a) n c → bs ≠ [] → ¬ S a.block) : Rd w' v bs := by
  obtain ⟨ao, cap, rfl, h1, h2⟩ := h
  refine ⟨ao, cap, rfl, h1, fun a ha hb => ?_⟩
  obtain ⟨b, off, rfl, hc⟩ := h2 a ha hb
  subst ha
  exact ⟨b, off, rfl, fun k hk => hs.cell (hc k hk) (hS ⟨b, off, none⟩ _ _ rfl hb)⟩

theorem Rd.slot {w : World} {ao : Option Addr} {n cap : Nat} {bs : List Nat} (h : Rd w (.slice ao n cap) bs) : n = bs.length := by
  obtain ⟨_, _, h, _⟩ := h
  injection h

theorem Rd.news {w : World} {a : Addr} {n cap : Nat} {B : List Nat} (h : Rd w (.slice (some a) n cap) B) : ∀ j u, (u8s B)[j]? = some u → w.cell? (a.add j) = some u := by
  obtain ⟨ao, c, e, h1, h2⟩ := h
  injection e with e1
  intro j u hu
  have hne : B ≠ [] := by intro e; subst e; simp [u8s] at hu
  obtain ⟨b, off, rfl, hc⟩ := h2 a e1.symm hne
  have hj : j < B.length := by
    have := (List.getElem?_eq_some_iff.1 hu).1
    rwa [u8s_length] at this
  rw [Addr.add_lit, hc j hj, ← hu, u8s_get?]
  simp [List.getD, hj]

theorem rd_of_ints {w : World} {x : Addr} {len cap : Nat} {zs : List Int} (hl : len ≤ cap) (hz : zs.length = cap) (hc : ∀ i, i < zs.length → w.cell? (x.add i) = some (.int .u8 (zs.getD i 0)))
    (hw : ∀ n ∈ zs, (Lit.int .u8 n).wf = true) : ∃ B : List Nat, B.length = len ∧ Rd w (.slice (some x) B.length cap) B ∧ (∀ y ∈ B, y < 256) ∧ (zs.take len = B.map fun (y : Nat) => (y : Int)) := by
  have hlen : ((zs.take len).map Int.toNat).length = len := by simp; omega
  refine ⟨(zs.take len).map Int.toNat, hlen, ⟨some x, cap, rfl, fun h => (by cases h), fun a ha hne => ?_⟩, ?_, ?_⟩
  · have hp : 0 < len := by
      rcases Nat.eq_zero_or_pos len with h | h
      · exact absurd (List.eq_nil_of_length_eq_zero (by omega)) hne
      · exact h
    obtain ⟨b, off, rfl, hcl⟩ := ints_at hc (by omega)
    refine ⟨b, off, (Option.some.inj ha).symm, fun k hk => ?_⟩
    rw [hlen] at hk
    rw [hcl k (by omega)]
    have hk2 : k < zs.length := by omega
    have hb := bounds_u8 (hw zs[k] (List.getElem_mem hk2))
    simp [List.getD, hk2, hk]
    omega
  · intro y hy
    obtain ⟨z, hz1, rfl⟩ := List.mem_map.1 hy
    have hb := bounds_u8 (hw z (List.mem_of_mem_take hz1))
    omega
  · rw [List.map_map]
    symm
    rw [List.map_congr_left (g := id)]
    · simp
    · intro z hz1
      have hb := bounds_u8 (hw z (List.mem_of_mem_take hz1))
      simp; omega

theorem rd_none (w : World) : Rd w (.slice none ([] : List Nat).length 0) [] := ⟨none, 0, rfl, fun _ => ⟨rfl, rfl⟩, fun a h => (by cases h)⟩

theorem Step.made {w w1 w2 : World} (h : Step (fun _ => False) w w1) (h2 : Step (fun _ => False) w1 w2) : Step (fun _ => False) w w2 := h.trans h2 (fun _ hi => hi.elim)

theorem Rd.lit (w : World) (x : Nat) : Rd (w.alloc (.cells #[.int .u8 (x : Int)] 5)) (.slice (some ⟨w.heap.size, 0, none⟩) 1 1) [x] := by
  refine ⟨some ⟨w.heap.size, 0, none⟩, 1, rfl, fun h => (by cases h), fun a ha _ => ⟨w.heap.size, 0, (Option.some.inj ha).symm, fun k hk => ?_⟩⟩
  have : k = 0 := by simp at hk; omega
  subst this
  simp

theorem eq_of_getD {A B : List Nat} (hl : A.length = B.length) (h : ∀ j, j < A.length → A.getD j 0 = B.getD j 0) : A = B := by
  apply List.ext_getElem hl
  intro j h1 h2
  have := h j h1
  simpa [List.getD, h1, h2] using this

end Go.Proofs.YtmegfcgnemfjnabDoor
