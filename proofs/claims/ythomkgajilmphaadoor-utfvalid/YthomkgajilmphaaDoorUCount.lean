/-
  How many runes a text has: the code's Count.
-/
import Derived.Test.YthomkgajilmphaaDoorUTexts
import Derived.Test.YthomkgajilmphaaDoorULinesN
import Derived.WalkKit
namespace Go.Proofs.YthomkgajilmphaaDoor
open Go.RowKit Go.Lib

theorem Step.iterAt {S : Nat → Prop} {a w : World} (h : Step S a w) {k : Nat} (hk : a.heap.size ≤ k) (s : ByteArray) (pos : Nat) : Step S a (w.iterAt k s pos) :=
  ⟨h.os, h.tape, h.output, by rw [Lib.iterAt_size]; exact h.size, fun i hi hn => (Lib.iterAt_other w k i s pos (by omega)).trans (h.block i hi hn)⟩

/-- What an iterator over the text l hands over at pos. -/
theorem dec_at (s : ByteArray) (l : List UInt8) (h : s.data.toList = l) (pos : Nat) : Utf8.decode s pos = decodeL (l.drop pos) := by
  rw [← h]; exact (decodeL_drop s pos).symm
theorem drop_ne {l : List UInt8} {pos : Nat} (h : pos < l.length) : l.drop pos ≠ [] := by
  intro e
  have := congrArg List.length e
  simp at this
  omega

set_option maxHeartbeats 1000000 in
theorem count_any (l : List UInt8) (w : World) (hl : l.length ≤ 140737488355328) :
    Calls Tryd.prog 13 #[str l] w fun e w' => e = .returned (.int .i64 (((runesD l).length : Nat) : Int)) ∧ Step (fun _ => False) w w' := by
  obtain ⟨s, hs⟩ : ∃ s : ByteArray, s = ⟨l.toArray⟩ := ⟨_, rfl⟩
  have hsl : s.data.toList = l := by rw [hs]
  have hsz : s.size = l.length := by rw [hs]; exact ba_size l
  unfold str
  rw [← hs]
  have Hsl := hidden hsl
  have Hsz := hidden hsz
  have Hl := hidden hl
  obtain ⟨N, hN⟩ : ∃ N, (runesD l).length = N := ⟨_, rfl⟩
  rw [hN]
  have HN := hidden hN
  clear hs hsl hN hsz hl
  go_enter Tryd.func13, Tryd.ntmps13
  go_wp2
  go_loopw [3] (fun n wr => ∃ (pos k : Nat), n = .int .i64 (k : Int) ∧ wr.heap[w.heap.size]? = some (.stringIter s pos) ∧ Hid (Step (fun _ => False) w wr) ∧ Hid (k + (runesD (l.drop pos)).length = N ∧ k ≤ pos ∧ pos ≤ l.length)) (fun _ wr => s.size - wr.iterPos w.heap.size)
  case atStart =>
    refine ⟨0, 0, rfl, by simpa using World.iter_heap w s 0, ?_, ?_⟩
    · exact (Step.refl _ w).alloc _
    · exact ⟨by rw [List.drop_zero, HN.out]; omega, Nat.le_refl _, Nat.zero_le _⟩
  case round =>
    obtain ⟨pos, k, rfl, hit, HS, HF⟩ := hrel
    by_cases hp : pos < s.size
    · have hnx : ∀ ty, (Instr.next (.pointer (some ⟨w.heap.size, 0, none⟩)) true ty).run Tryd.prog wr = _ := fun ty => Lib.run_next_any_at wr w.heap.size s pos ty hit hp
      have hp2 : pos < l.length := by have := Hsz.out; omega
      have hd := dec_at s l Hsl.out pos
      have hwd := decodeL_width (l.drop pos)
      have hle := decodeL_le (l.drop pos) (drop_ne hp2)
      have hst := runesD_step (l.drop pos) (drop_ne hp2)
      rw [List.length_drop] at hle
      rw [List.drop_drop] at hst
      rw [hd] at hnx
      generalize (decodeL (l.drop pos)).2 = wd at *
      generalize (decodeL (l.drop pos)).1 = rr at *
      have HK := hidden (show k + 1 + (runesD (l.drop (pos + wd))).length = N by
        have h := HF.out.1
        rw [hst, List.length_cons] at h
        omega)
      have HB := hidden (show k + 1 ≤ pos + wd ∧ pos + wd ≤ l.length by have := HF.out.2; omega)
      have hkk : k + 1 ≤ 140737488355328 := by have := HB.out; have := Hl.out; omega
      have hit2 := Lib.iterAt_heap wr w.heap.size s pos (pos + wd) hit
      have HW := hidden hwd
      clear hd hle hst hwd hp2
      go_wp2
      go_roundw
      case rel => exact ⟨pos + wd, k + 1, by go_num, hit2, HS.out.iterAt (Nat.le_refl _) _ _, HK.out, HB.out⟩
      case measure =>
        simp only [World.iterPos, hit2, hit]
        have := HW.out
        omega
    · have hnx : ∀ ty, (Instr.next (.pointer (some ⟨w.heap.size, 0, none⟩)) true ty).run Tryd.prog wr = _ := fun ty => Lib.run_next_end_at wr w.heap.size s pos ty hit hp
      have HE := hidden (show k = N by
        have h := HF.out.1
        rw [List.drop_of_length_le (by have := Hsz.out; omega), runesD_nil] at h
        simpa using h)
      go_wp2
      go_ret
      exact ⟨by rw [HE.out]; rfl, HS.out⟩

end Go.Proofs.YthomkgajilmphaaDoor
