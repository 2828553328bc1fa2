/-
  Runes by their numbers: the code's way.
-/
import Derived.Test.YtmegfcgnemfjnaaDoorECode4
import Derived.Lib.ItoaMem
namespace Go.Proofs.YtmegfcgnemfjnaaDoor
open Go.RowKit Go.Lib

theorem step_grow (w : World) (k : Nat) (os : Array Obj) : Step (fun _ => False) w (Go.Sort.grow (w.drewN k) os) := by
  have h : Step (fun _ => False) w (w.drewN k) := Step.of_below (by
    induction k with
    | zero => exact Below.refl _ _
    | succ k ih => exact ih.drew)
  refine ⟨h.os, h.tape, h.output, ?_, fun i hi hn => ?_⟩
  · have := h.size
    simp only [Go.Sort.grow, Array.size_append]
    omega
  · rw [← h.block i hi hn]
    have hlt : i < (w.drewN k).heap.size := by have := h.size; omega
    simp only [Go.Sort.grow]
    rw [Array.getElem?_append_left hlt]

theorem runes_len (l : List UInt8) (_h : l ≠ []) : (spellR (decodeL l).1).length ≤ 10 := by
  have hok := decodeL_okR l
  unfold okR at hok
  have := dec_len 6 (decodeL l).1 (by omega)
  unfold spellR
  simp
  omega

set_option maxHeartbeats 4000000 in
theorem spell_any (l : List UInt8) (w : World) (hl : l.length ≤ 20000) (T : EW w) :
    Calls Tryd.prog 15 #[str l] w fun e w' => e = .returned (str (spell l)) ∧ Step (fun _ => False) w w' := by
  obtain ⟨s, hs⟩ : ∃ s : ByteArray, s = ⟨l.toArray⟩ := ⟨_, rfl⟩
  have hsl : s.data.toList = l := by rw [hs]
  have hsz : s.size = l.length := by rw [hs]; exact ba_size l
  unfold str
  rw [← hs]
  have Hsl := hidden hsl
  have Hsz := hidden hsz
  have TT := hidden T
  have hsb : s.size ≤ 20000 := by omega
  clear hs hsl hsz hl T
  have HB0 := hidden (And.intro (Lib.IsBuilderF.of (Lib.fresh_isBuilder 39 5 w)) ((Below.refl w.heap.size w).alloc (Nat.le_refl _) (.cells #[.pointer none, .slice none 0 0] 39)))
  have hsz0 : (w.alloc (.cells #[.pointer none, .slice none 0 0] 39)).heap.size = w.heap.size + 1 := by simp
  go_enter Tryd.func15, Tryd.ntmps15
  go_wp2
  generalize hW0 : w.alloc (.cells #[.pointer none, .slice none 0 0] 39) = W0 at *
  obtain ⟨K, hK⟩ : ∃ K, K = w.heap.size + 1 := ⟨_, rfl⟩
  have HK := hidden hK
  rw [← hK]
  clear hK hW0
  go_loopw [] (fun wr => ∃ (pos : Nat) (acc : List UInt8), Hid (Lib.IsBuilderF 39 5 w.heap.size w.heap.size (Lib.byteCells acc) wr ∧ Below w.heap.size w wr) ∧ wr.heap[K]? = some (.stringIter s pos) ∧
      Hid (acc ++ spell (l.drop pos) = spell l ∧ acc.length ≤ 10 * pos ∧ pos ≤ l.length)) (fun wr => s.size - wr.iterPos K)
  case atStart =>
    refine ⟨0, [], ⟨HB0.out.1.alloc _, HB0.out.2.alloc (by omega) _⟩, ?_, ?_⟩
    · rw [HK.out, ← hsz0]; simpa using World.iter_heap W0 s 0
    · exact ⟨by simp, by simp, Nat.zero_le _⟩
  case round =>
    obtain ⟨pos, acc, HI, hit, HF⟩ := hrel
    have Hit := hidden hit
    have hKne : K ≠ w.heap.size := by have := HK.out; omega
    by_cases hp : pos < s.size
    · have hnx : ∀ ty, (Instr.next (.pointer (some ⟨K, 0, none⟩)) true ty).run Tryd.prog wr = _ := fun ty => Lib.run_next_any_at wr K s pos ty hit hp
      have hp2 : pos < l.length := by have := Hsz.out; omega
      have hd := dec_at s l Hsl.out pos
      have Hwd := hidden (decodeL_width (l.drop pos))
      have hle := decodeL_le (l.drop pos) (drop_ne hp2)
      rw [List.length_drop] at hle
      have hst := spell_step (l.drop pos) (drop_ne hp2)
      rw [List.drop_drop] at hst
      have hok := decodeL_okR (l.drop pos)
      have hrl := runes_len (l.drop pos) (drop_ne hp2)
      rw [hd] at hnx
      have hit2 := Lib.iterAt_heap wr K s pos (pos + (decodeL (l.drop pos)).2) hit
      have HI2 := hidden (And.intro (HI.out.1.iterAt hit (pos + (decodeL (l.drop pos)).2)) (Lib.below_iterAt HI.out.2 (k := K) (by have := HK.out; omega) s (pos + (decodeL (l.drop pos)).2)))
      generalize (decodeL (l.drop pos)).2 = wd at *
      generalize (decodeL (l.drop pos)).1 = rr at *
      have hrb : rr ≤ 1114111 := by unfold okR at hok; omega
      have hw : IntKind.i64.wrap (rr : Int) = (rr : Int) := by simp [IntKind.wrap, IntKind.bits, IntKind.signed]; omega
      have HN := hidden (show (acc ++ spellR rr) ++ spell (l.drop (pos + wd)) = spell l ∧ (acc ++ spellR rr).length ≤ 10 * (pos + wd) ∧ pos + wd ≤ l.length by
        refine ⟨?_, ?_, by have := HF.out.2; omega⟩
        · rw [← HF.out.1, hst]; simp
        · rw [List.length_append]; have := HF.out.2; have := Hwd.out; omega)
      have Hac := hidden (show acc.length + 10 ≤ 140737488355328 by have := HF.out.2; omega)
      have Hrl := hidden hrl
      have Hit2 := hidden hit2
      have Hrb := hidden hrb
      clear hd hle hst hok hit hit2 hrl
      have HW1 := hidden (ws_any w.heap.size w.heap.size (Lib.byteCells acc) ⟨#[38, 35]⟩ _ HI2.out.1 (by rw [Lib.byteCells_length]; have := Hac.out; have : (⟨#[38, 35]⟩ : ByteArray).size = 2 := rfl; omega) HI2.out.2.size)
      go_wp2_with fail
      refine Calls.mono HW1.out ?_
      rintro e w1 ⟨rfl, h1, b1, k1⟩
      have HJ1 := hidden (And.intro (show Lib.IsBuilderF 39 5 w.heap.size w.heap.size (Lib.byteCells (acc ++ [38, 35])) w1 by
        rw [Lib.byteCells_append]; exact .inr h1) (HI2.out.2.trans b1))
      have HT1 := hidden (k1.iter Hit2.out hKne)
      clear h1 b1 k1
      have HIt := hidden (itoa_any (rr : Int) (by omega) (by omega) w1 (TT.out.step (Step.of_below HJ1.out.2)).pow)
      rw [Lib.itoa_nonneg] at HIt
      go_wp2_with fail
      refine Calls.mono HIt.out ?_
      rintro e w2 ⟨rfl, k, os, rfl⟩
      have S := step_grow w1 k os
      generalize Go.Sort.grow (w1.drewN k) os = w2 at *
      have HJ2 := hidden (And.intro (builder_step HJ1.out.1 S) (HJ1.out.2.trans (S.below _ HJ1.out.2.size (fun _ h => h.elim))))
      have HT2 := hidden ((S.block K (Array.getElem?_eq_some_iff.1 HT1.out).1 (fun h => h)).trans HT1.out)
      clear S
      have HW3 := hidden (ws_any w.heap.size w.heap.size (Lib.byteCells (acc ++ [38, 35])) ⟨(Lib.decDigits rr).toArray⟩ w2 HJ2.out.1 (by
        rw [Lib.byteCells_length, ba_size, List.length_append]; have := Hac.out; have := Hrl.out; unfold spellR at this; simp at this ⊢; omega) HJ2.out.2.size)
      go_wp2_with fail
      refine Calls.mono HW3.out ?_
      rintro e w3 ⟨rfl, h1, b1, k1⟩
      have HJ3 := hidden (And.intro (show Lib.IsBuilderF 39 5 w.heap.size w.heap.size (Lib.byteCells ((acc ++ [38, 35]) ++ Lib.decDigits rr)) w3 by
        rw [Lib.byteCells_append (acc ++ [38, 35]), ← Lib.strCells_toArray (Lib.decDigits rr)]; exact .inr h1) (HJ2.out.2.trans b1))
      have HT3 := hidden (k1.iter HT2.out hKne)
      clear h1 b1 k1
      have HW4 := hidden (wb_any w.heap.size w.heap.size (Lib.byteCells ((acc ++ [38, 35]) ++ Lib.decDigits rr)) 59 w3 HJ3.out.1 (by
        rw [Lib.byteCells_length, List.length_append, List.length_append]; have := Hac.out; have := Hrl.out; unfold spellR at this; simp at this ⊢; omega) HJ3.out.2.size)
      go_wp2_with fail
      refine Calls.mono HW4.out ?_
      rintro e w4 ⟨rfl, h1, b1, k1⟩
      have HJ4 := hidden (And.intro (show Lib.IsBuilderF 39 5 w.heap.size w.heap.size (Lib.byteCells (acc ++ spellR rr)) w4 by
        rw [show acc ++ spellR rr = ((acc ++ [38, 35]) ++ Lib.decDigits rr) ++ [59] by simp [spellR], Lib.byteCells_append]; exact .inr h1) (HJ3.out.2.trans b1))
      have HT4 := hidden (k1.iter HT3.out hKne)
      clear h1 b1 k1
      go_wp2
      go_roundw
      case rel => exact ⟨pos + wd, _, HJ4.out, HT4.out, HN.out⟩
      case measure =>
        simp only [World.iterPos, HT4.out, Hit.out]
        have := Hwd.out
        omega
    · have hnx : ∀ ty, (Instr.next (.pointer (some ⟨K, 0, none⟩)) true ty).run Tryd.prog wr = _ := fun ty => Lib.run_next_end_at wr K s pos ty hit hp
      have HE := hidden (show acc = spell l by
        have h := HF.out.1
        rw [List.drop_of_length_le (by have := Hsz.out; omega)] at h
        simpa [spell, runesD_nil] using h)
      have HSt := hidden (string_any w.heap.size w.heap.size acc wr HI.out.1 HI.out.2.size)
      clear hit
      go_wp2_with fail
      refine Calls.mono HSt.out ?_
      rintro e W1 ⟨rfl, _, b1, _⟩
      have HF2 := hidden (Step.of_below (HI.out.2.trans b1))
      clear b1
      go_wp2
      go_ret
      exact ⟨by rw [← HE.out]; rfl, HF2.out⟩

end Go.Proofs.YtmegfcgnemfjnaaDoor
