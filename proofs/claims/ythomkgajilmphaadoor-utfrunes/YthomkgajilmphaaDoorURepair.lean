/-
  Bytes as text: the code's Repair; the four runes that all know.
-/
import Derived.Test.YthomkgajilmphaaDoorUCount
import Derived.Test.YthomkgajilmphaaDoorUShelf
import Derived.Laws.IdiomStrings
import Derived.Laws.BytesArg
namespace Go.Proofs.YthomkgajilmphaaDoor
open Go.RowKit Go.Lib

/-- The slice v reads as the bytes l. -/
abbrev Rb (w : World) (v : Value) (l : List UInt8) : Prop := Rd w v (l.map UInt8.toNat)

theorem conv_any {w : World} {v : Value} {l : List UInt8} (h : Rb w v l) : (convert 22 9 v).run Tryd.prog w = .ok (str l) w := by
  obtain ⟨ao, cap, rfl, h1, h2⟩ := h
  cases ao with
  | none =>
    have hl : l = [] := by simpa using (h1 rfl).1
    subst hl
    exact run_convert_bytes_nil w 22 5 Tryd.underlying22 Tryd.underlying5 _ _ 9 Tryd.underlying9
  | some a =>
    have := run_convert_bytes_back (P := Tryd.prog) w 22 9 5 a cap l Tryd.underlying22 Tryd.underlying5 Tryd.underlying9 (fun j hj => by
      obtain ⟨b, off, rfl, hc⟩ := h2 a rfl (by intro e; have := congrArg List.length e; simp at this; subst this; simp at hj)
      rw [Addr.add_lit, hc j (by simpa using hj)]
      simp [List.getD, hj])
    simpa using this

theorem below_iter {B : Nat} {a w : World} (h : Below B a w) (o : Obj) (hB : B ≤ w.heap.size) : Below B a (w.alloc o) := h.alloc hB o

set_option maxHeartbeats 2000000 in
theorem repair_any (v : Value) (l : List UInt8) (w : World) (hr : Rb w v l) (hl : l.length ≤ 100000) :
    Calls Tryd.prog 7 #[v] w fun e w' => e = .returned (str (repair l)) ∧ Step (fun _ => False) w w' := by
  obtain ⟨s, hs⟩ : ∃ s : ByteArray, s = ⟨l.toArray⟩ := ⟨_, rfl⟩
  have hsl : s.data.toList = l := by rw [hs]
  have hsz : s.size = l.length := by rw [hs]; exact ba_size l
  have Hr := hidden hr
  obtain ⟨ao, cap, hv, hh1, hh2⟩ := hr
  clear hh1 hh2
  rw [List.length_map, ← hsz] at hv
  have Hv := hidden hv
  rw [hv] at Hr ⊢
  have Hsl := hidden hsl
  have Hsz := hidden hsz
  have Hs := hidden hs
  have hsb : s.size ≤ 100000 := by omega
  clear hs hsl hsz hv hl
  go_enter Tryd.func7, Tryd.ntmps7
  go_wp2_with fail
  refine Calls.mono (grow_any w.heap.size w.heap.size s.size _ (Nat.le_refl _) (heap_alloc_new w _) (by simp) (by omega)) ?_
  rintro e w1 ⟨rfl, hB1, hb1⟩
  have HB1 := hidden (Lib.IsBuilderF.of (.inr hB1))
  have Hb1 := hidden (((Below.refl w.heap.size w).alloc (Nat.le_refl _) (.cells #[.pointer none, .slice none 0 0] 37)).trans hb1)
  have hlt : w.heap.size < w1.heap.size := by have := hb1.size; simp at this; omega
  clear hB1 hb1
  have hcv := conv_any (Hr.out.step (Step.of_below Hb1.out) (fun _ _ _ _ _ h => h))
  unfold str at hcv
  rw [← Hs.out] at hcv
  obtain ⟨K, hK⟩ : ∃ K, K = w1.heap.size := ⟨_, rfl⟩
  have HK := hidden hK
  go_wp2
  rw [← HK.out]
  clear hK
  go_loopw [] (fun wr => ∃ (pos : Nat) (acc : List UInt8), Hid (Lib.IsBuilderF 37 5 w.heap.size w.heap.size (Lib.byteCells acc) wr ∧ Below w.heap.size w wr) ∧ wr.heap[K]? = some (.stringIter s pos) ∧
      Hid (acc ++ repair (l.drop pos) = repair l ∧ acc.length ≤ 4 * pos ∧ pos ≤ l.length)) (fun wr => s.size - wr.iterPos K)
  case atStart =>
    refine ⟨0, [], ⟨HB1.out.alloc _, Hb1.out.alloc (by omega) _⟩, ?_, ?_⟩
    · rw [HK.out]; simpa using World.iter_heap w1 s 0
    · exact ⟨by simp, by simp, Nat.zero_le _⟩
  case round =>
    obtain ⟨pos, acc, HI, hit, HF⟩ := hrel
    have Hit := hidden hit
    have hKne : K ≠ w.heap.size := by have := HK.out; omega
    by_cases hp : pos < s.size
    · have hnx : ∀ ty, (Instr.next (.pointer (some ⟨K, 0, none⟩)) true ty).run Tryd.prog wr = _ := fun ty => Lib.run_next_any_at wr K s pos ty hit hp
      have hp2 : pos < l.length := by have := Hsz.out; omega
      have hd := dec_at s l Hsl.out pos
      have Hwd := hidden (decodeL_width (l.drop pos))
      have hle := decodeL_le (l.drop pos) (drop_ne hp2)
      rw [List.length_drop] at hle
      have hst := repair_step (l.drop pos) (drop_ne hp2)
      rw [List.drop_drop] at hst
      have hok := decodeL_okR (l.drop pos)
      rw [hd] at hnx
      have hit2 := Lib.iterAt_heap wr K s pos (pos + (decodeL (l.drop pos)).2) hit
      have HI2 := hidden (And.intro (HI.out.1.iterAt hit (pos + (decodeL (l.drop pos)).2)) (Lib.below_iterAt HI.out.2 (k := K) (by have := HK.out; omega) s (pos + (decodeL (l.drop pos)).2)))
      generalize (decodeL (l.drop pos)).2 = wd at *
      generalize (decodeL (l.drop pos)).1 = rr at *
      have hrb : repN rr ≤ 1114111 := by
        have := repN_ok rr hok
        unfold okR at this
        omega
      have hel := enc_len (repN rr)
      have hcl : (Lib.byteCells acc).length + 4 ≤ 140737488355328 := by rw [Lib.byteCells_length]; have := HF.out.2; omega
      have HN := hidden (show (acc ++ Lib.encodeRune ((repN rr : Nat) : Int)) ++ repair (l.drop (pos + wd)) = repair l ∧ (acc ++ Lib.encodeRune ((repN rr : Nat) : Int)).length ≤ 4 * (pos + wd) ∧ pos + wd ≤ l.length by
        refine ⟨?_, ?_, by have := HF.out.2; omega⟩
        · rw [← HF.out.1, hst]; simp
        · rw [List.length_append]; have := HF.out.2; have := Hwd.out; omega)
      have HRu := hidden (rune_any w.heap.size w.heap.size (Lib.byteCells acc) ((repN rr : Nat) : Int) (by omega) (by omega) _ HI2.out.1 hcl HI2.out.2.size)
      have Hit2 := hidden hit2
      have hre : repN rr = if rr = 0 then 65533 else rr := rfl
      clear hd hle hst hok hcl hel hit hit2 hrb
      by_cases h0 : rr = 0
      · rw [if_pos h0] at hre
        rw [hre] at HRu HN
        subst h0
        clear hre
        go_wp2_with (go_at_call 17; refine HRu.out.mono ?_)
        rintro e W1 ⟨rfl, h1, b1, k1⟩
        have HJ := hidden (And.intro (show Lib.IsBuilderF 37 5 w.heap.size w.heap.size (Lib.byteCells (acc ++ Lib.encodeRune ((65533 : Nat) : Int))) W1 by
          rw [Lib.byteCells_append, Lib.byteCells_encodeRune]; exact .inr h1) (HI2.out.2.trans b1))
        have HT := hidden (k1.iter Hit2.out hKne)
        clear h1 b1 k1
        go_wp2
        go_roundw
        case rel => exact ⟨pos + wd, _, HJ.out, HT.out, HN.out⟩
        case measure =>
          simp only [World.iterPos, HT.out, Hit.out]
          have := Hwd.out
          omega
      · rw [if_neg h0] at hre
        rw [hre] at HRu HN
        have g0 : ((rr : Int) == 0) = false := by simp; omega
        clear hre
        go_wp2_with (go_at_call 17; refine HRu.out.mono ?_)
        rintro e W1 ⟨rfl, h1, b1, k1⟩
        have HJ := hidden (And.intro (show Lib.IsBuilderF 37 5 w.heap.size w.heap.size (Lib.byteCells (acc ++ Lib.encodeRune ((rr : Nat) : Int))) W1 by
          rw [Lib.byteCells_append, Lib.byteCells_encodeRune]; exact .inr h1) (HI2.out.2.trans b1))
        have HT := hidden (k1.iter Hit2.out hKne)
        clear h1 b1 k1
        go_wp2
        go_roundw
        case rel => exact ⟨pos + wd, _, HJ.out, HT.out, HN.out⟩
        case measure =>
          simp only [World.iterPos, HT.out, Hit.out]
          have := Hwd.out
          omega
    · have hnx : ∀ ty, (Instr.next (.pointer (some ⟨K, 0, none⟩)) true ty).run Tryd.prog wr = _ := fun ty => Lib.run_next_end_at wr K s pos ty hit hp
      have HE := hidden (show acc = repair l by
        have h := HF.out.1
        rw [List.drop_of_length_le (by have := Hsz.out; omega), repair_nil] at h
        simpa using h)
      have HSt := hidden (string_any w.heap.size w.heap.size acc wr HI.out.1 HI.out.2.size)
      clear hit
      go_wp2_with (go_at_call 18; refine HSt.out.mono ?_)
      rintro e W1 ⟨rfl, _, b1, _⟩
      have HF2 := hidden (Step.of_below (HI.out.2.trans b1))
      clear b1
      go_wp2
      go_ret
      exact ⟨by rw [← HE.out]; rfl, HF2.out⟩

theorem known_repair : (runesD (repair [97, 255, 0, 98])).length = 4 := by decide +kernel

set_option maxHeartbeats 1000000 in
theorem known_any (w : World) : Calls Tryd.prog 11 #[] w fun e w' => e = .returned (.bool true) ∧ Step (fun _ => False) w w' := by
  have HR := hidden (repair_any (.slice (some ⟨w.heap.size, 0, none⟩) 4 4) [97, 255, 0, 98] (w.alloc (.cells #[.int .u8 97, .int .u8 255, .int .u8 0, .int .u8 98] 5)) (by
    refine ⟨some ⟨w.heap.size, 0, none⟩, 4, rfl, fun h => (by cases h), fun a ha _ => ⟨w.heap.size, 0, (Option.some.inj ha).symm, fun k hk => ?_⟩⟩
    have : k = 0 ∨ k = 1 ∨ k = 2 ∨ k = 3 := by simp at hk; omega
    rcases this with rfl | rfl | rfl | rfl <;> simp) (by simp))
  obtain ⟨R, hR⟩ : ∃ R, repair [97, 255, 0, 98] = R := ⟨_, rfl⟩
  have hRl : R.length ≤ 16 := by rw [← hR]; exact repair_length _
  have hk := known_repair
  rw [hR] at HR hk
  have HC := hidden (fun wx => count_any R wx (by omega))
  rw [hk] at HC
  have HS0 := hidden ((Step.refl (fun _ => False) w).alloc (.cells #[.int .u8 97, .int .u8 255, .int .u8 0, .int .u8 98] 5))
  clear hR hRl hk
  go_enter Tryd.func11, Tryd.ntmps11
  go_wp2_with fail
  refine Calls.mono HR.out ?_
  rintro e w1 ⟨rfl, S1⟩
  have HS1 := hidden (HS0.out.made S1)
  clear S1
  go_wp2_with fail
  refine Calls.mono (HC.out _) ?_
  rintro e w2 ⟨rfl, S2⟩
  have HS2 := hidden (HS1.out.made S2)
  clear S2
  go_wp2
  go_ret
  exact ⟨rfl, HS2.out⟩

end Go.Proofs.YthomkgajilmphaaDoor
