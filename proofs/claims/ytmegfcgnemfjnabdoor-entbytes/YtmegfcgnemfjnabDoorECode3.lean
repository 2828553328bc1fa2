/-
  A text without escapes and spelt signs: the code's way; escapes that all know.
-/
import Derived.Test.YtmegfcgnemfjnabDoorECode2
import Derived.Test.YtmegfcgnemfjnabDoorEUnN
import Derived.Test.YtmegfcgnemfjnabDoorEShelf
import Derived.Test.YtmegfcgnemfjnabDoorURepair
import Derived.Lib.AppendIntMem
namespace Go.Proofs.YtmegfcgnemfjnabDoor
open Go.RowKit Go.Lib

theorem ext_one (s : ByteArray) (l : List UInt8) (h : s.data.toList = l) (a b : Nat) : (s.extract a b).data.toList = (l.take b).drop a := by
  rw [← h]; simp only [ByteArray.data_extract, Array.toList_extract, List.extract_eq_take_drop]
  rw [List.drop_take]
theorem builder_step {B b : Nat} {bs : List Value} {W W' : World} (h : Lib.IsBuilderF 29 5 B b bs W) (hb : Step (fun _ => False) W W') : Lib.IsBuilderF 29 5 B b bs W' := by
  have hb' := hb.below _ (Nat.le_refl _) (fun _ h => h.elim)
  have key : ∀ p, Lib.BuilderAtF 29 5 B b p bs W → Lib.BuilderAtF 29 5 B b p bs W' := fun p h => by
    have hlt := h.lt
    obtain ⟨hB, v, hv, hown, hne⟩ := h
    exact ⟨hB, v, (hb'.block b hlt).trans hv, hown.kept (row := none) ⟨hb'.os, hb'.tape, hb'.output, hb'.size, fun k hk _ => hb'.block k hk⟩ (Classical.em _), hne⟩
  exact h.elim (fun x => .inl (key _ x)) (fun x => .inr (key _ x))
theorem val_at (t : ByteArray) (l : List UInt8) (h : t.data.toList = l) : (Value.string t) = str l := by rw [list_ba h]

set_option maxHeartbeats 2000000 in
theorem next_any (s : ByteArray) (l : List UInt8) (h : s.data.toList = l) (hl : l.length ≤ 100000) (hne : l ≠ []) (w : World) (T : EW w) :
    Calls Tryd.prog 17 #[.string s] w fun e w' => e = .returned (atT (nextP l)) ∧ Step (fun _ => False) w w' := by
  have hsz : s.size = l.length := by rw [← h]; rfl
  have hsb : s.size ≤ 100000 := by omega
  have HS := hidden (Step.refl (fun _ => False) w)
  have HAt := hidden (at_any s l h hl w T)
  cases l with
  | nil => exact absurd rfl hne
  | cons c t =>
    have hp0 : 0 < s.size := by rw [hsz]; simp
    have pz : (0 : Int) < (s.size : Int) := by omega
    have pz1 : (1 : Int) ≤ (s.size : Int) := by omega
    have c0 := first_byte h hp0
    have hx1 : (s.extract 0 1).data.toList = [c] := by rw [ext_one s _ h]; simp
    have HX1 := hidden (val_at _ _ hx1)
    obtain ⟨x0, hx0⟩ : ∃ x0, x0 = c.toNat := ⟨_, rfl⟩
    rw [← hx0] at c0
    have HN := hidden (fun hn => (show nextP (c :: t) = if 0 < (atC (c :: t)).2 then atC (c :: t) else ([c], 1) by rw [nextP_cons, if_neg hn]))
    by_cases hb : x0 = 92
    · by_cases h1 : t = []
      · have HN2 := hidden (HN.out (fun hh => hh.2.1 h1))
        have z1 : ¬ ((1 : Int) < (s.size : Int)) := by rw [hsz, h1]; simp
        subst hb
        generalize atC (c :: t) = A at *
        by_cases ha : 0 < A.2
        · have hN := HN2.out
          rw [if_pos ha] at hN
          rw [hN]
          have za : (0 : Int) < ((A.2 : Nat) : Int) := by omega
          unfold atT at HAt ⊢
          obtain ⟨a1, a2⟩ := A
          dsimp only at HAt ⊢ za
          unfold str at HAt ⊢
          generalize (⟨a1.toArray⟩ : ByteArray) = sa at *
          clear h hl hne T hsz hx1 hx0 hN ha HN HN2
          go_enter Tryd.func17, Tryd.ntmps17
          go_wp2_with fail
          refine Calls.mono HAt.out ?_
          rintro e w2 ⟨rfl, S⟩
          go_wp2
          go_ret2
          exact ⟨rfl, S⟩
        · have hN := HN2.out
          rw [if_neg ha] at hN
          rw [hN]
          have za : ¬ ((0 : Int) < ((A.2 : Nat) : Int)) := by omega
          unfold atT at HAt ⊢
          obtain ⟨a1, a2⟩ := A
          dsimp only at HAt ⊢ za
          unfold str at HAt ⊢
          generalize (⟨a1.toArray⟩ : ByteArray) = sa at *
          clear h hl hne T hsz hx1 hx0 hN ha HN HN2
          go_enter Tryd.func17, Tryd.ntmps17
          go_wp2_with fail
          refine Calls.mono HAt.out ?_
          rintro e w2 ⟨rfl, S⟩
          go_wp2
          go_ret2
          exact ⟨congrArg (fun v => Ending.returned (Value.tuple #[v, .int .i64 1])) HX1.out, S⟩
      · have z1 : (1 : Int) < (s.size : Int) := by
          rw [hsz]
          cases t with
          | nil => exact absurd rfl h1
          | cons => simp; omega
        have hp1 : 1 < s.size := by omega
        have c1 : (s[1]'hp1).toNat = bN t 0 := by rw [getD_at s (c :: t) h 1 hp1]; rfl
        have hx2 : bN t 0 < 256 := bN_lt t 0
        have HSg := hidden (sign_any ((bN t 0 : Nat) : Int) (by omega) (by omega) w)
        cases hsg : signB ((bN t 0 : Nat) : Int) with
        | true =>
          rw [hsg] at HSg
          have hN : nextP (c :: t) = (t.take 1, 2) := by rw [nextP_cons, if_pos ⟨by rw [← hx0]; exact hb, h1, hsg⟩]
          have hx12 : (s.extract 1 2).data.toList = t.take 1 := by rw [ext_one s _ h]; simp
          have HX12 := hidden (val_at _ _ hx12)
          have pz2 : (2 : Int) ≤ (s.size : Int) := by omega
          rw [hN]
          generalize bN t 0 = x1 at *
          subst hb
          clear h hl hne T hsz hx1 hx0 hsg hN hx12 h1 HN
          go_enter Tryd.func17, Tryd.ntmps17
          go_wp2_with fail
          refine Calls.mono HSg.out ?_
          rintro e w' ⟨rfl, rfl⟩
          go_wp2
          go_ret2
          exact ⟨by unfold atT; rw [← HX12.out]; rfl, HS.out⟩
        | false =>
          rw [hsg] at HSg
          have HN2 := hidden (HN.out (fun hh => by rw [hsg] at hh; exact absurd hh.2.2 (by simp)))
          generalize bN t 0 = x1 at *
          subst hb
          clear hsg h1
          generalize atC (c :: t) = A at *
          by_cases ha : 0 < A.2
          · have hN := HN2.out
            rw [if_pos ha] at hN
            rw [hN]
            have za : (0 : Int) < ((A.2 : Nat) : Int) := by omega
            unfold atT at HAt ⊢
            obtain ⟨a1, a2⟩ := A
            dsimp only at HAt ⊢ za
            unfold str at HAt ⊢
            generalize (⟨a1.toArray⟩ : ByteArray) = sa at *
            clear h hl hne T hsz hx1 hx0 hN ha HN HN2
            go_enter Tryd.func17, Tryd.ntmps17
            go_wp2_with fail
            refine Calls.mono HSg.out ?_
            rintro e w' ⟨rfl, rfl⟩
            go_wp2_with fail
            refine Calls.mono HAt.out ?_
            rintro e w2 ⟨rfl, S⟩
            go_wp2
            go_ret2
            exact ⟨rfl, S⟩
          · have hN := HN2.out
            rw [if_neg ha] at hN
            rw [hN]
            have za : ¬ ((0 : Int) < ((A.2 : Nat) : Int)) := by omega
            unfold atT at HAt ⊢
            obtain ⟨a1, a2⟩ := A
            dsimp only at HAt ⊢ za
            unfold str at HAt ⊢
            generalize (⟨a1.toArray⟩ : ByteArray) = sa at *
            clear h hl hne T hsz hx1 hx0 hN ha HN HN2
            go_enter Tryd.func17, Tryd.ntmps17
            go_wp2_with fail
            refine Calls.mono HSg.out ?_
            rintro e w' ⟨rfl, rfl⟩
            go_wp2_with fail
            refine Calls.mono HAt.out ?_
            rintro e w2 ⟨rfl, S⟩
            go_wp2
            go_ret2
            exact ⟨congrArg (fun v => Ending.returned (Value.tuple #[v, .int .i64 1])) HX1.out, S⟩
    · have g0 : ((x0 : Int) == 92) = false := by rw [beq_eq_false_iff_ne]; omega
      have HN2 := hidden (HN.out (fun hh => hb (by rw [hx0]; exact hh.1)))
      clear hb
      generalize atC (c :: t) = A at *
      by_cases ha : 0 < A.2
      · have hN := HN2.out
        rw [if_pos ha] at hN
        rw [hN]
        have za : (0 : Int) < ((A.2 : Nat) : Int) := by omega
        unfold atT at HAt ⊢
        obtain ⟨a1, a2⟩ := A
        dsimp only at HAt ⊢ za
        unfold str at HAt ⊢
        generalize (⟨a1.toArray⟩ : ByteArray) = sa at *
        clear h hl hne T hsz hx1 hx0 hN ha HN HN2
        go_enter Tryd.func17, Tryd.ntmps17
        go_wp2_with fail
        refine Calls.mono HAt.out ?_
        rintro e w2 ⟨rfl, S⟩
        go_wp2
        go_ret2
        exact ⟨rfl, S⟩
      · have hN := HN2.out
        rw [if_neg ha] at hN
        rw [hN]
        have za : ¬ ((0 : Int) < ((A.2 : Nat) : Int)) := by omega
        unfold atT at HAt ⊢
        obtain ⟨a1, a2⟩ := A
        dsimp only at HAt ⊢ za
        unfold str at HAt ⊢
        generalize (⟨a1.toArray⟩ : ByteArray) = sa at *
        clear h hl hne T hsz hx1 hx0 hN ha HN HN2
        go_enter Tryd.func17, Tryd.ntmps17
        go_wp2_with fail
        refine Calls.mono HAt.out ?_
        rintro e w2 ⟨rfl, S⟩
        go_wp2
        go_ret2
        exact ⟨congrArg (fun v => Ending.returned (Value.tuple #[v, .int .i64 1])) HX1.out, S⟩

set_option maxHeartbeats 2000000 in
theorem unescape_any (l : List UInt8) (w : World) (hl : l.length ≤ 20000) (T : EW w) :
    Calls Tryd.prog 8 #[str l] w fun e w' => e = .returned (str (unesc l)) ∧ Step (fun _ => False) w w' := by
  obtain ⟨s, hs⟩ : ∃ s : ByteArray, s = ⟨l.toArray⟩ := ⟨_, rfl⟩
  have hsl : s.data.toList = l := by rw [hs]
  have hsz : s.size = l.length := by rw [hs]; exact ba_size l
  unfold str
  rw [← hs]
  have Hsl := hidden hsl
  have Hsz := hidden hsz
  have TT := hidden T
  have hsb : s.size ≤ 20000 := by omega
  clear hs hsl hsz hl T
  go_enter Tryd.func8, Tryd.ntmps8
  go_wp2_with fail
  refine Calls.mono (grow_any w.heap.size w.heap.size s.size _ (Nat.le_refl _) (heap_alloc_new w _) (by simp) (by omega)) ?_
  rintro e w1 ⟨rfl, hB1, hb1⟩
  have HB1 := hidden (And.intro (Lib.IsBuilderF.of (.inr hB1)) (((Below.refl w.heap.size w).alloc (Nat.le_refl _) (.cells #[.pointer none, .slice none 0 0] 29 (0, 0))).trans hb1))
  clear hB1 hb1
  go_wp2
  go_loopw [4] (fun iv wr => ∃ (i : Nat) (acc : List UInt8), iv = .int .i64 (i : Int) ∧ i ≤ s.size ∧ Hid (Lib.IsBuilderF 29 5 w.heap.size w.heap.size (Lib.byteCells acc) wr ∧ Below w.heap.size w wr) ∧ Hid (acc ++ unesc (l.drop i) = unesc l ∧ acc.length ≤ 4 * i)) (fun iv _ => s.size - (RowKit.intOf iv).toNat)
  case atStart => exact ⟨0, [], rfl, Nat.zero_le _, HB1.out, by simp, by simp⟩
  case round =>
    obtain ⟨i, acc, rfl, his, HB, HF⟩ := hrel
    by_cases hi : i < s.size
    · have i0 : (0 : Int) ≤ (i : Int) := by omega
      have iz : (i : Int) < (s.size : Int) := by omega
      have iz2 : (i : Int) ≤ (s.size : Int) := by omega
      have hil : i < l.length := by have := Hsz.out; omega
      have hne : l.drop i ≠ [] := by intro e; have := congrArg List.length e; simp at this; omega
      have HNx := hidden (next_any (s.extract i s.size) (l.drop i) (ext_drop s l Hsl.out i) (by rw [List.length_drop]; have := Hsz.out; omega) hne wr (TT.out.step (Step.of_below HB.out.2)))
      have hst := unesc_step (l.drop i) hne
      have hnl := nextP_le (l.drop i) hne
      have hnp := nextP_pos (l.drop i)
      rw [List.drop_drop] at hst
      rw [List.length_drop] at hnl
      unfold atT at HNx
      generalize nextP (l.drop i) = N at *
      obtain ⟨a, n⟩ := N
      dsimp only at *
      have hle2 : i + n ≤ s.size := by have := Hsz.out; omega
      have Hn := hidden hnp
      have HN := hidden (show (acc ++ a) ++ unesc (l.drop (i + n)) = unesc l ∧ (acc ++ a).length ≤ 4 * (i + n) by
        refine ⟨by rw [← HF.out.1, hst]; simp, ?_⟩
        rw [List.length_append]; have := HF.out.2; omega)
      have Ha := hidden (show acc.length + a.length ≤ 140737488355328 by have := HF.out.2; omega)
      obtain ⟨sa, hsa⟩ : ∃ sa : ByteArray, sa = ⟨a.toArray⟩ := ⟨_, rfl⟩
      have Hsa := hidden hsa
      unfold str at HNx
      rw [← hsa] at HNx
      clear hst hnl hnp hne hil hsa
      go_wp2_with fail
      refine Calls.mono HNx.out ?_
      rintro e w2 ⟨rfl, S⟩
      have HB2 := hidden (And.intro (builder_step HB.out.1 S) (HB.out.2.trans (S.below _ HB.out.2.size (fun _ h => h.elim))))
      clear S
      have HW := hidden (ws_any w.heap.size w.heap.size (Lib.byteCells acc) sa w2 HB2.out.1 (by rw [Lib.byteCells_length, Hsa.out, ba_size]; exact Ha.out) HB2.out.2.size)
      go_wp2_with fail
      refine Calls.mono HW.out ?_
      rintro e w3 ⟨rfl, h1, b1, k1⟩
      have HJ := hidden (And.intro (show Lib.IsBuilderF 29 5 w.heap.size w.heap.size (Lib.byteCells (acc ++ a)) w3 by
        rw [Lib.byteCells_append, ← Lib.strCells_toArray a, ← Hsa.out]; exact .inr h1) (HB2.out.2.trans b1))
      clear h1 b1 k1
      go_wp2
      go_roundw
      case rel => exact ⟨i + n, acc ++ a, by go_num, hle2, HJ.out, HN.out⟩
      case measure => simp [RowKit.intOf]; have := Hn.out; omega
    · have HE := hidden (show acc = unesc l by
        have h := HF.out.1
        rw [List.drop_of_length_le (by have := Hsz.out; omega), unesc_nil] at h
        simpa using h)
      have HSt := hidden (string_any w.heap.size w.heap.size acc wr HB.out.1 HB.out.2.size)
      have iz : ¬ ((i : Int) < (s.size : Int)) := by omega
      go_wp2_with fail
      refine Calls.mono HSt.out ?_
      rintro e W1 ⟨rfl, _, b1, _⟩
      have HF2 := hidden (Step.of_below (HB.out.2.trans b1))
      clear b1
      go_wp2
      go_ret
      exact ⟨by rw [← HE.out]; rfl, HF2.out⟩

theorem known_text : unesc [97, 92, 42, 38, 35, 51, 51, 59, 38, 120, 59] = [97, 42, 33, 38, 120, 59] := by decide +kernel

theorem eknown_any (w : World) (T : EW w) : Calls Tryd.prog 7 #[] w fun e w' => e = .returned (.bool true) ∧ Step (fun _ => False) w w' := by
  have hu := unescape_any [97, 92, 42, 38, 35, 51, 51, 59, 38, 120, 59] w (by simp) T
  rw [known_text] at hu
  have HU := hidden hu
  clear hu
  go_enter Tryd.func7, Tryd.ntmps7
  go_wp2_with fail
  refine Calls.mono HU.out ?_
  rintro e w2 ⟨rfl, S⟩
  go_wp2
  go_ret
  exact ⟨rfl, S⟩

end Go.Proofs.YtmegfcgnemfjnabDoor
