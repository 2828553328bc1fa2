/-
  Bytes as text: the page's Repair.
-/
import Derived.Test.YthomkgajilmphaaDoorUPageV
import Derived.Test.YthomkgajilmphaaDoorUEnc
import Derived.Lib.AppendStr
namespace Go.Proofs.YthomkgajilmphaaDoor
open Go.RowKit Go.Lib

theorem strCells_u8s (l : List UInt8) : Lib.strCells ⟨l.toArray⟩ = u8s (l.map UInt8.toNat) := by simp [Lib.strCells, u8s]
/-- A row of bytes of the call's own. -/
structure OwnB (w0 w : World) (v : Value) (l : List UInt8) : Prop where
  own : w.ownsRow w0.heap.size 5 1 v l.length (u8s (l.map UInt8.toNat))
theorem OwnB.nil (w0 w : World) : OwnB w0 w (.slice none 0 0) [] := ⟨World.ownsRow_nil _ _ _ _⟩
theorem OwnB.base {w0 w : World} {v : Value} {l : List UInt8} (h : OwnB w0 w v l) : w.ownsRow 0 5 1 v l.length (u8s (l.map UInt8.toNat)) := by
  obtain ⟨h1, h2⟩ := h.own
  refine ⟨h1, ?_⟩
  rcases h2 with h2 | ⟨g, cap, cur, e, hb, rest⟩
  · exact .inl h2
  · exact .inr ⟨g, cap, cur, e, Nat.zero_le _, rest⟩
theorem OwnB.rb {w0 w : World} {v : Value} {l : List UInt8} (h : OwnB w0 w v l) : Rb w v l := Rd.of_own h.base
theorem OwnB.new {w0 w : World} {v : Value} {l : List UInt8} (h : OwnB w0 w v l) : ∀ k, v.ownBlock = some k → w0.heap.size ≤ k := by
  intro k hk
  rcases h.own.2 with ⟨e, _⟩ | ⟨g, cap, cur, e, hb, _⟩
  · rw [e] at hk; simp [Value.ownBlock] at hk
  · rw [e] at hk; simp [Value.ownBlock] at hk; omega
theorem OwnB.keep {w0 w w' : World} {v : Value} {l : List UInt8} (h : OwnB w0 w v l) (hs : Step (fun _ => False) w w') : OwnB w0 w' v l := by
  refine ⟨h.own.1, ?_⟩
  rcases h.own.2 with hn | ⟨g, cap, cur, e, hb, hgg, rest⟩
  · exact .inl hn
  · refine .inr ⟨g, cap, cur, e, hb, ?_, rest⟩
    rw [hs.block g (Array.getElem?_eq_some_iff.1 hgg).1 (fun h => h)]
    exact hgg

set_option maxHeartbeats 2000000 in
theorem prepair_any (l : List UInt8) (w : World) (hl : l.length ≤ 100000) :
    Calls Tryd.prog 8 #[str l] w fun e w' => e = .returned (str (repair l)) ∧ Step (fun _ => False) w w' := by
  obtain ⟨s, hs⟩ : ∃ s : ByteArray, s = ⟨l.toArray⟩ := ⟨_, rfl⟩
  have hsl : s.data.toList = l := by rw [hs]
  have hsz : s.size = l.length := by rw [hs]; exact ba_size l
  unfold str
  rw [← hs]
  have Hsl := hidden hsl
  have Hsz := hidden hsz
  have hsb : s.size ≤ 100000 := by omega
  clear hs hsl hsz hl
  go_enter Tryd.func8, Tryd.ntmps8
  go_wp2
  go_loopw [3, 4] (fun bv iv wr => ∃ (i : Nat) (acc : List UInt8), iv = .int .i64 (i : Int) ∧ i ≤ s.size ∧ Hid (OwnB w wr bv acc ∧ Step (fun _ => False) w wr) ∧ Hid (acc ++ repair (l.drop i) = repair l ∧ acc.length ≤ 4 * i)) (fun _ iv _ => s.size - (RowKit.intOf iv).toNat)
  case atStart => exact ⟨0, [], rfl, Nat.zero_le _, ⟨OwnB.nil _ _, Step.refl _ w⟩, by rw [List.drop_zero]; rfl, by simp⟩
  case round =>
    obtain ⟨i, acc, rfl, his, HO, HF⟩ := hrel
    by_cases hi : i < s.size
    · have i0 : (0 : Int) ≤ (i : Int) := by omega
      have iz : (i : Int) < (s.size : Int) := by omega
      have iz2 : (i : Int) ≤ (s.size : Int) := by omega
      have hil : i < l.length := by have := Hsz.out; omega
      have hne := drop_ne hil
      have HR := hidden (prune_any (s.extract i s.size) (l.drop i) (ext_drop s l Hsl.out i) (by rw [List.length_drop]; have := Hsz.out; omega) (by rw [List.length_drop]; omega) wr)
      have hwd := decodeL_width (l.drop i)
      have hle := decodeL_le (l.drop i) hne
      have hst := repair_step (l.drop i) hne
      have hok := decodeL_okR (l.drop i)
      rw [List.length_drop] at hle
      rw [List.drop_drop] at hst
      unfold runeAns at HR
      generalize decodeL (l.drop i) = d at *
      generalize good (l.drop i) = gd at *
      obtain ⟨rr, wd⟩ := d
      dsimp only at HR hst hwd hle hok
      have Hw := hidden hwd
      have hle2 : i + wd ≤ s.size := by have := Hsz.out; omega
      have hel := enc_len (repN rr)
      have HN := hidden (show (acc ++ Lib.encodeRune ((repN rr : Nat) : Int)) ++ repair (l.drop (i + wd)) = repair l ∧ (acc ++ Lib.encodeRune ((repN rr : Nat) : Int)).length ≤ 4 * (i + wd) by
        refine ⟨?_, ?_⟩
        · rw [← HF.out.1, hst]; simp
        · rw [List.length_append]; have := HF.out.2; have := Hw.out; omega)
      have HE := hidden (fun wx => pencode_ok (repN rr) (repN_ok rr hok) wx)
      have Hel := hidden hel
      have hre : repN rr = if rr = 0 then 65533 else rr := rfl
      clear hst hwd hle hne hok hel
      by_cases h0 : rr = 0
      · rw [if_pos h0] at hre
        rw [hre] at HN HE Hel
        subst h0
        clear hre
        go_wp2_with (go_at_call 19; refine HR.out.mono ?_; rintro e w' ⟨rfl, rfl⟩)
        have hs4 : (⟨(Lib.encodeRune ((65533 : Nat) : Int)).toArray⟩ : ByteArray).size ≤ 4 := by rw [ba_size]; exact Hel.out.2
        have HEx := hidden (fun wx => by have := HE.out wx; unfold str at this; exact this)
        obtain ⟨se, hse⟩ : ∃ s : ByteArray, (⟨(Lib.encodeRune ((65533 : Nat) : Int)).toArray⟩ : ByteArray) = s := ⟨_, rfl⟩
        simp only [hse] at HEx hs4
        have Hse := hidden hse
        clear hse
        go_wp2_with fail
        refine Calls.mono (HEx.out _) ?_
        rintro e w2 ⟨rfl, S2⟩
        have HO2 := hidden (And.intro (HO.out.1.keep S2) (HO.out.2.made S2))
        clear S2
        obtain ⟨i9, hi9, hz0, hz1, hz2⟩ := info_parts Tryd.info5
        have hb1 : acc.length + se.size ≤ maxLen := by have := HF.out.2; unfold maxLen; omega
        have hb2 : acc.length + se.size ≤ 140737488355328 := by have := HF.out.2; omega
        go_wp2_with (at_builtin; refine Lib.wpList_append_own_string _ rfl (.tmp 22) (.tmp 24) 22 9 rfl w.heap.size 5 i9 Tryd.underlying22 Tryd.underlying9 hi9 hz0 hz1 hz2 _ acc.length _ rfl HO2.out.1.own se rfl hb1 hb2 HO2.out.2.size ?_)
        intro v3 w3 hown3 hgrow3 hnil3
        have HF3 := hidden (And.intro (show OwnB w w3 v3 (acc ++ Lib.encodeRune ((65533 : Nat) : Int)) from ⟨by
          rw [List.length_append, ← ba_size (Lib.encodeRune ((65533 : Nat) : Int)), Hse.out, List.map_append, u8s_append, ← strCells_u8s (Lib.encodeRune ((65533 : Nat) : Int)), Hse.out]
          exact hown3⟩) (HO2.out.2.grown hgrow3 (fun k hk => .inr (HO2.out.1.new k hk))))
        clear hown3 hgrow3 hnil3
        go_wp2
        go_roundw
        case rel => exact ⟨i + wd, _, by go_num, hle2, HF3.out, HN.out⟩
        case measure => simp [RowKit.intOf]; have := Hw.out; omega
      · rw [if_neg h0] at hre
        rw [hre] at HN HE Hel
        have g0 : ((rr : Int) == 0) = false := by simp; omega
        clear hre h0
        go_wp2_with (go_at_call 19; refine HR.out.mono ?_; rintro e w' ⟨rfl, rfl⟩)
        have hs4 : (⟨(Lib.encodeRune ((rr : Nat) : Int)).toArray⟩ : ByteArray).size ≤ 4 := by rw [ba_size]; exact Hel.out.2
        have HEx := hidden (fun wx => by have := HE.out wx; unfold str at this; exact this)
        obtain ⟨se, hse⟩ : ∃ s : ByteArray, (⟨(Lib.encodeRune ((rr : Nat) : Int)).toArray⟩ : ByteArray) = s := ⟨_, rfl⟩
        simp only [hse] at HEx hs4
        have Hse := hidden hse
        clear hse
        go_wp2_with fail
        refine Calls.mono (HEx.out _) ?_
        rintro e w2 ⟨rfl, S2⟩
        have HO2 := hidden (And.intro (HO.out.1.keep S2) (HO.out.2.made S2))
        clear S2
        obtain ⟨i9, hi9, hz0, hz1, hz2⟩ := info_parts Tryd.info5
        have hb1 : acc.length + se.size ≤ maxLen := by have := HF.out.2; unfold maxLen; omega
        have hb2 : acc.length + se.size ≤ 140737488355328 := by have := HF.out.2; omega
        go_wp2_with (at_builtin; refine Lib.wpList_append_own_string _ rfl (.tmp 22) (.tmp 24) 22 9 rfl w.heap.size 5 i9 Tryd.underlying22 Tryd.underlying9 hi9 hz0 hz1 hz2 _ acc.length _ rfl HO2.out.1.own se rfl hb1 hb2 HO2.out.2.size ?_)
        intro v3 w3 hown3 hgrow3 hnil3
        have HF3 := hidden (And.intro (show OwnB w w3 v3 (acc ++ Lib.encodeRune ((rr : Nat) : Int)) from ⟨by
          rw [List.length_append, ← ba_size (Lib.encodeRune ((rr : Nat) : Int)), Hse.out, List.map_append, u8s_append, ← strCells_u8s (Lib.encodeRune ((rr : Nat) : Int)), Hse.out]
          exact hown3⟩) (HO2.out.2.grown hgrow3 (fun k hk => .inr (HO2.out.1.new k hk))))
        clear hown3 hgrow3 hnil3
        go_wp2
        go_roundw
        case rel => exact ⟨i + wd, _, by go_num, hle2, HF3.out, HN.out⟩
        case measure => simp [RowKit.intOf]; have := Hw.out; omega
    · have HE := hidden (show acc = repair l by
        have h := HF.out.1
        rw [List.drop_of_length_le (by have := Hsz.out; omega), repair_nil] at h
        simpa using h)
      have hcv := conv_any HO.out.1.rb
      go_wp2
      go_ret
      exact ⟨by rw [← HE.out]; rfl, HO.out.2⟩

end Go.Proofs.YthomkgajilmphaaDoor
