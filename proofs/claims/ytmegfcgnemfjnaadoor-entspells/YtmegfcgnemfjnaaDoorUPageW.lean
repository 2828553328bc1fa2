/-
  The page's Runes: the row that it makes.
-/
import Derived.Test.YtmegfcgnemfjnaaDoorUPageU
namespace Go.Proofs.YtmegfcgnemfjnaaDoor
open Go.RowKit Go.Lib

theorem Tryd.info21 : (Tryd.prog.info? 21).map (fun i => (i.zero, i.size, i.bytes)) = some (some (.int .i32 0), 1, 4) := by kernel_rfl
def i32s (L : List Nat) : List Value := L.map fun (x : Nat) => Value.int .i32 (x : Int)
theorem one_i32 (x : Nat) : ∀ u ∈ [Value.int .i32 (x : Int)], u.oneCell' = true := by
  intro u hu
  simp at hu
  subst hu
  rfl

set_option maxHeartbeats 2000000 in
theorem prow_any (l : List UInt8) (w : World) (hl : l.length ≤ 100000) :
    Calls Tryd.prog 36 #[str l] w fun e w' => ∃ ao cap, e = .returned (.slice ao (runesD l).length cap) ∧ w'.ownsRow 0 21 1 (.slice ao (runesD l).length cap) (runesD l).length (i32s (runesD l)) ∧ Step (fun _ => False) w w' := by
  obtain ⟨s, hs⟩ : ∃ s : ByteArray, s = ⟨l.toArray⟩ := ⟨_, rfl⟩
  have hsl : s.data.toList = l := by rw [hs]
  have hsz : s.size = l.length := by rw [hs]; exact ba_size l
  unfold str
  rw [← hs]
  have Hsl := hidden hsl
  have Hsz := hidden hsz
  have hsb : s.size ≤ 100000 := by omega
  clear hs hsl hsz hl
  go_enter Tryd.func36, Tryd.ntmps36
  go_wp2
  go_loopw [3, 4] (fun bv iv wr => ∃ (i : Nat) (L : List Nat), iv = .int .i64 (i : Int) ∧ i ≤ s.size ∧ Hid (wr.ownsRow 0 21 1 bv L.length (i32s L) ∧ (∀ k, bv.ownBlock = some k → w.heap.size ≤ k) ∧ Step (fun _ => False) w wr) ∧ Hid (L ++ runesD (l.drop i) = runesD l ∧ L.length ≤ i)) (fun _ iv _ => s.size - (RowKit.intOf iv).toNat)
  case atStart => exact ⟨0, [], rfl, Nat.zero_le _, ⟨World.ownsRow_nil _ _ _ _, fun k h => by simp [Value.ownBlock] at h, Step.refl _ w⟩, by rw [List.drop_zero]; rfl, by simp⟩
  case round =>
    obtain ⟨i, L, rfl, his, HO, HF⟩ := hrel
    by_cases hi : i < s.size
    · have i0 : (0 : Int) ≤ (i : Int) := by omega
      have iz : (i : Int) < (s.size : Int) := by omega
      have iz2 : (i : Int) ≤ (s.size : Int) := by omega
      have hil : i < l.length := by have := Hsz.out; omega
      have hne := drop_ne hil
      have HR := hidden (fun wx => prune_any (s.extract i s.size) (l.drop i) (ext_drop s l Hsl.out i) (by rw [List.length_drop]; have := Hsz.out; omega) (by rw [List.length_drop]; omega) wx)
      have hwd := decodeL_width (l.drop i)
      have hle := decodeL_le (l.drop i) hne
      have hst := runesD_step (l.drop i) hne
      rw [List.length_drop] at hle
      rw [List.drop_drop] at hst
      unfold runeAns at HR
      generalize decodeL (l.drop i) = d at *
      generalize good (l.drop i) = gd at *
      obtain ⟨rr, wd⟩ := d
      dsimp only at HR hst hwd hle
      have Hw := hidden hwd
      have hle2 : i + wd ≤ s.size := by have := Hsz.out; omega
      have HN := hidden (show (L ++ [rr]) ++ runesD (l.drop (i + wd)) = runesD l ∧ (L ++ [rr]).length ≤ i + wd by
        refine ⟨?_, ?_⟩
        · rw [← HF.out.1, hst]; simp
        · have := HF.out.2; have := Hw.out; simp; omega)
      have hm3 : L.length + 1 ≤ maxLen := by have := HF.out.2; unfold maxLen; omega
      have hm4 : (L.length + 1) * 4 ≤ 140737488355328 := by have := HF.out.2; omega
      clear hst hwd hle hne
      go_wp2_with fail
      refine Calls.mono (HR.out _) ?_
      rintro e w2 ⟨rfl, hw2⟩
      have HO2 := hidden (show w2.ownsRow 0 21 1 _ L.length (i32s L) ∧ _ ∧ Step (fun _ => False) w w2 by rw [hw2]; exact HO.out)
      clear hw2
      obtain ⟨i9, hi9, hz0, hz1, hz2⟩ := info_parts Tryd.info21
      go_wp2_with (at_builtin; refine wpList_append_at _ rfl (.tmp 20) (.tmp 22) 49 rfl 21 i9 (.int .i32 0) 1 4 Tryd.underlying49 hi9 hz0 hz1 hz2 rfl (by decide) _ L.length (i32s L) rfl (HO2.out.1 |> fun h => owns_step h ((Step.refl (fun _ => False) w2).alloc _) (fun _ _ h => h)) ⟨w2.heap.size, 0, none⟩ 1 1 [.int .i32 (rr : Int)] rfl rfl (cell_one_new _ _ _) (one_i32 rr) hm3 hm4 ?_)
      intro v3 w3 hown3 hgrow3 hnil3 hb3
      have HF3 := hidden (show w3.ownsRow 0 21 1 v3 (L ++ [rr]).length (i32s (L ++ [rr])) ∧ (∀ k, v3.ownBlock = some k → w.heap.size ≤ k) ∧ Step (fun _ => False) w w3 by
        refine ⟨by simpa [i32s] using hown3, fun k hk => ?_, (HO2.out.2.2.alloc _).grown hgrow3 (fun k hk => .inr (HO2.out.2.1 k hk))⟩
        rcases hb3 with e | e
        · exact HO2.out.2.1 k (by rw [← e]; exact hk)
        · rw [e] at hk
          have h1 := Option.some.inj hk
          have h2 := HO2.out.2.2.size
          omega)
      clear hown3 hgrow3 hnil3 hb3
      go_wp2
      go_roundw
      case rel => exact ⟨i + wd, _, by go_num, hle2, HF3.out, HN.out⟩
      case measure => simp [RowKit.intOf]; have := Hw.out; omega
    · have HE := hidden (show L = runesD l by
        have h := HF.out.1
        rw [List.drop_of_length_le (by have := Hsz.out; omega), runesD_nil] at h
        simpa using h)
      obtain ⟨ax, cx, hv⟩ := own_slice HO.out.1
      have Hv := hidden hv
      clear hv
      go_wp2
      go_ret
      refine ⟨ax, cx, by rw [← HE.out]; exact congrArg Ending.returned Hv.out, ?_, HO.out.2.2⟩
      rw [← HE.out, ← Hv.out]
      exact HO.out.1

end Go.Proofs.YtmegfcgnemfjnaaDoor
