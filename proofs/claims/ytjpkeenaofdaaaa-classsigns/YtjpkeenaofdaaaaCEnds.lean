/-
  The first and the last rune: the code's and the page's.
-/
import Derived.Test.YtjpkeenaofdaaaaCLastN
import Derived.Test.YtjpkeenaofdaaaaUPageW
namespace Go.Proofs.Ytjpkeenaofdaaaa
open Go.RowKit Go.Lib

theorem first_any (l : List UInt8) (w : World) (hl : l.length ≤ 140737488355328) :
    Calls Try.prog 13 #[str l] w fun e w' => e = .returned (.int .i32 ((firstD l : Nat) : Int)) ∧ Step (fun _ => False) w w' := by
  obtain ⟨s, hs⟩ : ∃ s : ByteArray, s = ⟨l.toArray⟩ := ⟨_, rfl⟩
  have hsl : s.data.toList = l := by rw [hs]
  have hsz : s.size = l.length := by rw [hs]; exact ba_size l
  unfold str
  rw [← hs]
  have Hsl := hidden hsl
  have Hsz := hidden hsz
  have Hl := hidden hl
  obtain ⟨N, hN⟩ : ∃ N, firstD l = N := ⟨_, rfl⟩
  rw [hN]
  have HN := hidden hN
  clear hs hsl hN hsz hl
  go_enter Try.func13, Try.ntmps13
  go_wp2
  go_loopw [] (fun wr => wr.heap[w.heap.size]? = some (.stringIter s 0) ∧ Hid (Step (fun _ => False) w wr)) (fun wr => s.size - wr.iterPos w.heap.size)
  case atStart =>
    refine ⟨by simpa using World.iter_heap w s 0, ?_⟩
    exact (Step.refl _ w).alloc _
  case round =>
    obtain ⟨hit, HS⟩ := hrel
    by_cases hp : 0 < s.size
    · have hnx : ∀ ty, (Instr.next (.pointer (some ⟨w.heap.size, 0, none⟩)) true ty).run Try.prog wr = _ := fun ty => Lib.run_next_any_at wr w.heap.size s 0 ty hit hp
      have hp2 : 0 < l.length := by have := Hsz.out; omega
      have hd := dec_at s l Hsl.out 0
      have hle := decodeL_width (l.drop 0)
      rw [hd] at hnx
      have HK := hidden (show (decodeL (l.drop 0)).1 = N by
        rw [← HN.out, List.drop_zero]
        unfold firstD
        rw [if_neg (by intro e; rw [e] at hp2; simp at hp2)])
      generalize (decodeL (l.drop 0)).2 = wd at *
      generalize (decodeL (l.drop 0)).1 = rr at *
      have hit2 := Lib.iterAt_heap wr w.heap.size s 0 (0 + wd) hit
      clear hd hle hp2
      go_wp2
      go_ret
      exact ⟨by rw [← HK.out]; rfl, HS.out.iterAt (Nat.le_refl _) _ _⟩
    · have hnx : ∀ ty, (Instr.next (.pointer (some ⟨w.heap.size, 0, none⟩)) true ty).run Try.prog wr = _ := fun ty => Lib.run_next_end_at wr w.heap.size s 0 ty hit hp
      have HE := hidden (show 10 = N by
        rw [← HN.out]
        have : l = [] := List.eq_nil_of_length_eq_zero (by have := Hsz.out; omega)
        rw [this]; rfl)
      go_wp2
      go_ret
      exact ⟨by rw [← HE.out]; rfl, HS.out⟩

set_option maxHeartbeats 1000000 in
theorem last_any (l : List UInt8) (w : World) (hl : l.length ≤ 140737488355328) :
    Calls Try.prog 15 #[str l] w fun e w' => e = .returned (.int .i32 ((lastD l : Nat) : Int)) ∧ Step (fun _ => False) w w' := by
  obtain ⟨m, hm⟩ : ∃ m, l.length - 4 = m := ⟨_, rfl⟩
  obtain ⟨q, hq⟩ : ∃ q, l.drop m = q := ⟨_, rfl⟩
  have hlast := last_four l
  rw [hm, hq] at hlast
  obtain ⟨s0, hs0⟩ : ∃ s : ByteArray, s = ⟨l.toArray⟩ := ⟨_, rfl⟩
  have hsl0 : s0.data.toList = l := by rw [hs0]
  have hsz0 : s0.size = l.length := by rw [hs0]; exact ba_size l
  obtain ⟨s, hs⟩ : ∃ s, s0.extract m s0.size = s := ⟨_, rfl⟩
  have hsl : s.data.toList = q := by rw [← hs, ← hq]; exact ext_drop s0 l hsl0 m
  have hsz : s.size = q.length := by rw [← hsl]; rfl
  unfold str
  rw [← hs0]
  have Hsl := hidden hsl
  have Hsz := hidden hsz
  obtain ⟨N, hN⟩ : ∃ N, lastD l = N := ⟨_, rfl⟩
  rw [hN]
  have HN := hidden (show lastOr 10 (runesD q) = N by rw [← hN, hlast]; rfl)
  have hml : m ≤ s0.size := by omega
  have hmz : (m : Int) ≤ (s0.size : Int) := by omega
  have m0 : (0 : Int) ≤ (m : Int) := by omega
  have hsb : s0.size ≤ 140737488355328 := by omega
  by_cases h4 : s0.size ≤ 4
  · have hm0 : m = 0 := by omega
    have hss : s0 = s := by
      rw [← hs, hm0]
      exact (ByteArray.extract_zero_size).symm
    have hz : ¬ ((0 : Int) < (s0.size : Int) - 4) := by omega
    subst hss
    clear hs0 hsl hN hsz hl hlast hsl0 hsz0 hm hq hs
    go_enter Try.func15, Try.ntmps15
    go_wp2
    go_loopw [3] (fun n wr => ∃ (pos : Nat) (L : List Nat), n = .int .i32 ((lastOr 10 L : Nat) : Int) ∧ wr.heap[w.heap.size]? = some (.stringIter s0 pos) ∧ Hid (Step (fun _ => False) w wr) ∧ Hid (L ++ runesD (q.drop pos) = runesD q ∧ pos ≤ q.length)) (fun _ wr => s0.size - wr.iterPos w.heap.size)
    case atStart =>
      refine ⟨0, [], rfl, by simpa using World.iter_heap w s0 0, ?_, ?_⟩
      · exact (Step.refl _ w).alloc _
      · exact ⟨by rw [List.drop_zero]; rfl, Nat.zero_le _⟩
    case round =>
      obtain ⟨pos, L, rfl, hit, HS, HF⟩ := hrel
      by_cases hp : pos < s0.size
      · have hnx : ∀ ty, (Instr.next (.pointer (some ⟨w.heap.size, 0, none⟩)) true ty).run Try.prog wr = _ := fun ty => Lib.run_next_any_at wr w.heap.size s0 pos ty hit hp
        have hp2 : pos < q.length := by have := Hsz.out; omega
        have hd := dec_at s0 q Hsl.out pos
        have hwd := decodeL_width (q.drop pos)
        have hle := decodeL_le (q.drop pos) (drop_ne hp2)
        have hst := runesD_step (q.drop pos) (drop_ne hp2)
        rw [List.length_drop] at hle
        rw [List.drop_drop] at hst
        rw [hd] at hnx
        generalize (decodeL (q.drop pos)).2 = wd at *
        generalize (decodeL (q.drop pos)).1 = rr at *
        have HK := hidden (show (L ++ [rr]) ++ runesD (q.drop (pos + wd)) = runesD q ∧ pos + wd ≤ q.length by
          refine ⟨?_, by omega⟩
          rw [← HF.out.1, hst]; simp)
        have hit2 := Lib.iterAt_heap wr w.heap.size s0 pos (pos + wd) hit
        have HW := hidden hwd
        have HL := hidden (lastOr_snoc 10 L rr)
        clear hd hle hst hwd hp2
        go_wp2
        go_roundw
        case rel => exact ⟨pos + wd, L ++ [rr], by rw [HL.out], hit2, HS.out.iterAt (Nat.le_refl _) _ _, HK.out⟩
        case measure =>
          simp only [World.iterPos, hit2, hit]
          have := HW.out
          omega
      · have hnx : ∀ ty, (Instr.next (.pointer (some ⟨w.heap.size, 0, none⟩)) true ty).run Try.prog wr = _ := fun ty => Lib.run_next_end_at wr w.heap.size s0 pos ty hit hp
        have HE := hidden (show lastOr 10 L = N by
          have h := HF.out.1
          rw [List.drop_of_length_le (by have := Hsz.out; omega), runesD_nil] at h
          rw [← HN.out, ← h]; simp)
        go_wp2
        go_ret
        exact ⟨by rw [HE.out]; rfl, HS.out⟩
  · have hz : (0 : Int) < (s0.size : Int) - 4 := by omega
    have hto : ((s0.size : Int) - 4).toNat = m := by omega
    clear hs0 hsl hN hsz hl hlast hsl0 hsz0 hm hq
    go_enter Try.func15, Try.ntmps15
    go_wp2
    go_loopw [3] (fun n wr => ∃ (pos : Nat) (L : List Nat), n = .int .i32 ((lastOr 10 L : Nat) : Int) ∧ wr.heap[w.heap.size]? = some (.stringIter s pos) ∧ Hid (Step (fun _ => False) w wr) ∧ Hid (L ++ runesD (q.drop pos) = runesD q ∧ pos ≤ q.length)) (fun _ wr => s.size - wr.iterPos w.heap.size)
    case atStart =>
      refine ⟨0, [], rfl, by simpa using World.iter_heap w s 0, ?_, ?_⟩
      · exact (Step.refl _ w).alloc _
      · exact ⟨by rw [List.drop_zero]; rfl, Nat.zero_le _⟩
    case round =>
      obtain ⟨pos, L, rfl, hit, HS, HF⟩ := hrel
      by_cases hp : pos < s.size
      · have hnx : ∀ ty, (Instr.next (.pointer (some ⟨w.heap.size, 0, none⟩)) true ty).run Try.prog wr = _ := fun ty => Lib.run_next_any_at wr w.heap.size s pos ty hit hp
        have hp2 : pos < q.length := by have := Hsz.out; omega
        have hd := dec_at s q Hsl.out pos
        have hwd := decodeL_width (q.drop pos)
        have hle := decodeL_le (q.drop pos) (drop_ne hp2)
        have hst := runesD_step (q.drop pos) (drop_ne hp2)
        rw [List.length_drop] at hle
        rw [List.drop_drop] at hst
        rw [hd] at hnx
        generalize (decodeL (q.drop pos)).2 = wd at *
        generalize (decodeL (q.drop pos)).1 = rr at *
        have HK := hidden (show (L ++ [rr]) ++ runesD (q.drop (pos + wd)) = runesD q ∧ pos + wd ≤ q.length by
          refine ⟨?_, by omega⟩
          rw [← HF.out.1, hst]; simp)
        have hit2 := Lib.iterAt_heap wr w.heap.size s pos (pos + wd) hit
        have HW := hidden hwd
        have HL := hidden (lastOr_snoc 10 L rr)
        clear hd hle hst hwd hp2
        go_wp2
        go_roundw
        case rel => exact ⟨pos + wd, L ++ [rr], by rw [HL.out], hit2, HS.out.iterAt (Nat.le_refl _) _ _, HK.out⟩
        case measure =>
          simp only [World.iterPos, hit2, hit]
          have := HW.out
          omega
      · have hnx : ∀ ty, (Instr.next (.pointer (some ⟨w.heap.size, 0, none⟩)) true ty).run Try.prog wr = _ := fun ty => Lib.run_next_end_at wr w.heap.size s pos ty hit hp
        have HE := hidden (show lastOr 10 L = N by
          have h := HF.out.1
          rw [List.drop_of_length_le (by have := Hsz.out; omega), runesD_nil] at h
          rw [← HN.out, ← h]; simp)
        go_wp2
        go_ret
        exact ⟨by rw [HE.out]; rfl, HS.out⟩

theorem pfirst_any (l : List UInt8) (w : World) (hl : l.length ≤ 100000) :
    Calls Try.prog 14 #[str l] w fun e w' => e = .returned (.int .i32 ((firstD l : Nat) : Int)) ∧ w' = w := by
  by_cases hn : l = []
  · subst hn
    go_enter Try.func14, Try.ntmps14
    go_wp2
    go_ret
    exact ⟨rfl, rfl⟩
  · have hp : 0 < l.length := List.length_pos_iff.2 hn
    obtain ⟨s, hs⟩ : ∃ s : ByteArray, s = ⟨l.toArray⟩ := ⟨_, rfl⟩
    have hsl : s.data.toList = l := by rw [hs]
    have HR := hidden (fun wx => prune_any s l hsl (by omega) hp wx)
    have HF := hidden (show firstD l = (decodeL l).1 by unfold firstD; rw [if_neg hn])
    have hne : s.toList.isEmpty = false := by
      rw [ByteArray.toList_eq, hsl]
      cases l with
      | nil => exact absurd rfl hn
      | cons _ _ => rfl
    unfold str
    rw [← hs]
    unfold runeAns at HR
    clear hs hsl hp hl
    go_enter Try.func14, Try.ntmps14
    go_wp2_with fail
    refine Calls.mono (HR.out _) ?_
    rintro e w2 ⟨rfl, rfl⟩
    go_wp2
    go_ret
    exact ⟨by rw [HF.out]; rfl, rfl⟩

theorem plast_any (l : List UInt8) (w : World) (hl : l.length ≤ 100000) :
    Calls Try.prog 16 #[str l] w fun e w' => e = .returned (.int .i32 ((lastD l : Nat) : Int)) ∧ Step (fun _ => False) w w' := by
  have HR := hidden (prow_any l w hl)
  obtain ⟨N, hN⟩ : ∃ N, lastD l = N := ⟨_, rfl⟩
  rw [hN]
  have HN := hidden (show lastOr 10 (runesD l) = N from hN)
  have hlen := runesD_length l
  generalize runesD l = R at *
  clear hN
  by_cases hR : R = []
  · subst hR
    have HN2 := hidden (show N = 10 from HN.out.symm)
    go_enter Try.func16, Try.ntmps16
    go_wp2_with fail
    refine Calls.mono HR.out ?_
    rintro e w1 ⟨ao, cap, rfl, _, S1⟩
    have HS := hidden S1
    clear S1
    go_wp2
    go_ret
    exact ⟨by rw [HN2.out]; rfl, HS.out⟩
  · obtain ⟨A, x, rfl⟩ : ∃ A x, R = A ++ [x] := ⟨R.dropLast, R.getLast hR, (List.dropLast_concat_getLast hR).symm⟩
    have hx := HN.out
    rw [lastOr_snoc] at hx
    subst hx
    obtain ⟨k, hk⟩ : ∃ k, A.length = k := ⟨_, rfl⟩
    have hlen2 : (A ++ [x]).length = k + 1 := by simp [hk]
    have HR2 := hidden (show Calls Try.prog 22 #[str l] w fun e w' => ∃ g cap, e = .returned (.slice (some ⟨g, 0, none⟩) (k + 1) cap) ∧ w'.cell? ⟨g, k, none⟩ = some (.int .i32 ((x : Nat) : Int)) ∧ Step (fun _ => False) w w' by
      refine Calls.mono HR.out ?_
      rintro e w1 ⟨ao, cap, rfl, hown, S1⟩
      rw [hlen2] at hown ⊢
      rcases hown.2 with ⟨_, e2⟩ | ⟨g, cap2, cur, e2, _, hg, _⟩
      · exact absurd e2 (by omega)
      · injection e2 with e3 e4 e5
        subst e3
        refine ⟨g, cap, rfl, ?_, S1⟩
        rw [hown.cellAt k (by simp)]
        subst hk
        simp [i32s])
    have hkb : k ≤ 100000 := by rw [hlen2] at hlen; omega
    clear HR HN hlen hR hlen2 hk
    go_enter Try.func16, Try.ntmps16
    go_wp2_with fail
    refine Calls.mono HR2.out ?_
    rintro e w1 ⟨g, cap, rfl, hc, S1⟩
    have HS := hidden S1
    clear S1
    go_wp2
    go_ret
    exact ⟨rfl, HS.out⟩

end Go.Proofs.Ytjpkeenaofdaaaa
