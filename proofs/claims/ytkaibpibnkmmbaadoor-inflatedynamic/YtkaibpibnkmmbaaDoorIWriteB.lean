/-
  The page's own Writer: Bytes.
-/
import Derived.Test.YtkaibpibnkmmbaaDoorIWriteA
namespace Go.Proofs.YtkaibpibnkmmbaaDoor
open Go.RowKit
set_option maxRecDepth 100000
set_option linter.unusedVariables false



theorem bytesOf_zero (m : Nat) : u8s (bytesOf 0 m) = List.replicate m (Value.int .u8 0) := by
  apply List.ext_getElem?
  intro i
  by_cases h : i < m
  · rw [u8s_get?, bytesOf_get? _ _ _ h, List.getElem?_replicate, if_pos h]; simp
  · rw [u8s_get?]
    simp [bytesOf, h]

theorem mod_succ_bit (N i : Nat) : N % 2 ^ (i + 1) = N % 2 ^ i + N / 2 ^ i % 2 * 2 ^ i := by
  rw [Nat.pow_succ, Nat.mod_mul, Nat.mul_comm (2 ^ i)]

theorem bytes_set (N i m : Nat) :
    (u8s (bytesOf (N % 2 ^ i) m)).set (i / 8) (.int .u8 (((N % 2 ^ i) / 2 ^ (8 * (i / 8)) % 256 ||| (N / 2 ^ i % 2) * 2 ^ (i % 8) % 256 : Nat) : Int)) = u8s (bytesOf (N % 2 ^ (i + 1)) m) := by
  have hi : 8 * (i / 8) + i % 8 = i := by omega
  have hlt : N % 2 ^ i < 2 ^ (8 * (i / 8) + i % 8) := by rw [hi]; exact Nat.mod_lt _ (Nat.two_pow_pos _)
  have hmid := byte_mid (N % 2 ^ i) (N / 2 ^ i % 2) (i / 8) (i % 8) 1 hlt (by have := Nat.mod_lt (N / 2 ^ i) (show 0 < 2 by omega); omega) (by omega)
  rw [hi] at hmid
  apply List.ext_getElem?
  intro j
  rw [mod_succ_bit N i]
  by_cases hj : j < m
  · rw [u8s_get?, bytesOf_get? _ _ _ hj]
    by_cases e : j = i / 8
    · subst e
      rw [List.getElem?_set_self (by rw [u8s_length, bytesOf_length]; exact hj), hmid]
      rfl
    · rw [List.getElem?_set_ne (fun h => e h.symm), u8s_get?, bytesOf_get? _ _ _ hj]
      congr 2
      by_cases hlt2 : j < i / 8
      · rw [byte_low _ _ _ _ (by omega)]
      · have hp : 2 ^ (i + 1) ≤ 2 ^ (8 * j) := Nat.pow_le_pow_right (n := 2) (by omega) (by omega)
        have h1 : N % 2 ^ i < 2 ^ (8 * j) := Nat.lt_of_lt_of_le (Nat.mod_lt _ (Nat.two_pow_pos _)) (Nat.le_trans (Nat.pow_le_pow_right (n := 2) (by omega) (by omega)) hp)
        have h2 : N % 2 ^ i + N / 2 ^ i % 2 * 2 ^ i < 2 ^ (8 * j) := by rw [← mod_succ_bit]; exact Nat.lt_of_lt_of_le (Nat.mod_lt _ (Nat.two_pow_pos _)) hp
        rw [Nat.div_eq_of_lt h1, Nat.div_eq_of_lt h2]
  · rw [List.getElem?_eq_none (by rw [List.length_set, u8s_length, bytesOf_length]; omega), List.getElem?_eq_none (by rw [u8s_length, bytesOf_length]; omega)]

set_option maxHeartbeats 2000000 in
theorem xbytes_any (b : Nat) (s : Value) (N L : Nat) (w : World) (h : Wx w b s N L) (hL : L ≤ 1000000000) :
    Calls Tryd.prog 9 #[.pointer (some ⟨b, 0, none⟩)] w fun e w' => ∃ v', e = .returned v' ∧ w'.ownsRow 0 5 1 v' ((L + 7) / 8) (u8s (bytesOf N ((L + 7) / 8))) ∧ Step (fun _ => False) w w' ∧ (∀ k, v'.ownBlock = some k → w.heap.size ≤ k) := by
  obtain ⟨i0, hi, hz0, hz1, hz2⟩ := info_parts Tryd.info5
  have c0 := h.out
  obtain ⟨ao, cap, hs⟩ := own_slice h.own
  rw [hs] at c0
  have H := hidden h
  have Hs := hidden hs
  obtain ⟨m, hm⟩ : ∃ m, (L + 7) / 8 = m := ⟨_, rfl⟩
  have hmi : ((L : Int) + 7) / 8 = (m : Int) := by omega
  have hm2 : m ≤ 1000000000 := by omega
  rw [hm]
  have Hm := hidden hm
  have hbw : b < w.heap.size := World.block_lt_of_cell? w _ h.out
  clear h hs hm
  go_enter Tryd.func9, Tryd.ntmps9
  go_wp2_with (at_make; refine wpList_make_full _ rfl (.tmp 11) (.tmp 11) 23 rfl 0 5 i0 (.int .u8 0) 1 Tryd.underlying23 hi hz0 hz1 .i64 .i64 _ _ m rfl rfl ?c1 ?c2 ?c3 ?c4 (Nat.zero_le _) ?_)
  case c1 => omega
  case c2 => omega
  case c3 => rw [hz2]; omega
  case c4 => unfold maxLen; omega
  intro w1 hown hgrow
  have HO := hidden (show w1.ownsRow 0 5 1 (.slice (some ⟨w.heap.size, 0, none⟩) m m) m (u8s (bytesOf (N % 2 ^ 0) m)) by
    rw [Nat.pow_zero, Nat.mod_one, bytesOf_zero]
    simpa [toList_madeCells_one, Value.cells] using hown)
  have HS := hidden (show Step (fun _ => False) w w1 from (Step.refl _ _).grown hgrow (fun k hk => by cases hk))
  clear hown hgrow
  go_wp2
  go_loopw [4] (fun i wr => ∃ k : Nat, k ≤ L ∧ i = .int .i64 k ∧ wr.ownsRow 0 5 1 (.slice (some ⟨w.heap.size, 0, none⟩) m m) m (u8s (bytesOf (N % 2 ^ k) m)) ∧ Step (fun _ => False) w wr) (fun i _ => L - (intOf i).toNat)
  case atStart => exact ⟨0, Nat.zero_le _, rfl, HO.out, HS.out⟩
  case round =>
    obtain ⟨k, hk, rfl, O, St⟩ := hrel
    have WX := H.out.step St (fun h => h) (fun _ _ h => h)
    have c0' := WX.out
    rw [Hs.out] at c0'
    by_cases hlt : k < L
    · have ox := WX.own
      rw [Hs.out] at ox
      obtain ⟨g, hg⟩ : ∃ g, ao = some ⟨g, 0, none⟩ := by
        rcases ox.2 with ⟨_, e⟩ | ⟨g, c, cur, e, _⟩
        · omega
        · injection e with e1; exact ⟨g, e1⟩
      subst hg
      have cb := ox.cellAt k (by omega)
      rw [u8s_get?, bitsOf_get? _ _ _ hlt] at cb
      have co := O.cellAt (k / 8) (by have := Hm.out; omega)
      rw [u8s_get?, bytesOf_get? _ _ _ (by have := Hm.out; omega)] at co
      have fo := O.frozenAt (k / 8)
      have hgb : g ≠ w.heap.size := by
        have o2 := H.out.own
        rw [Hs.out] at o2
        have := (o2.lt g rfl).2
        omega
      have hset := bytes_set N k m
      have HF := hidden (And.intro ((O.stored (k / 8) (.int .u8 (((N % 2 ^ k) / 2 ^ (8 * (k / 8)) % 256 ||| (N / 2 ^ k % 2) * 2 ^ (k % 8) % 256 : Nat) : Int))).1) (St.setCell ⟨w.heap.size, k / 8, none⟩ (.int .u8 (((N % 2 ^ k) / 2 ^ (8 * (k / 8)) % 256 ||| (N / 2 ^ k % 2) * 2 ^ (k % 8) % 256 : Nat) : Int)) (.inr (Nat.le_refl _))))
      rw [hset] at HF
      have hbl : N / 2 ^ k % 2 < 2 := Nat.mod_lt _ (by omega)
      have hyl : (N % 2 ^ k) / 2 ^ (8 * (k / 8)) % 256 < 256 := Nat.mod_lt _ (by omega)
      generalize hbt : N / 2 ^ k % 2 = bt at *
      generalize hyy : (N % 2 ^ k) / 2 ^ (8 * (k / 8)) % 256 = y at *
      simp only [Option.map_some] at cb co
      have k1 : (k : Int) < (L : Int) := by omega
      obtain ⟨q, hq, hq1, hq2⟩ : ∃ q : Nat, k / 8 = q ∧ q < m ∧ (k : Int) / 8 = (q : Int) := ⟨_, rfl, by have := Hm.out; omega, by omega⟩
      obtain ⟨r, hr, hr1, hr2⟩ : ∃ r : Nat, k % 8 = r ∧ r < 8 ∧ (k : Int) % 8 = (r : Int) := ⟨_, rfl, by omega, by omega⟩
      rw [hq] at co fo HF
      rw [hr] at HF
      have t1 : Int.tdiv (k : Int) 8 = (q : Int) := by rw [Int.tdiv_eq_ediv_of_nonneg (by omega)]; exact hq2
      have t2 : Int.tmod (k : Int) 8 = (r : Int) := by rw [Int.tmod_eq_emod_of_nonneg (by omega)]; exact hr2
      have t3 : IntKind.i64.wrap (q : Int) = (q : Int) := wrap_i64_id _ (by omega) (by omega)
      have t4 : IntKind.i64.wrap (r : Int) = (r : Int) := wrap_i64_id _ (by omega) (by omega)
      have t5 : IntKind.u64.wrap (r : Int) = (r : Int) := by rw [IntKind.wrap_u64]; omega
      have k2 : (q : Int) < (m : Int) := by omega
      have Hq := hidden hq
      have Hr := hidden hr
      clear WX O St ox hset hbt hyy hq hr
      go_wp2
      refine wp_region_still_tail 17 Tryd.mixed (by kernel_rfl) ?_
      simp only [List.take_succ_cons, List.take_zero, List.drop_succ_cons, List.drop_zero]
      change wpStill _ _ (World.drew _) _ _ _
      iterate 17 still_step
      refine wpStill_nil ?_
      go_wp2
      have hor : bits BinOp.or IntKind.u8 (y : Int) ((bt : Int) * 2 ^ r % 256) = ((y ||| bt * 2 ^ r % 256 : Nat) : Int) := by
        have e : ((bt : Int) * 2 ^ r % 256) = ((bt * 2 ^ r % 256 : Nat) : Int) := by simp
        rw [e]
        exact u8_or_nat _ _ hyl (Nat.mod_lt _ (by omega))
      go_roundw
      case rel =>
        rw [hor]
        exact ⟨k + 1, by omega, by go_num, HF.out.1, HF.out.2.drew⟩
      case measure => simp [intOf]; omega
    · have hkL : k = L := by omega
      subst hkL
      have HF := hidden (show wr.ownsRow 0 5 1 (.slice (some ⟨w.heap.size, 0, none⟩) m m) m (u8s (bytesOf N m)) ∧ Step (fun _ => False) w wr by
        have e : N % 2 ^ k = N := Nat.mod_eq_of_lt H.out.lt
        rw [e] at O
        exact ⟨O, St⟩)
      clear O St WX
      go_wp2
      go_ret
      exact ⟨_, rfl, HF.out.1, HF.out.2, fun i hi => by simp [Value.ownBlock] at hi; omega⟩

end Go.Proofs.YtkaibpibnkmmbaaDoor
