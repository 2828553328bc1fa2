/-
  A Reader's bits: Of, Left, Get, Align, Raw; bytes as a number.
-/
import Derived.Test.YtkaibpibnkmmbaaDoorRow
import Derived.Laws.AppendOwnNone
namespace Go.Proofs.YtkaibpibnkmmbaaDoor
open Go.RowKit
set_option maxRecDepth 100000
set_option linter.unusedVariables false

set_option maxHeartbeats 400000 in
theorem lowest_any (v n : Int) (w : World) (hv : 0 ≤ v) (hv2 : v ≤ 9223372036854775807) (hn : 0 ≤ n) (hn2 : n ≤ 24) :
    Calls Tryd.prog 26 #[.int .i64 v, .int .i64 n] w fun e w' => e = .returned (.int .i64 (v % 2 ^ n.toNat)) ∧ w' = w := by
  have hm := i64_mask v n.toNat hv hv2 (by omega)
  go_enter Tryd.func26, Tryd.ntmps26
  go_wp2
  go_ret
  refine ⟨?_, rfl⟩
  rw [← hm]; rfl

set_option maxHeartbeats 400000 in
theorem fresh_any (v : Value) (bs : List Nat) (w : World) (h : Rd w v bs) (hl : bs.length ≤ 137438953600) :
    Calls Tryd.prog 19 #[v] w fun e w' => ∃ v', e = .returned v' ∧ w'.ownsRow 0 5 1 v' bs.length (u8s bs) ∧ Step (fun _ => False) w w' ∧ (v'.ownBlock = none ∨ v'.ownBlock = some w.heap.size) := by
  obtain ⟨i0, hi, hz0, hz1, hz2⟩ := info_parts Tryd.info5
  obtain ⟨ao, cap, rfl, h1, h2⟩ := h
  have hm : bs.length ≤ maxLen := by unfold maxLen; omega
  cases ao with
  | none =>
    obtain ⟨rfl, rfl⟩ := h1 rfl
    go_enter Tryd.func19, Tryd.ntmps19
    go_wp2
    go_ret
    exact ⟨_, rfl, World.ownsRow_nil _ _ _ _, Step.refl _ _, .inl rfl⟩
  | some a =>
    have hc : ∀ j u, (u8s bs)[j]? = some u → w.cell? (a.add j) = some u := by
      intro j u hu
      have hne : bs ≠ [] := by intro e; subst e; simp [u8s] at hu
      obtain ⟨b, off, rfl, hcell⟩ := h2 a rfl hne
      have hj : j < bs.length := by
        have := (List.getElem?_eq_some_iff.1 hu).1
        rwa [u8s_length] at this
      rw [Addr.add_lit, hcell j hj, ← hu, u8s_get?]
      simp [List.getD, hj]
    go_enter Tryd.func19, Tryd.ntmps19
    go_wp2_with (at_builtin; refine wpList_append_at _ rfl _ _ 23 rfl 5 i0 (.int .u8 0) 1 1 Tryd.underlying23 hi hz0 hz1 hz2 rfl (by decide) _ 0 [] rfl (World.ownsRow_nil _ _ _ _) a bs.length cap (u8s bs) rfl (by simp [u8s_length]) hc (u8s_one _) (by omega) (by omega) ?_)
    intro v' w1 hown' hgrow hnil hv'
    have H := hidden (show w1.ownsRow 0 5 1 v' bs.length (u8s bs) ∧ Step (fun _ => False) w w1 ∧ (v'.ownBlock = none ∨ v'.ownBlock = some w.heap.size) from
      ⟨by simpa using hown', (Step.refl _ _).grown hgrow (fun k hk => by simp [Value.ownBlock] at hk), hv'⟩)
    clear hown' hgrow hnil hv' hc h1 h2
    go_wp2
    go_ret
    exact ⟨_, rfl, H.out⟩



/-- The Reader in block b reads the first m bytes of the number M, in the row s; so many bits are taken. -/
structure Rr (w : World) (b : Nat) (s : Value) (M m t : Nat) : Prop where
  ins : w.cell? ⟨b, 0, none⟩ = some s
  at_ : w.cell? ⟨b, 1, none⟩ = some (.int .i64 (t : Int))
  f1 : w.frozen? ⟨b, 1, none⟩ = false
  own : w.ownsRow 0 5 1 s m (u8s (bytesOf M m))
  ne : s.ownBlock ≠ some b
  le : t ≤ 8 * m

theorem Rr.step {S : Nat → Prop} {w w' : World} {b : Nat} {s : Value} {M m t : Nat} (R : Rr w b s M m t) (hs : Step S w w') (h1 : ¬ S b) (h2 : ∀ k, s.ownBlock = some k → ¬ S k) : Rr w' b s M m t := by
  have hb : b < w.heap.size := World.block_lt_of_cell? w _ R.ins
  exact ⟨hs.cell R.ins h1, hs.cell R.at_ h1, (hs.frozen (p := ⟨b, 1, none⟩) hb h1).trans R.f1, owns_step R.own hs h2, R.ne, R.le⟩

theorem fresh_n (v : Value) (M m : Nat) (w : World) (h : Rd w v (bytesOf M m)) (hm : m ≤ 137438953600) :
    Calls Tryd.prog 19 #[v] w fun e w' => ∃ v', e = .returned v' ∧ w'.ownsRow 0 5 1 v' m (u8s (bytesOf M m)) ∧ Step (fun _ => False) w w' ∧ (v'.ownBlock = none ∨ v'.ownBlock = some w.heap.size) := by
  have H := fresh_any v (bytesOf M m) w h (by rw [bytesOf_length]; exact hm)
  rw [bytesOf_length] at H
  exact H

set_option maxHeartbeats 400000 in
theorem of_any (v : Value) (M m : Nat) (w : World) (h : Rd w v (bytesOf M m)) (hm : m ≤ 137438953600) :
    Calls Tryd.prog 16 #[v] w fun e w' => ∃ b s, e = .returned (.pointer (some ⟨b, 0, none⟩)) ∧ Rr w' b s M m 0 ∧ Step (fun _ => False) w w' ∧ w.heap.size ≤ b ∧ (∀ k, s.ownBlock = some k → w.heap.size ≤ k) := by
  have H := hidden h
  clear h
  go_enter Tryd.func16, Tryd.ntmps16
  go_wp2_with (go_at_call 19; refine (fresh_n _ M m _ H.out hm).mono ?_; rintro e w' ⟨v', rfl, h1, h2, h3⟩; obtain ⟨ao, cap, rfl⟩ := own_slice h1; have H1 := hidden (And.intro h1 (And.intro h2 h3)); clear h1 h2 h3)
  go_ret
  obtain ⟨hown, hst, hob⟩ := H1.out
  refine ⟨_, _, rfl, ⟨?_, ?_, ?_, hown.alloc _, ?_, Nat.zero_le _⟩, hst.alloc _, hst.size, ?_⟩
  · simp
  · simp
  · simp
  · intro e
    have := (hown.lt _ e).2
    omega
  · intro k hk
    rcases hob with h | h
    · rw [h] at hk; cases hk
    · rw [h] at hk; have := Option.some.inj hk; omega

set_option maxHeartbeats 400000 in
theorem left_any (b : Nat) (s : Value) (M m t : Nat) (w : World) (h : Rr w b s M m t) (hm : m ≤ 137438953600) :
    Calls Tryd.prog 25 #[.pointer (some ⟨b, 0, none⟩)] w fun e w' => e = .returned (.int .i64 ((8 * m - t : Nat) : Int)) ∧ ∃ n, w' = w.drewN n := by
  obtain ⟨ao, cap, hs⟩ := own_slice h.own
  have c0 := h.ins
  have c1 := h.at_
  have hle := h.le
  rw [hs] at c0
  clear h
  go_enter Tryd.func25, Tryd.ntmps25
  go_wp2
  go_quiet (fail)
  go_wp2
  go_ret
  refine ⟨?_, _, rfl⟩
  show Ending.returned (.int .i64 _) = Ending.returned (.int .i64 _)
  congr 2
  omega



/-- Bits of one byte of a number are bits of the number. -/
theorem byte_bits (M q u k : Nat) (h : u + k ≤ 8) : M / 2 ^ (8 * q) % 256 / 2 ^ u % 2 ^ k = M / 2 ^ (8 * q + u) % 2 ^ k := by
  have e : (256 : Nat) = 2 ^ u * 2 ^ (8 - u) := by rw [← Nat.pow_add, show u + (8 - u) = 8 by omega]
  rw [e, Nat.mod_mul_right_div_self, Nat.div_div_eq_div_mul, ← Nat.pow_add]
  have e2 : (2 : Nat) ^ (8 - u) = 2 ^ k * 2 ^ (8 - u - k) := by rw [← Nat.pow_add, show k + (8 - u - k) = 8 - u by omega]
  rw [e2, Nat.mod_mul_right_mod]

theorem mod_step (A g k : Nat) : A % 2 ^ g ||| (A / 2 ^ g % 2 ^ k) * 2 ^ g = A % 2 ^ (g + k) := by
  rw [Nat.pow_add, Nat.mod_mul]
  have := Nat.two_pow_add_eq_or_of_lt (Nat.mod_lt A (Nat.two_pow_pos g)) (A / 2 ^ g % 2 ^ k)
  rw [Nat.add_comm, this, Nat.or_comm, Nat.mul_comm]

theorem get_or (M t d T k : Nat) (hT : t + d = T) (hk : k ≤ 8 - T % 8) (hd : d + k ≤ 24) :
    bits BinOp.or IntKind.i64 ((M / 2 ^ t % 2 ^ d : Nat) : Int) (wrap64 (((M / 2 ^ (8 * (T / 8)) % 256 : Nat) : Int) / 2 ^ (T % 8) % 2 ^ k * 2 ^ d)) = ((M / 2 ^ t % 2 ^ (d + k) : Nat) : Int) := by
  have e1 : (((M / 2 ^ (8 * (T / 8)) % 256 : Nat) : Int) / 2 ^ (T % 8) % 2 ^ k * 2 ^ d) = ((M / 2 ^ (8 * (T / 8)) % 256 / 2 ^ (T % 8) % 2 ^ k * 2 ^ d : Nat) : Int) := by simp
  have h8 : 8 * (T / 8) + T % 8 = T := by omega
  rw [e1, byte_bits M (T / 8) (T % 8) k (by omega), h8]
  have hlt : M / 2 ^ T % 2 ^ k * 2 ^ d < 2 ^ k * 2 ^ d := Nat.mul_lt_mul_of_pos_right (Nat.mod_lt _ (Nat.two_pow_pos _)) (Nat.two_pow_pos _)
  rw [← Nat.pow_add] at hlt
  have h24 := pow_le_24 (k + d) (by omega)
  have hacc : M / 2 ^ t % 2 ^ d < 2 ^ d := Nat.mod_lt _ (Nat.two_pow_pos _)
  have h24' := pow_le_24 d (by omega)
  rw [wrap64_id _ (by omega) (by omega), i64_or_nat _ _ (by omega) (by omega), ← hT, Nat.pow_add, ← Nat.div_div_eq_div_mul, mod_step]

/-- What a call on a Reader leaves: some bits are taken. -/
def Took (w w' : World) (b : Nat) (s : Value) (M m t : Nat) : Prop := Rr w' b s M m t ∧ Step (fun k => k = b) w w'

theorem Rr.took {w w1 : World} {b : Nat} {s : Value} {M m t t' : Nat} (R : Rr w1 b s M m t) (St : Step (fun k => k = b) w w1) (h : t' ≤ 8 * m) (z : Int) (hz : z = (t' : Int)) : Took w (w1.setCell ⟨b, 1, none⟩ (.int .i64 z)) b s M m t' := by
  have hS : Step (fun k => k = b) w1 (w1.setCell ⟨b, 1, none⟩ (.int .i64 z)) := (Step.refl (fun k => k = b) w1).setCell ⟨b, 1, none⟩ (.int .i64 z) (.inl rfl)
  refine ⟨⟨?_, ?_, ?_, owns_step R.own hS (fun k hk hb => R.ne (by rw [hk, hb])), R.ne, h⟩, St.trans hS (fun i hi => .inl hi)⟩
  · rw [World.cell?_setCell_other _ _ _ _ (by simp)]; exact R.ins
  · rw [World.cell?_setCell_same _ _ _ R.at_, hz]
  · simp [R.f1]

theorem Rr.drewN {w : World} {b : Nat} {s : Value} {M m t : Nat} (R : Rr w b s M m t) (n : Nat) : Rr (w.drewN n) b s M m t := ⟨R.ins, R.at_, R.f1, R.own, R.ne, R.le⟩

theorem Rr.cell {w : World} {b : Nat} {s : Value} {M m t : Nat} (R : Rr w b s M m t) (h : t < 8 * m) :
    ∃ g cap, s = .slice (some ⟨g, 0, none⟩) m cap ∧ w.cell? ⟨g, t / 8, none⟩ = some (.int .u8 ((M / 2 ^ (8 * (t / 8)) % 256 : Nat) : Int)) := by
  rcases R.own.2 with ⟨_, h2⟩ | ⟨g, cap, cur, h1, _⟩
  · omega
  · refine ⟨g, cap, h1, ?_⟩
    have o := R.own
    rw [h1] at o
    rw [o.cellAt (t / 8) (by omega), u8s_get?, bytesOf_get? _ _ _ (by omega)]
    rfl

set_option maxHeartbeats 400000 in
theorem get_no (b : Nat) (n : Int) (w : World) (h : ¬ (0 ≤ n ∧ n ≤ 24)) : Calls Tryd.prog 20 #[.pointer (some ⟨b, 0, none⟩), .int .i64 n] w fun e w' => e = .returned (.tuple #[.int .i64 0, .int .i64 1]) ∧ w' = w := by
  by_cases h0 : n < 0
  · go_enter Tryd.func20, Tryd.ntmps20
    go_wp2
    go_ret2
    exact ⟨rfl, rfl⟩
  · have h1 : 24 < n := by omega
    go_enter Tryd.func20, Tryd.ntmps20
    go_wp2
    go_ret2
    exact ⟨rfl, rfl⟩

set_option maxHeartbeats 400000 in
theorem get_short (b : Nat) (s : Value) (M m t n : Nat) (w : World) (R : Rr w b s M m t) (hm : m ≤ 137438953600) (hn : n ≤ 24) (h : 8 * m - t < n) :
    Calls Tryd.prog 20 #[.pointer (some ⟨b, 0, none⟩), .int .i64 n] w fun e w' => e = .returned (.tuple #[.int .i64 0, .int .i64 2]) ∧ ∃ q, w' = w.drewN q := by
  have H := hidden R
  have h' : ((8 * m - t : Nat) : Int) < (n : Int) := by omega
  clear R h
  go_enter Tryd.func20, Tryd.ntmps20
  go_wp2_with (go_at_call 25; refine (left_any b s M m t _ H.out hm).mono ?_; rintro e w' ⟨rfl, q, rfl⟩)
  go_ret2
  exact ⟨rfl, _, rfl⟩

set_option maxHeartbeats 1000000 in
theorem get_ok (b : Nat) (s : Value) (M m t n : Nat) (w : World) (R : Rr w b s M m t) (hm : m ≤ 137438953600) (hn : n ≤ 24) (h : n ≤ 8 * m - t) :
    Calls Tryd.prog 20 #[.pointer (some ⟨b, 0, none⟩), .int .i64 n] w fun e w' => e = .returned (.tuple #[.int .i64 ((M / 2 ^ t % 2 ^ n : Nat) : Int), .int .i64 0]) ∧ Took w w' b s M m (t + n) := by
  have H := hidden R
  have h' : (n : Int) ≤ ((8 * m - t : Nat) : Int) := by omega
  have ht := R.le
  clear R
  go_enter Tryd.func20, Tryd.ntmps20
  go_wp2_with (go_at_call 25; refine (left_any b s M m t _ H.out hm).mono ?_; rintro e w' ⟨rfl, q, hw⟩; have H2 := hidden (H.out.drewN q); have S2 := hidden ((Step.refl (fun k => k = b) w).drewN q); rw [← hw] at H2 S2; clear hw)
  rename_i w0
  clear h'
  go_loopw [6, 7] (fun v g wr => ∃ d : Nat, d ≤ n ∧ v = .int .i64 ((M / 2 ^ t % 2 ^ d : Nat) : Int) ∧ g = .int .i64 (d : Int) ∧ Took w wr b s M m (t + d)) (fun _ g _ => n - (intOf g).toNat)
  case atStart => exact ⟨0, Nat.zero_le _, by simp [Nat.mod_one], rfl, H2.out, S2.out⟩
  case round =>
    obtain ⟨d, hd, rfl, rfl, W, St⟩ := hrel
    by_cases hlt : d < n
    · obtain ⟨g, cap, hs, c2⟩ := W.cell (by omega)
      have c0 := W.ins
      have c1 := W.at_
      have f1 := W.f1
      rw [hs] at c0
      obtain ⟨T, hT, hT2⟩ : ∃ T : Nat, t + d = T ∧ T ≤ 1099511628800 := ⟨_, rfl, by omega⟩
      rw [hT] at c1 c2
      have HT := hidden hT
      have HW := hidden W
      have HS := hidden St
      obtain ⟨k, hk, hk1, hk2, hk3⟩ : ∃ k : Nat, (if (8 : Int) - (T : Int) % 8 < (n : Int) - (d : Int) then (8 : Int) - (T : Int) % 8 else (n : Int) - (d : Int)) = (k : Int) ∧ 1 ≤ k ∧ k ≤ 8 - T % 8 ∧ k ≤ n - d := by
        by_cases hc : (8 : Int) - (T : Int) % 8 < (n : Int) - (d : Int)
        · exact ⟨8 - T % 8, by rw [if_pos hc]; omega, by omega, by omega, by omega⟩
        · exact ⟨n - d, by rw [if_neg hc]; omega, by omega, by omega, by omega⟩
      obtain ⟨y, hy, hy2⟩ : ∃ y : Nat, M / 2 ^ (8 * (T / 8)) % 256 = y ∧ y < 256 := ⟨_, rfl, Nat.mod_lt _ (by omega)⟩
      obtain ⟨acc, hacc, hacc2⟩ : ∃ acc : Nat, M / 2 ^ t % 2 ^ d = acc ∧ acc < 16777216 :=
        ⟨_, rfl, Nat.lt_of_lt_of_le (Nat.mod_lt _ (Nat.two_pow_pos _)) (pow_le_24 d (by omega))⟩
      have hT8 : T / 8 < m := by omega
      have hT9 : ((T : Int) % 8).toNat = T % 8 := by omega
      have hyd : (y : Int) / 2 ^ (T % 8) = ((y / 2 ^ (T % 8) : Nat) : Int) := by simp
      have hyd2 : y / 2 ^ (T % 8) < 256 := Nat.lt_of_le_of_lt (Nat.div_le_self _ _) hy2
      have hlow := hidden (fun wx => lowest_any ((y : Int) / 2 ^ (T % 8)) k wx (by rw [hyd]; exact Int.natCast_nonneg _) (by rw [hyd]; omega) (by omega) (by omega))
      clear hyd
      rw [hy] at c2
      rw [hacc]
      have Hy := hidden hy
      have Hacc := hidden hacc
      clear W St hs hT h ht hy hacc
      go_wp2
      go_quiet ((go_at_call 26; exact Calls.quiet_of_same (hlow.out _)))
      go_wp2
      have hfin := get_or M t d T k HT.out hk2 (by omega)
      rw [Hy.out, Hacc.out] at hfin
      go_roundw
      case rel =>
        refine ⟨d + k, by omega, by rw [hfin], by go_num, ?_⟩
        exact (HW.out.drewN _).took (HS.out.drewN _) (by have := HT.out; omega) _ (by have := HT.out; omega)
      case measure => simp [intOf]; omega
    · have hdn : d = n := by omega
      subst hdn
      have H3 := hidden (And.intro W St)
      clear W St
      go_wp2
      go_ret2
      exact ⟨rfl, H3.out⟩

/-- Bytes as a number, the first the lowest. -/
def numOf : List Nat → Nat
  | [] => 0
  | x :: xs => x + 256 * numOf xs

theorem numOf_lt (B : List Nat) (h : ∀ x ∈ B, x < 256) : numOf B < 2 ^ (8 * B.length) := by
  induction B with
  | nil => simp [numOf]
  | cons x xs ih =>
    have h1 := h x (by simp)
    have h2 := ih (fun y hy => h y (by simp [hy]))
    have e : 2 ^ (8 * (x :: xs).length) = 256 * 2 ^ (8 * xs.length) := by
      rw [List.length_cons, Nat.mul_add, Nat.pow_add]; simp; exact Nat.mul_comm _ _
    rw [e]
    simp only [numOf]
    omega

theorem numOf_append (A B : List Nat) : numOf (A ++ B) = numOf A + numOf B * 2 ^ (8 * A.length) := by
  induction A with
  | nil => simp [numOf]
  | cons x xs ih =>
    have e : 2 ^ (8 * (x :: xs).length) = 256 * 2 ^ (8 * xs.length) := by
      rw [List.length_cons, Nat.mul_add, Nat.pow_add]; simp; exact Nat.mul_comm _ _
    simp only [List.cons_append, numOf, ih, e]
    have : numOf B * (256 * 2 ^ (8 * xs.length)) = 256 * (numOf B * 2 ^ (8 * xs.length)) := by ac_rfl
    omega

theorem bytesOf_cons (x M m : Nat) (h : x < 256) : bytesOf (x + 256 * M) (m + 1) = x :: bytesOf M m := by
  simp only [bytesOf, List.range_succ_eq_map, List.map_cons, List.map_map]
  congr 1
  · simp; omega
  · refine List.map_congr_left fun i _ => ?_
    simp only [Function.comp]
    have e : 2 ^ (8 * i.succ) = 256 * 2 ^ (8 * i) := by
      rw [Nat.succ_eq_add_one, Nat.mul_add, Nat.pow_add]; simp; exact Nat.mul_comm _ _
    rw [e, ← Nat.div_div_eq_div_mul, show (x + 256 * M) / 256 = M by omega]

theorem bytesOf_numOf (B : List Nat) (h : ∀ x ∈ B, x < 256) : bytesOf (numOf B) B.length = B := by
  induction B with
  | nil => rfl
  | cons x xs ih =>
    rw [List.length_cons, numOf, bytesOf_cons _ _ _ (h x (by simp)), ih (fun y hy => h y (by simp [hy]))]

theorem bytesOf_add (N M a c : Nat) (h : N < 2 ^ (8 * a)) : bytesOf (N + M * 2 ^ (8 * a)) (a + c) = bytesOf N a ++ bytesOf M c := by
  rw [← bytesOf_low N M (8 * a) a (Nat.le_refl _)]
  simp only [bytesOf, List.range_add, List.map_append, List.map_map]
  congr 1
  refine List.map_congr_left fun i _ => ?_
  simp only [Function.comp]
  rw [Nat.mul_add, Nat.pow_add, ← Nat.div_div_eq_div_mul, Nat.add_mul_div_right _ _ (Nat.two_pow_pos _), Nat.div_eq_of_lt h, Nat.zero_add]



set_option maxHeartbeats 400000 in
theorem ralign_any (b : Nat) (s : Value) (M m t : Nat) (w : World) (h : Rr w b s M m t) (hm : m ≤ 137438953600) :
    Calls Tryd.prog 18 #[.pointer (some ⟨b, 0, none⟩)] w fun e w' => e = .returned (.int .i64 (((t + 7) / 8 : Nat) : Int)) ∧ Took w w' b s M m ((t + 7) / 8 * 8) := by
  have H := hidden h
  have c1 := h.at_
  have f1 := h.f1
  have hle := h.le
  clear h
  go_enter Tryd.func18, Tryd.ntmps18
  go_wp2
  go_ret
  refine ⟨?_, H.out.took (Step.refl _ _) (by omega) _ (by omega)⟩
  show Ending.returned (.int .i64 _) = Ending.returned (.int .i64 _)
  congr 2
  omega

set_option maxHeartbeats 400000 in
theorem rraw_no (b : Nat) (s : Value) (M m t : Nat) (n : Int) (w : World) (h : Rr w b s M m t) (hn : n < 0 ∨ t % 8 ≠ 0) :
    Calls Tryd.prog 28 #[.pointer (some ⟨b, 0, none⟩), .int .i64 n] w fun e w' => e = .returned (.tuple #[.slice none 0 0, .int .i64 1]) ∧ w' = w := by
  have c1 := h.at_
  have hle := h.le
  clear h
  by_cases h0 : n < 0
  · go_enter Tryd.func28, Tryd.ntmps28
    go_wp2
    go_ret2
    exact ⟨rfl, rfl⟩
  · have h8 : t % 8 ≠ 0 := by omega
    have h8' : ((t : Int) % 8 != 0) = true := by rw [bne_iff_ne]; omega
    clear hn
    go_enter Tryd.func28, Tryd.ntmps28
    go_wp2
    go_ret2
    exact ⟨rfl, rfl⟩

set_option maxHeartbeats 400000 in
theorem rraw_short (b : Nat) (s : Value) (M m t : Nat) (n : Int) (w : World) (h : Rr w b s M m t) (hm : m ≤ 137438953600) (hn : 0 ≤ n) (h8 : t % 8 = 0) (hs : ((m - t / 8 : Nat) : Int) < n) :
    Calls Tryd.prog 28 #[.pointer (some ⟨b, 0, none⟩), .int .i64 n] w fun e w' => e = .returned (.tuple #[.slice none 0 0, .int .i64 2]) ∧ ∃ q, w' = w.drewN q := by
  have c1 := h.at_
  have hle := h.le
  have H := hidden h
  have h8' : ((t : Int) % 8 != 0) = false := by simp; omega
  have hs' : ((8 * m - t : Nat) : Int) / 8 < n := by omega
  clear h hs
  go_enter Tryd.func28, Tryd.ntmps28
  go_wp2_with (go_at_call 25; refine (left_any b s M m t _ H.out hm).mono ?_; rintro e w' ⟨rfl, q, rfl⟩)
  go_ret2
  exact ⟨rfl, _, rfl⟩

theorem Rd.sub {w : World} {s : Value} {M m cap : Nat} {ao : Option Addr} (hs : s = .slice ao m cap) (ho : w.ownsRow 0 5 1 s m (u8s (bytesOf M m))) {j n : Nat} (hj : j + n ≤ m) (ao' : Option Addr) (cap' : Nat) (h1 : ao = none → ao' = none ∧ cap' = 0) (h2 : ∀ g, ao = some ⟨g, 0, none⟩ → n ≠ 0 → ao' = some ⟨g, j, none⟩) (h3 : ao ≠ none → ao' ≠ none) :
    Rd w (.slice ao' n cap') (bytesOf (M / 2 ^ (8 * j)) n) := by
  have hl := bytesOf_length (M / 2 ^ (8 * j)) n
  refine ⟨ao', cap', by rw [hl], ?_, ?_⟩
  · intro e
    rcases ho.2 with ⟨e1, e2⟩ | ⟨g, c, cur, e1, _⟩
    · subst hs
      injection e1 with e3 e4 e5
      subst e4
      have : n = 0 := by omega
      subst this
      exact ⟨rfl, (h1 e3).2⟩
    · subst hs
      injection e1 with e3 e4 e5
      exact absurd e (h3 (by rw [e3]; simp))
  · intro a ha hne
    have hn : n ≠ 0 := by intro e; subst e; exact hne rfl
    rcases ho.2 with ⟨e1, e2⟩ | ⟨g, c, cur, e1, _⟩
    · omega
    · subst hs
      injection e1 with e3 e4 e5
      subst e3
      rw [h2 g rfl hn] at ha
      refine ⟨g, j, (Option.some.inj ha).symm, fun k hk => ?_⟩
      rw [hl] at hk
      rw [ho.cellAt (j + k) (by omega), u8s_get?, bytesOf_get? _ _ _ (by omega), bytesOf_getD _ _ _ hk, Nat.div_div_eq_div_mul, ← Nat.pow_add, ← Nat.mul_add]
      rfl

set_option maxHeartbeats 1000000 in
theorem rraw_ok (b : Nat) (s : Value) (M m t n : Nat) (w : World) (h : Rr w b s M m t) (hm : m ≤ 137438953600) (h8 : t % 8 = 0) (hn : n ≤ m - t / 8) :
    Calls Tryd.prog 28 #[.pointer (some ⟨b, 0, none⟩), .int .i64 n] w fun e w' => ∃ v', e = .returned (.tuple #[v', .int .i64 0]) ∧ w'.ownsRow 0 5 1 v' n (u8s (bytesOf (M / 2 ^ t) n)) ∧ (∀ k, v'.ownBlock = some k → w.heap.size ≤ k) ∧ Took w w' b s M m (t + 8 * n) := by
  have c0 := h.ins
  have c1 := h.at_
  have f1 := h.f1
  have hle := h.le
  have H := hidden h
  have h8' : ((t : Int) % 8 != 0) = false := by simp; omega
  have hs' : (n : Int) ≤ ((8 * m - t : Nat) : Int) / 8 := by omega
  obtain ⟨ao, cap, hs⟩ := own_slice h.own
  have hcap : m ≤ cap ∧ (ao = none → cap = 0) := by
    rcases h.own.2 with ⟨e1, e2⟩ | ⟨g, c, cur, e1, _, _, e2, _⟩
    · rw [hs] at e1; injection e1 with x1 x2 x3; omega
    · rw [hs] at e1; injection e1 with x1 x2 x3; exact ⟨by omega, by rw [x1]; simp⟩
  obtain ⟨hcap1, hcap2⟩ := hcap
  have Hcap2 := hidden hcap2
  have Hs := hidden hs
  rw [hs] at c0
  have ht : 8 * (t / 8) = t := by omega
  have hgo : Hid (∀ w1 v, Took w w1 b s M m (t + 8 * n) → Rd w1 v (bytesOf (M / 2 ^ t) n) → Calls Tryd.prog 19 #[v] w1 fun e w' => ∃ v', e = .returned v' ∧ (w'.ownsRow 0 5 1 v' n (u8s (bytesOf (M / 2 ^ t) n)) ∧ (∀ k, v'.ownBlock = some k → w.heap.size ≤ k) ∧ Took w w' b s M m (t + 8 * n))) := by
    intro w1 v hT hR
    refine (fresh_n v _ n w1 hR (by omega)).mono ?_
    rintro e w' ⟨v', rfl, h1, h2, h3⟩
    refine ⟨v', rfl, h1, fun k hk => ?_, hT.1.step h2 (fun h => h) (fun _ _ h => h), hT.2.trans h2 (fun _ h => h.elim)⟩
    have := hT.2.size
    rcases h3 with e | e
    · rw [e] at hk; cases hk
    · rw [e] at hk; have := Option.some.inj hk; omega
  clear h hcap2 hs
  go_enter Tryd.func28, Tryd.ntmps28
  go_wp2_with (go_at_call 25; refine (left_any b s M m t _ H.out hm).mono ?_; rintro e w' ⟨rfl, q, rfl⟩)
  · have hT := (H.out.drewN q).took (t' := t + 8 * n) ((Step.refl _ w).drewN q) (by omega) ((t : Int) + (n : Int) * 8) (by omega)
    have hc : cap = t / 8 := by assumption
    have hR := Rd.sub Hs.out hT.1.own (j := t / 8) (n := n) (by omega) ao 0 (fun h => ⟨h, rfl⟩) (fun g _ h => absurd (show n = 0 by omega) h) (fun h => h)
    rw [ht] at hR
    refine (hgo.out _ _ hT hR).mono ?_
    rintro e w' ⟨v', rfl, HF⟩
    have HF' := hidden HF
    clear HF hT hR
    go_wp2
    go_ret2
    exact ⟨v', rfl, HF'.out⟩
  · have hT := (H.out.drewN q).took (t' := t + 8 * n) ((Step.refl _ w).drewN q) (by omega) ((t : Int) + (n : Int) * 8) (by omega)
    have hR := Rd.sub Hs.out hT.1.own (j := t / 8) (n := n) (by omega) (Option.map (fun x => x.add (t / 8)) ao) (cap - t / 8) (fun h => ⟨by rw [h]; rfl, by rw [Hcap2.out h]; omega⟩)
      (fun g h _ => by rw [h]; show some (Addr.add _ _) = _; rw [Addr.add_lit, Nat.zero_add]) (fun h h2 => h (by cases ao with | none => rfl | some x => cases h2))
    rw [ht] at hR
    refine (hgo.out _ _ hT hR).mono ?_
    rintro e w' ⟨v', rfl, HF⟩
    have HF' := hidden HF
    clear HF hT hR
    go_wp2
    go_ret2
    exact ⟨v', rfl, HF'.out⟩

end Go.Proofs.YtkaibpibnkmmbaaDoor
