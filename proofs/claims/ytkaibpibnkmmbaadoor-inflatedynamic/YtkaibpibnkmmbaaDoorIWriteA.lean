/-
  The page's own Writer: Put, Code, Align, Bytes.
-/
import Derived.Test.YtkaibpibnkmmbaaDoorRow
import Derived.Laws.AppendOwnNone
import Derived.Deep.LoopGhost
namespace Go.Proofs.YtkaibpibnkmmbaaDoor
open Go.RowKit
set_option maxRecDepth 100000
set_option linter.unusedVariables false

/-- n is 0 to most, and v has no bits but the lowest n. -/
def fitB (v n m : Int) : Bool := decide (0 ≤ n ∧ n ≤ m ∧ 0 ≤ v ∧ v < 2 ^ n.toNat)

theorem fitB_no {v n m : Int} (h : ¬ (0 ≤ n ∧ n ≤ m ∧ 0 ≤ v)) : fitB v n m = false := by
  unfold fitB; rw [decide_eq_false_iff_not]; exact fun k => h ⟨k.1, k.2.1, k.2.2.1⟩
theorem fitB_eq {v n m : Int} (h1 : 0 ≤ n) (h2 : n ≤ m) (h3 : 0 ≤ v) : fitB v n m = decide (v < 2 ^ n.toNat) := by
  unfold fitB; simp [h1, h2, h3]

/-- The blocks of such a Writer. -/
def Of (b : Nat) (s : Value) (k : Nat) : Prop := k = b ∨ s.ownBlock = some k

/-- To the next byte's edge. -/
def up8 (L : Nat) : Nat := (L + 7) / 8 * 8



/-- The first j of the n bits of v, the highest first, as a number whose lowest bit is the first. -/
def rv (v n : Nat) : Nat → Nat
  | 0 => 0
  | j + 1 => rv v n j + v / 2 ^ (n - 1 - j) % 2 * 2 ^ j

theorem rv_lt (v n j : Nat) : rv v n j < 2 ^ j := by
  induction j with
  | zero => simp [rv]
  | succ j ih =>
    have : v / 2 ^ (n - 1 - j) % 2 < 2 ^ 1 := Nat.mod_lt _ (by omega)
    simp only [rv]
    exact lt_of_pow ih this

theorem num_step (N v d k L : Nat) : N + v % 2 ^ d * 2 ^ L + (v / 2 ^ d % 2 ^ k) * 2 ^ (L + d) = N + v % 2 ^ (d + k) * 2 ^ L := by
  rw [Nat.pow_add 2 d k, Nat.mod_mul, Nat.pow_add, Nat.add_mul, Nat.add_assoc]
  congr 2
  ac_rfl

/-- The first L bits of a number, the lowest first. -/
def bitsOf (N L : Nat) : List Nat := (List.range L).map fun i => N / 2 ^ i % 2

theorem bitsOf_length (N L : Nat) : (bitsOf N L).length = L := by simp [bitsOf]
theorem bitsOf_get? (N L i : Nat) (h : i < L) : (bitsOf N L)[i]? = some (N / 2 ^ i % 2) := by simp [bitsOf, h]

theorem bit_low' (R x j i : Nat) (h : i < j) : (R + x * 2 ^ j) / 2 ^ i % 2 = R / 2 ^ i % 2 := by
  obtain ⟨d, rfl⟩ : ∃ d, j = i + (d + 1) := ⟨j - i - 1, by omega⟩
  have e : x * 2 ^ (i + (d + 1)) = 2 * (x * 2 ^ d) * 2 ^ i := by
    rw [Nat.pow_add, Nat.pow_succ]; ac_rfl
  rw [e, Nat.add_mul_div_right _ _ (Nat.two_pow_pos _), Nat.add_mul_mod_self_left]

theorem bitsOf_push (N L z : Nat) (h : N < 2 ^ L) (hz : z < 2) : bitsOf (N + z * 2 ^ L) (L + 1) = bitsOf N L ++ [z] := by
  simp only [bitsOf, List.range_succ, List.map_append, List.map_cons, List.map_nil]
  congr 1
  · refine List.map_congr_left fun i hi => ?_
    exact bit_low' N z L i (List.mem_range.1 hi)
  · rw [Nat.add_mul_div_right _ _ (Nat.two_pow_pos _), Nat.div_eq_of_lt h, Nat.zero_add, Nat.mod_eq_of_lt hz]

/-- The page's Writer in block b, whose bits are the slice s. -/
structure Wx (w : World) (b : Nat) (s : Value) (N L : Nat) : Prop where
  out : w.cell? ⟨b, 0, none⟩ = some s
  f0 : w.frozen? ⟨b, 0, none⟩ = false
  own : w.ownsRow 0 5 1 s L (u8s (bitsOf N L))
  ne : s.ownBlock ≠ some b
  lt : N < 2 ^ L

def WroteX (w w' : World) (b : Nat) (s : Value) (N L : Nat) : Prop :=
  ∃ s', Wx w' b s' N L ∧ Step (Of b s) w w' ∧ (s'.ownBlock = s.ownBlock ∨ ∃ k, s'.ownBlock = some k ∧ w.heap.size ≤ k)

theorem Wx.step {S : Nat → Prop} {w w' : World} {b : Nat} {s : Value} {N L : Nat} (R : Wx w b s N L) (hs : Step S w w') (h1 : ¬ S b) (h2 : ∀ k, s.ownBlock = some k → ¬ S k) : Wx w' b s N L := by
  have hb : b < w.heap.size := World.block_lt_of_cell? w _ R.out
  exact ⟨hs.cell R.out h1, (hs.frozen (p := ⟨b, 0, none⟩) hb h1).trans R.f0, owns_step R.own hs h2, R.ne, R.lt⟩

theorem WroteX.after {w w1 w2 : World} {b : Nat} {s s1 : Value} {N L : Nat} (St : Step (Of b s) w w1) (Wh : s1.ownBlock = s.ownBlock ∨ ∃ k, s1.ownBlock = some k ∧ w.heap.size ≤ k) (h : WroteX w1 w2 b s1 N L) : WroteX w w2 b s N L := by
  obtain ⟨s2, W, S2, H⟩ := h
  refine ⟨s2, W, St.trans S2 (fun i hi => ?_), ?_⟩
  · rcases hi with h | h
    · exact .inl (.inl h)
    · rcases Wh with e | ⟨k, e, hk⟩
      · exact .inl (.inr (e ▸ h))
      · rw [e] at h; have := Option.some.inj h; exact .inr (by omega)
  · rcases H with e | ⟨k, e, hk⟩
    · rw [e]; exact Wh
    · exact .inr ⟨k, e, Nat.le_trans St.size hk⟩

/-- One more bit. -/
theorem Wx.push {wr w1 : World} {o : Obj} {b : Nat} {s v' : Value} {N L z : Nat} (W : Wx wr b s N L) (hz : z < 2)
    (hown : w1.ownsRow 0 5 1 v' (L + 1) (u8s (bitsOf N L) ++ [.int .u8 (z : Int)])) (hgrow : (wr.alloc o).grownBy w1 s.ownBlock)
    (hv' : v'.ownBlock = s.ownBlock ∨ v'.ownBlock = some (wr.heap.size + 1)) :
    w1.cell? ⟨b, 0, none⟩ = some s ∧ w1.frozen? ⟨b, 0, none⟩ = false ∧ WroteX wr (w1.setCell ⟨b, 0, none⟩ v') b s (N + z * 2 ^ L) (L + 1) := by
  have hbw : b < wr.heap.size := World.block_lt_of_cell? wr _ W.out
  have St : Step (fun k => s.ownBlock = some k) wr w1 := ((Step.refl _ wr).alloc o).grown hgrow (fun k hk => .inl hk)
  have hnb : ¬ s.ownBlock = some b := W.ne
  have c0 := St.cell W.out hnb
  have f0 := (St.frozen (p := ⟨b, 0, none⟩) hbw hnb).trans W.f0
  have hne : v'.ownBlock ≠ some b := by
    intro e
    rcases hv' with h | h
    · exact hnb (by rw [← h, e])
    · rw [e] at h; have := Option.some.inj h; omega
  have S2 : Step (fun k => k = b) w1 (w1.setCell ⟨b, 0, none⟩ v') := (Step.refl (fun k => k = b) w1).setCell ⟨b, 0, none⟩ v' (.inl rfl)
  have hx : u8s (bitsOf N L) ++ [.int .u8 (z : Int)] = u8s (bitsOf (N + z * 2 ^ L) (L + 1)) := by
    rw [bitsOf_push N L z W.lt hz, u8s_append]; rfl
  rw [hx] at hown
  refine ⟨c0, f0, v', ⟨?_, ?_, ?_, hne, lt_of_pow W.lt (by omega)⟩, ?_, ?_⟩
  · rw [World.cell?_setCell_same _ _ _ c0]
  · simp [f0]
  · exact owns_step hown S2 (fun k hk hb => hne (by rw [hk, hb]))
  · refine (St.mono (fun i hi => .inr hi)).trans S2 (fun i hi => .inl (.inl hi))
  · rcases hv' with h | h
    · exact .inl h
    · exact .inr ⟨_, h, by omega⟩

theorem fitB_cases {v n m : Int} (hm : m ≤ 24) (h : fitB v n m = false) : n < 0 ∨ (0 ≤ n ∧ m < n) ∨ (0 ≤ n ∧ n ≤ m ∧ v < 0) ∨ (0 ≤ n ∧ n ≤ m ∧ 0 ≤ v ∧ 2 ^ n.toNat ≤ v ∧ wrap64 (2 ^ n.toNat) = 2 ^ n.toNat) := by
  unfold fitB at h
  rw [decide_eq_false_iff_not] at h
  by_cases h1 : 0 ≤ n
  · by_cases h2 : n ≤ m
    · by_cases h3 : 0 ≤ v
      · exact .inr (.inr (.inr ⟨h1, h2, h3, by by_cases h4 : 2 ^ n.toNat ≤ v; exact h4; exact absurd ⟨h1, h2, h3, by omega⟩ h,
          wrap64_id _ (by have := ipow_pos n.toNat; omega) (by have := ipow_le_24 n.toNat (by omega); omega)⟩))
      · exact .inr (.inr (.inl ⟨h1, h2, by omega⟩))
    · exact .inr (.inl ⟨h1, by omega⟩)
  · exact .inl (by omega)

set_option maxHeartbeats 400000 in
theorem xput_no (b : Nat) (v n : Int) (w : World) (h : fitB v n 24 = false) : Calls Tryd.prog 5 #[.pointer (some ⟨b, 0, none⟩), .int .i64 v, .int .i64 n] w fun e w' => e = .returned (.int .i64 1) ∧ w' = w := by
  rcases fitB_cases (by omega) h with h1 | ⟨h1, h2⟩ | ⟨h1, h2, h3⟩ | ⟨h1, h2, h3, h4, h5⟩
  all_goals
    clear h
    go_enter Tryd.func5, Tryd.ntmps5
    go_wp2
    go_ret
    exact ⟨rfl, rfl⟩

theorem bit_form' (v m : Nat) (hv : v < 16777216) : bits BinOp.and IntKind.i64 ((v : Int) / 2 ^ m) 1 = ((v / 2 ^ m % 2 : Nat) : Int) := by
  have e : ((v : Int) / 2 ^ m) = ((v / 2 ^ m : Nat) : Int) := by simp
  rw [e]
  have := Nat.div_le_self v (2 ^ m)
  rw [i64_and1 _ (Int.natCast_nonneg _) (by omega)]
  simp

set_option maxHeartbeats 1000000 in
theorem xput_ok (b : Nat) (s : Value) (N L v n : Nat) (w : World) (h : Wx w b s N L) (hn : n ≤ 24) (hv : v < 2 ^ n) (hL : L ≤ 1000000000) :
    Calls Tryd.prog 5 #[.pointer (some ⟨b, 0, none⟩), .int .i64 v, .int .i64 n] w fun e w' => e = .returned (.int .i64 0) ∧ WroteX w w' b s (N + v * 2 ^ L) (L + n) := by
  obtain ⟨i0, hi, hz0, hz1, hz2⟩ := info_parts Tryd.info5
  have hv2 : v < 16777216 := Nat.lt_of_lt_of_le hv (pow_le_24 n hn)
  have hw : wrap64 (2 ^ n) = 2 ^ n := wrap64_id _ (by have := ipow_pos n; omega) (by have := ipow_le_24 n (by omega); omega)
  have h1 : (v : Int) < 2 ^ n := by
    have : ((2 ^ n : Nat) : Int) = (2 : Int) ^ n := by simp
    omega
  have hn24 : (n : Int) ≤ 24 := by omega
  have H := hidden h
  have Hv := hidden hv
  clear h hv
  go_enter Tryd.func5, Tryd.ntmps5
  go_wp2
  go_loopw [7] (fun i wr => ∃ d : Nat, d ≤ n ∧ i = .int .i64 d ∧ WroteX w wr b s (N + (v % 2 ^ d) * 2 ^ L) (L + d)) (fun i _ => n - (intOf i).toNat)
  case atStart => exact ⟨0, Nat.zero_le _, rfl, s, by simpa [Nat.mod_one] using H.out, Step.refl _ _, .inl rfl⟩
  case round =>
    obtain ⟨d, hd, rfl, s', W, St, Wh⟩ := hrel
    by_cases hlt : d < n
    · have c0 := W.out
      have f0 := W.f0
      obtain ⟨ao, cap, hs⟩ := own_slice W.own
      have hbit := bit_form' v d hv2
      have hz : v / 2 ^ d % 2 < 2 := Nat.mod_lt _ (by omega)
      have HW := hidden W
      have hfin : Hid (∀ w', WroteX wr w' b s' (N + v % 2 ^ d * 2 ^ L + v / 2 ^ d % 2 * 2 ^ (L + d)) (L + d + 1) → WroteX w w' b s (N + v % 2 ^ (d + 1) * 2 ^ L) (L + (d + 1))) := by
        intro w' h
        have R := WroteX.after St Wh h
        have e := num_step N v d 1 L
        rw [Nat.pow_one] at e
        rw [e] at R
        exact R
      have HO := hidden W.own
      rw [hs] at c0 HO
      generalize hzz : v / 2 ^ d % 2 = z at *
      have Hs := hidden hs
      have hd1 : (d : Int) < (n : Int) := by omega
      have hz1' : (z : Int) ≤ 1 := by omega
      clear W St Wh hs hzz
      go_wp2_with (at_builtin; refine wpList_append_at _ rfl (.tmp 34) (.tmp 41) 23 rfl 5 i0 (.int .u8 0) 1 1 Tryd.underlying23 hi hz0 hz1 hz2 rfl (by decide) _ _ _ rfl (HO.out.alloc _) ⟨wr.heap.size, 0, none⟩ 1 1 [.int .u8 z] rfl rfl ?c1 ?c2 ?c3 ?c4 ?_)
      case c1 => exact cell_one_new _ _ _
      case c2 => intro u hu; simp at hu; subst hu; rfl
      case c3 => unfold maxLen; omega
      case c4 => omega
      intro v' w1 hown' hgrow hnil hv'
      rw [← Hs.out] at hgrow hv'
      obtain ⟨d0, d1, R⟩ := HW.out.push hz hown' hgrow hv'
      obtain ⟨ao', cap', hvv⟩ := own_slice hown'
      have HF := hidden (hfin.out _ R)
      rw [hvv] at HF
      rw [hvv]
      clear hown' hgrow hnil hv' R hvv hfin
      go_wp2
      go_roundw
      case rel => exact ⟨d + 1, by omega, by go_num, HF.out⟩
      case measure => simp [intOf]; omega
    · have hdn : d = n := by omega
      subst hdn
      have H2 := hidden (show WroteX w wr b s (N + v * 2 ^ L) (L + d) by
        have e : v % 2 ^ d = v := Nat.mod_eq_of_lt Hv.out
        rw [e] at W; exact ⟨s', W, St, Wh⟩)
      clear W St Wh
      go_wp2
      go_ret
      exact ⟨rfl, H2.out⟩



set_option maxHeartbeats 400000 in
theorem xcode_no (b : Nat) (v n : Int) (w : World) (h : fitB v n 15 = false) : Calls Tryd.prog 8 #[.pointer (some ⟨b, 0, none⟩), .int .i64 v, .int .i64 n] w fun e w' => e = .returned (.int .i64 1) ∧ w' = w := by
  rcases fitB_cases (by omega) h with h1 | ⟨h1, h2⟩ | ⟨h1, h2, h3⟩ | ⟨h1, h2, h3, h4, h5⟩
  all_goals
    clear h
    go_enter Tryd.func8, Tryd.ntmps8
    go_wp2
    go_ret
    exact ⟨rfl, rfl⟩

set_option maxHeartbeats 1000000 in
theorem xcode_ok (b : Nat) (s : Value) (N L v n : Nat) (w : World) (h : Wx w b s N L) (hn : n ≤ 15) (hv : v < 2 ^ n) (hL : L ≤ 1000000000) :
    Calls Tryd.prog 8 #[.pointer (some ⟨b, 0, none⟩), .int .i64 v, .int .i64 n] w fun e w' => e = .returned (.int .i64 0) ∧ WroteX w w' b s (N + rv v n n * 2 ^ L) (L + n) := by
  obtain ⟨i0, hi, hz0, hz1, hz2⟩ := info_parts Tryd.info5
  have hv2 : v < 16777216 := Nat.lt_of_lt_of_le hv (pow_le_24 n (by omega))
  have hw : wrap64 (2 ^ n) = 2 ^ n := wrap64_id _ (by have := ipow_pos n; omega) (by have := ipow_le_24 n (by omega); omega)
  have h1 : (v : Int) < 2 ^ n := by
    have : ((2 ^ n : Nat) : Int) = (2 : Int) ^ n := by simp
    omega
  have hn15 : (n : Int) ≤ 15 := by omega
  have H := hidden h
  clear h hv
  go_enter Tryd.func8, Tryd.ntmps8
  go_wp2
  go_loopw [7] (fun i wr => ∃ j : Nat, j ≤ n ∧ i = .int .i64 ((n : Int) - (j : Int) - 1) ∧ WroteX w wr b s (N + rv v n j * 2 ^ L) (L + j)) (fun i _ => (intOf i + 1).toNat)
  case atStart => exact ⟨0, Nat.zero_le _, by simp, s, by simpa [rv] using H.out, Step.refl _ _, .inl rfl⟩
  case round =>
    obtain ⟨j, hj, rfl, s', W, St, Wh⟩ := hrel
    by_cases hlt : j < n
    · have c0 := W.out
      have f0 := W.f0
      obtain ⟨ao, cap, hs⟩ := own_slice W.own
      obtain ⟨m, hm, hm1⟩ : ∃ m : Nat, n - 1 - j = m ∧ (n : Int) - (j : Int) - 1 = (m : Int) := ⟨n - 1 - j, rfl, by omega⟩
      have hbit := bit_form' v m hv2
      have hz : v / 2 ^ m % 2 < 2 := Nat.mod_lt _ (by omega)
      have HW := hidden W
      have hfin : Hid (∀ w', WroteX wr w' b s' (N + rv v n j * 2 ^ L + v / 2 ^ m % 2 * 2 ^ (L + j)) (L + j + 1) → WroteX w w' b s (N + rv v n (j + 1) * 2 ^ L) (L + (j + 1))) := by
        intro w' h
        have R := WroteX.after St Wh h
        have e : N + rv v n j * 2 ^ L + v / 2 ^ m % 2 * 2 ^ (L + j) = N + rv v n (j + 1) * 2 ^ L := by
          simp only [rv, hm]
          rw [Nat.pow_add, Nat.add_mul, Nat.add_assoc]
          congr 2
          ac_rfl
        rw [e] at R
        exact R
      have HO := hidden W.own
      rw [hs] at c0 HO
      rw [hm1]
      have Hm1 := hidden hm1
      have hm15 : m ≤ 14 := by omega
      generalize hzz : v / 2 ^ m % 2 = z at *
      have Hs := hidden hs
      have hz1' : (z : Int) ≤ 1 := by omega
      clear W St Wh hs hzz hm hm1
      go_wp2_with (at_builtin; refine wpList_append_at _ rfl (.tmp 35) (.tmp 42) 23 rfl 5 i0 (.int .u8 0) 1 1 Tryd.underlying23 hi hz0 hz1 hz2 rfl (by decide) _ _ _ rfl (HO.out.alloc _) ⟨wr.heap.size, 0, none⟩ 1 1 [.int .u8 z] rfl rfl ?c1 ?c2 ?c3 ?c4 ?_)
      case c1 => exact cell_one_new _ _ _
      case c2 => intro u hu; simp at hu; subst hu; rfl
      case c3 => unfold maxLen; omega
      case c4 => omega
      intro v' w1 hown' hgrow hnil hv'
      rw [← Hs.out] at hgrow hv'
      obtain ⟨d0, d1, R⟩ := HW.out.push hz hown' hgrow hv'
      obtain ⟨ao', cap', hvv⟩ := own_slice hown'
      have HF := hidden (hfin.out _ R)
      rw [hvv] at HF
      rw [hvv]
      clear hown' hgrow hnil hv' R hvv hfin
      go_wp2
      go_roundw
      case rel => exact ⟨j + 1, by omega, by have := Hm1.out; congr 1; omega, HF.out⟩
      case measure => simp [intOf]
    · have hdn : j = n := by omega
      subst hdn
      have H2 := hidden (show WroteX w wr b s (N + rv v j j * 2 ^ L) (L + j) from ⟨s', W, St, Wh⟩)
      have hneg : ((j : Int) - (j : Int) - 1) = -1 := by omega
      rw [hneg]
      clear W St Wh hneg
      go_wp2
      go_ret
      exact ⟨rfl, H2.out⟩

end Go.Proofs.YtkaibpibnkmmbaaDoor
