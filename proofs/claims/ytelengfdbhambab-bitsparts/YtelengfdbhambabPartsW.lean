/-
  The walk of the law on numbers in parts.
-/
import Derived.Test.YtelengfdbhambabKnown
namespace Go.Proofs.Ytelengfdbhambab
open Go.RowKit

theorem Wr.step' {S : Nat → Prop} {w w' : World} {b : Nat} {s : Value} {N L : Nat} (R : Wr w b s N L) (hs : Step S w w') (h1 : ¬ S b) (h2 : ∀ k, s.ownBlock = some k → ¬ S k) : Wr w' b s N L := by
  have hb : b < w.heap.size := World.block_lt_of_cell? w _ R.out
  exact ⟨hs.cell R.out h1, hs.cell R.free h1, (hs.frozen (p := ⟨b, 0, none⟩) hb h1).trans R.f0, (hs.frozen (p := ⟨b, 1, none⟩) hb h1).trans R.f1, owns_step R.own hs h2, R.ne, R.lt⟩

/-- Two Writers that were made since w, apart from one another. -/
structure Two (w w1 : World) (a b : Nat) (sa sb : Value) (N L N' L' : Nat) : Prop where
  A : Wr w1 a sa N L
  B : Wr w1 b sb N' L'
  st : Step (fun _ => False) w w1
  ha : w.heap.size ≤ a
  hb : w.heap.size ≤ b
  hsa : ∀ k, sa.ownBlock = some k → w.heap.size ≤ k
  hsb : ∀ k, sb.ownBlock = some k → w.heap.size ≤ k
  ne : a ≠ b
  n1 : sa.ownBlock ≠ some b
  n2 : sb.ownBlock ≠ some a
  n3 : ∀ k, sa.ownBlock = some k → sb.ownBlock ≠ some k

theorem Two.swap {w w1 : World} {a b : Nat} {sa sb : Value} {N L N' L' : Nat} (T : Two w w1 a b sa sb N L N' L') : Two w w1 b a sb sa N' L' N L :=
  ⟨T.B, T.A, T.st, T.hb, T.ha, T.hsb, T.hsa, T.ne.symm, T.n2, T.n1, fun k h1 h2 => T.n3 k h2 h1⟩

theorem Two.onA {w w1 w2 : World} {a b : Nat} {sa sb : Value} {N L N' L' N2 L2 : Nat} (T : Two w w1 a b sa sb N L N' L') (h : Wrote w1 w2 a sa N2 L2) : ∃ s, Two w w2 a b s sb N2 L2 N' L' := by
  obtain ⟨s, W, St, Wh⟩ := h
  have hbw : b < w1.heap.size := World.block_lt_of_cell? w1 _ T.B.out
  obtain ⟨st, hs⟩ := T.st.own St T.ha T.hsa Wh
  have nb : ¬ Of a sa b := by
    rintro (e | e)
    · exact T.ne e.symm
    · exact T.n1 e
  have nk : ∀ k, sb.ownBlock = some k → ¬ Of a sa k := by
    rintro k hk (e | e)
    · exact T.n2 (by rw [hk, e])
    · exact T.n3 k e hk
  refine ⟨s, W, T.B.step' St nb nk, st, T.ha, T.hb, hs, T.hsb, T.ne, ?_, T.n2, ?_⟩
  · rcases Wh with e | ⟨k, e, hk⟩
    · rw [e]; exact T.n1
    · rw [e]; intro h; have := Option.some.inj h; omega
  · intro k hk h2
    have hlt := (T.B.own.lt k h2).2
    rcases Wh with e | ⟨q, e, hq⟩
    · exact T.n3 k (by rw [← e]; exact hk) h2
    · rw [e] at hk; have := Option.some.inj hk; omega

theorem Two.made {w w1 w2 : World} {a b : Nat} {sa sb : Value} {N L N' L' : Nat} (T : Two w w1 a b sa sb N L N' L') (h : Step (fun _ => False) w1 w2) : Two w w2 a b sa sb N L N' L' :=
  ⟨T.A.step' h (fun h => h) (fun _ _ h => h), T.B.step' h (fun h => h) (fun _ _ h => h), T.st.made h, T.ha, T.hb, T.hsa, T.hsb, T.ne, T.n1, T.n2, T.n3⟩

set_option maxHeartbeats 400000 in
theorem parts_out (v c : Int) (w : World) (h : ¬ (0 ≤ v ∧ v < 16777216 ∧ 0 ≤ c ∧ c ≤ 24)) :
    Calls Try.prog 3 #[.int .i64 v, .int .i64 c] w fun e w' => e = .returned (.bool true) ∧ Below w.heap.size w w' := by
  have hc : v < 0 ∨ (0 ≤ v ∧ 16777216 ≤ v) ∨ (0 ≤ v ∧ v < 16777216 ∧ c < 0) ∨ (0 ≤ v ∧ v < 16777216 ∧ 0 ≤ c ∧ 24 < c) := by omega
  clear h
  rcases hc with h1 | ⟨h1, h2⟩ | ⟨h1, h2, h3⟩ | ⟨h1, h2, h3, h4⟩
  all_goals
    go_enter Try.func3, Try.ntmps3
    go_wp2_with (go_at_call 4; refine (known_any _).mono ?_; rintro e w' ⟨rfl, hs⟩; have HK := hidden hs; clear hs)
    go_ret
    exact ⟨rfl, HK.out.below _ (Nat.le_refl _) (fun _ h => h.elim)⟩

theorem parts_num (v c : Nat) : v % 2 ^ c + v / 2 ^ c * 2 ^ c = v := by
  rw [Nat.mul_comm]
  exact Nat.mod_add_div v (2 ^ c)

set_option maxHeartbeats 1000000 in
theorem parts_in (v c : Nat) (w : World) (hv : v < 16777216) (hc : c ≤ 24) :
    Calls Try.prog 3 #[.int .i64 v, .int .i64 c] w fun e w' => e = .returned (.bool true) ∧ Below w.heap.size w w' := by
  have hmask := i64_mask v c (by omega) (by omega) hc
  have hp1 := Nat.two_pow_pos c
  have hmc : ((v : Int) % 2 ^ c) = ((v % 2 ^ c : Nat) : Int) := by simp
  have hdc : ((v : Int) / 2 ^ c) = ((v / 2 ^ c : Nat) : Int) := by simp
  have hml : v % 2 ^ c < 2 ^ c := Nat.mod_lt _ hp1
  have hdl : v / 2 ^ c < 2 ^ (24 - c) := by
    rw [Nat.div_lt_iff_lt_mul hp1, ← Nat.pow_add, show 24 - c + c = 24 by omega]
    exact hv
  have hsub : (24 : Int) - (c : Int) = ((24 - c : Nat) : Int) := by omega
  have hpn := parts_num v c
  rw [hmc] at hmask
  generalize hx : v % 2 ^ c = x at *
  generalize hy : v / 2 ^ c = y at *
  generalize hd : 24 - c = d at *
  have Hx := hidden hml
  have Hy := hidden hdl
  have Hpn := hidden hpn
  have Hd := hidden hd
  have Hmask := hidden hmask
  have Hdc := hidden hdc
  have Hsub := hidden hsub
  have hvi : (v : Int) < 16777216 := by omega
  have Hv := hidden hv
  clear hmc hx hy hd hml hdl hp1 hpn hmask hdc hsub hv
  obtain ⟨vi, hvv, hv0⟩ : ∃ vi : Int, (v : Int) = vi ∧ 0 ≤ vi := ⟨_, rfl, by omega⟩
  rw [hvv] at hvi Hmask Hdc ⊢
  have Hvv := hidden hvv
  clear hvv
  go_enter Try.func3, Try.ntmps3
  go_wp2_with fail
  refine (new_ok _).mono ?_
  rintro e w0 ⟨rfl, W0, S0⟩
  have HW0 := hidden W0
  have HS0 := hidden S0
  clear S0 W0
  go_wp2_with fail
  refine (new_ok _).mono ?_
  rintro e w1 ⟨rfl, W1, S1⟩
  have O0 : ∀ k, (Value.slice none 0 0).ownBlock = some k → w.heap.size ≤ k := fun k hk => by simp [Value.ownBlock] at hk
  have hlt0 : w.heap.size < w0.heap.size := World.block_lt_of_cell? w0 _ HW0.out.out
  have HT1 := hidden (show Two w w1 w.heap.size w0.heap.size (.slice none 0 0) (.slice none 0 0) 0 0 0 0 from
    ⟨HW0.out.step' S1 (fun h => h) (fun _ _ h => h), W1, HS0.out.made S1, Nat.le_refl _, HS0.out.size, O0, O0, by omega, by simp [Value.ownBlock], by simp [Value.ownBlock], fun k hk => by simp [Value.ownBlock] at hk⟩)
  clear S1 W1 O0 hlt0 HW0 HS0
  generalize w0.heap.size = bb at *
  have P := put_ok w.heap.size _ 0 0 v 24 _ HT1.out.A (by omega) (by have := Hv.out; omega) (by omega)
  rw [Hvv.out] at P
  have HP := hidden P
  clear P
  go_wp2_with fail
  refine HP.out.mono ?_
  rintro e w2 ⟨rfl, h2⟩
  obtain ⟨s2, T2⟩ := HT1.out.onA h2
  have HT2 := hidden T2
  clear T2 h2 HT1
  have hmask := Hmask.out
  have hdc := Hdc.out
  have hsub := Hsub.out
  go_wp2_with fail
  refine (put_ok bb _ 0 0 x c _ HT2.out.B hc Hx.out (by omega)).mono ?_
  rintro e w3 ⟨rfl, h3⟩
  obtain ⟨s3, T3⟩ := HT2.out.swap.onA h3
  have HT3 := hidden T3.swap
  clear T3 h3 HT2
  go_wp2_with fail
  refine (put_ok bb _ _ _ y d _ HT3.out.B (by have := Hd.out; omega) Hy.out (by omega)).mono ?_
  rintro e w4 ⟨rfl, h4⟩
  obtain ⟨s4, T4⟩ := HT3.out.swap.onA h4
  have T4' := T4.swap
  have e1 : 0 + v * 2 ^ 0 = v := by omega
  have e2 : 0 + x * 2 ^ 0 + y * 2 ^ (0 + c) = v := by rw [← Hpn.out]; simp
  have e3 : 0 + c + d = 24 := by have := Hd.out; omega
  rw [e1, e2, e3] at T4'
  have HT4 := hidden T4'
  clear T4 h4 HT3 T4' e1 e2 e3
  go_wp2_with fail
  refine (bytes_any w.heap.size _ _ _ _ HT4.out.A (by omega)).mono ?_
  rintro e w5 ⟨v5, rfl, W5, T5, H5⟩
  have HT5 := hidden (HT4.out.made T5)
  have HR5 := hidden (Rd.of_own W5)
  clear W5 T5 H5 HT4
  go_wp2_with fail
  refine (bytes_any bb _ _ _ _ HT5.out.B (by omega)).mono ?_
  rintro e w6 ⟨v6, rfl, W6, T6, H6⟩
  have HT6 := hidden (HT5.out.made T6)
  have HR6 := hidden (Rd.of_own W6)
  have HR5' := hidden (HR5.out.step T6 (fun _ _ _ _ _ h => h))
  clear W6 T6 H6 HT5
  go_wp2_with fail
  refine (same_any _ _ _ _ _ HR5'.out HR6.out (by rw [bytesOf_length]; omega)).mono ?_
  rintro e w7 ⟨he, q, hw7⟩
  rw [decide_eq_true rfl] at he
  subst he
  have HT7 := hidden (HT6.out.made ((Step.refl (fun _ => False) _).drewN q))
  rw [← hw7] at HT7
  clear hw7 HT6
  go_wp2_with fail
  refine (bytes_any w.heap.size _ _ _ _ HT7.out.A (by omega)).mono ?_
  rintro e w8 ⟨v8, rfl, W8, T8, H8⟩
  obtain ⟨ao, cap, rfl⟩ := own_slice W8
  have HT8 := hidden (HT7.out.st.made T8)
  clear W8 T8 H8 HT7
  go_wp2_with (go_at_call 4; refine (known_any _).mono ?_; rintro e w' ⟨rfl, hs⟩; have HK := hidden hs; clear hs)
  go_ret
  exact ⟨rfl, (HT8.out.made HK.out).below _ (Nat.le_refl _) (fun _ h => h.elim)⟩

end Go.Proofs.Ytelengfdbhambab
