/-
  The walk of the law on edges.
-/
import Derived.Test.YtelengfdbhambaaRawR
import Derived.Test.YtelengfdbhambaaRawW
namespace Go.Proofs.Ytelengfdbhambaa
open Go.RowKit

theorem Rd.lt {w : World} {v : Value} {B : List Nat} (h : Rd w v B) : ∀ a n c, v = .slice (some a) n c → B ≠ [] → a.block < w.heap.size := by
  obtain ⟨ao, cap, rfl, h1, h2⟩ := h
  intro a n c hv hne
  injection hv with e1
  obtain ⟨b, off, rfl, hc⟩ := h2 a e1 hne
  exact World.block_lt_of_cell? w _ (hc 0 (List.length_pos_iff.2 hne))

/-- A row that came in, handed to a Writer that was made since. -/
theorem Src.mk' {w w1 : World} {b : Nat} {s v : Value} {B : List Nat} (h : Rd w v B) (hB : ∀ x ∈ B, x < 256) (St : Step (fun _ => False) w w1) (hb : w.heap.size ≤ b) (hs : ∀ k, s.ownBlock = some k → w.heap.size ≤ k) : Src w1 b s v B := by
  refine ⟨h.step St (fun _ _ _ _ _ h => h), fun a n c hv hne ho => ?_, hB⟩
  have := h.lt a n c hv hne
  rcases ho with e | e
  · omega
  · have := hs _ e; omega

theorem flat_one (B : List Nat) : flat (fun _ => B) 1 = B := by simp [flat]

set_option maxHeartbeats 1000000 in
/-- Raw of one row that came in. -/
theorem raw_one (w0 : World) (b : Nat) (s v : Value) (N L : Nat) (B : List Nat) (w : World) (St : Step (fun _ => False) w0 w) (h : Wr w b s N L) (hb : w0.heap.size ≤ b) (hs : ∀ k, s.ownBlock = some k → w0.heap.size ≤ k)
    (hR : Rd w0 v B) (hB : ∀ x ∈ B, x < 256) (h8 : L % 8 = 0) (hL : L + 8 * B.length ≤ 1099511627776) :
    Calls Try.prog 18 #[.pointer (some ⟨b, 0, none⟩), .slice (some ⟨w.heap.size, 0, none⟩) 1 1] (w.alloc (.cells #[v] 27)) fun e w' => e = .returned (.int .i64 0) ∧
      ∃ s', Wr w' b s' (N + numOf B * 2 ^ L) (L + 8 * B.length) ∧ Step (fun _ => False) w0 w' ∧ ∀ k, s'.ownBlock = some k → w0.heap.size ≤ k := by
  have hbw : b < w.heap.size := World.block_lt_of_cell? w _ h.out
  have S1 : Step (fun _ => False) w (w.alloc (.cells #[v] 27)) := (Step.refl _ _).alloc _
  have S2 := St.made S1
  have W2 := h.step S1 (fun h => h) (fun _ _ h => h)
  have hq : ¬ Of b s w.heap.size := by
    rintro (e | e)
    · omega
    · have := (h.own.lt _ e).2; omega
  have hcl : ∀ i, i < 1 → (w.alloc (.cells #[v] 27)).cell? ⟨w.heap.size, i, none⟩ = some v := by
    intro i hi
    have : i = 0 := by omega
    subst this
    simp
  have H := raw_ok b w.heap.size 1 s N L (fun _ => v) (fun _ => B) _ W2 h8 hq hcl (fun _ _ => Src.mk' hR hB S2 hb hs) (by omega) (by rw [flat_one]; exact hL)
  rw [flat_one] at H
  refine H.mono ?_
  rintro e w' ⟨rfl, s', W, T, Wh⟩
  exact ⟨rfl, s', W, S2.own T hb hs Wh⟩

set_option maxHeartbeats 400000 in
theorem edges_out (n : Int) (ao : Option Addr) (len cap : Nat) (w : World) (hlen : len ≤ 9223372036854775807) (h : ¬ (0 ≤ n ∧ n ≤ 24 ∧ len ≤ 2000)) :
    Calls Try.prog 8 #[.int .i64 n, .slice ao len cap] w fun e w' => e = .returned (.bool true) ∧ Below w.heap.size w w' := by
  have hc : n < 0 ∨ (0 ≤ n ∧ 24 < n) ∨ (0 ≤ n ∧ n ≤ 24 ∧ 2000 < len) := by omega
  clear h
  rcases hc with h1 | ⟨h1, h2⟩ | ⟨h1, h2, h3⟩
  all_goals
    go_enter Try.func8, Try.ntmps8
    go_wp2_with (go_at_call 25; refine (known_any _).mono ?_; rintro e w' ⟨rfl, hs⟩; have HK := hidden hs; clear hs)
    go_ret
    exact ⟨rfl, HK.out.below _ (Nat.le_refl _) (fun _ h => h.elim)⟩

set_option maxHeartbeats 1000000 in
theorem edges_on (n : Nat) (ao : Option Addr) (cap : Nat) (B : List Nat) (w : World) (hR : Rd w (.slice ao B.length cap) B) (hB : ∀ x ∈ B, x < 256) (hn : n ≤ 24) (hl : B.length ≤ 2000) (h8 : n % 8 = 0) :
    Calls Try.prog 8 #[.int .i64 n, .slice ao B.length cap] w fun e w' => e = .returned (.bool true) ∧ Below w.heap.size w w' := by
  have HR := hidden hR
  have HB := hidden hB
  have H8 := hidden h8
  have hm : ((n : Int) % 8 == 0) = true := by rw [beq_iff_eq]; omega
  have hm' : ((n : Int) % 8 != 0) = false := by simp; omega
  generalize hlen : B.length = len at *
  have Hlen := hidden hlen
  clear hR hB h8 hlen
  go_enter Try.func8, Try.ntmps8
  go_wp2_with fail
  refine (new_ok _).mono ?_
  rintro e w0 ⟨rfl, W0, S0⟩
  have O0 : ∀ k, (Value.slice none 0 0).ownBlock = some k → w.heap.size ≤ k := fun k hk => by simp [Value.ownBlock] at hk
  have HS0 := hidden (And.intro S0 O0)
  have HW0 := hidden W0
  clear S0 O0 W0
  go_wp2_with fail
  refine (put_ok w.heap.size _ 0 0 0 n _ HW0.out hn (Nat.two_pow_pos _) (by omega)).mono ?_
  rintro e w1 ⟨rfl, s1, W1, T1, H1⟩
  have HS1 := hidden (HS0.out.1.own T1 (Nat.le_refl _) HS0.out.2 H1)
  have W1' : Wr w1 w.heap.size s1 0 n := by simpa using W1
  have HW1 := hidden W1'
  clear W1 T1 H1 W1'
  go_wp2_with fail
  refine (raw_one w w.heap.size _ _ _ _ B _ HS1.out.1 HW1.out (Nat.le_refl _) HS1.out.2 HR.out HB.out H8.out (by have := Hlen.out; omega)).mono ?_
  rintro e w2 ⟨rfl, s2, W2, T2, O2⟩
  have W2' : Wr w2 w.heap.size s2 (numOf B * 2 ^ n) (n + 8 * B.length) := by simpa using W2
  have HW2 := hidden W2'
  have HS2 := hidden (And.intro T2 O2)
  clear W2 T2 O2 W2'
  go_wp2_with fail
  refine (bytes_any w.heap.size _ _ _ _ HW2.out (by have := Hlen.out; omega)).mono ?_
  rintro e w3 ⟨v3, rfl, W3, T3, H3⟩
  have HS3 := hidden (HS2.out.1.made T3)
  have HR3 := hidden (Rd.of_own W3)
  clear W3 T3 H3
  go_wp2_with fail
  refine (of_any _ _ _ _ HR3.out (by have := Hlen.out; omega)).mono ?_
  rintro e w4 ⟨b, s, rfl, R4, T4, H4, H4'⟩
  have HS4 := hidden (HS3.out.made T4)
  have HR4 := hidden R4
  have Hb := hidden (show w.heap.size ≤ b from Nat.le_trans HS3.out.size H4)
  clear R4 T4 H4 H4'
  generalize hm : (n + 8 * B.length + 7) / 8 = m at *
  have Hm := hidden hm
  clear hm
  go_wp2_with fail
  refine (get_ok b s _ m 0 n _ HR4.out (by have := Hlen.out; have := Hm.out; omega) hn (by have := Hm.out; omega)).mono ?_
  rintro e w5 ⟨rfl, R5, T5⟩
  have HS5 := hidden (HS4.out.trans T5 (fun i hi => .inr (by have := Hb.out; omega)))
  have R5' : Rr w5 b s (numOf B * 2 ^ n) m n := by simpa using R5
  have HR5 := hidden R5'
  clear R5 T5 R5'
  generalize (numOf B * 2 ^ n / 2 ^ 0 % 2 ^ n) = gg
  go_wp2_with fail
  by_cases hne : 0 < len
  · refine (rraw_ok b s _ m n 1 _ HR5.out (by have := Hlen.out; have := Hm.out; omega) H8.out (by have := Hlen.out; have := Hm.out; omega)).mono ?_
    rintro e w6 ⟨v6, rfl, _, _, R6, T6⟩
    have HS6 := hidden (HS5.out.trans T6 (fun i hi => .inr (by have := Hb.out; omega)))
    clear R6 T6
    have hne' : decide ((0 : Int) < (len : Int)) = true := by simp; omega
    go_wp2_with (go_at_call 25; refine (known_any _).mono ?_; rintro e w' ⟨rfl, hs⟩; have HK := hidden hs; clear hs)
    go_ret
    exact ⟨rfl, (HS6.out.made HK.out).below _ (Nat.le_refl _) (fun _ h => h.elim)⟩
  · refine (rraw_short b s _ m n 1 _ HR5.out (by have := Hlen.out; have := Hm.out; omega) (by omega) H8.out (by have := Hlen.out; have := Hm.out; have := H8.out; omega)).mono ?_
    rintro e w6 ⟨rfl, q, rfl⟩
    have hne' : decide ((0 : Int) < (len : Int)) = false := by simp; omega
    go_wp2_with (go_at_call 25; refine (known_any _).mono ?_; rintro e w' ⟨rfl, hs⟩; have HK := hidden hs; clear hs)
    go_ret
    exact ⟨rfl, ((HS5.out.drewN _).made HK.out).below _ (Nat.le_refl _) (fun _ h => h.elim)⟩

set_option maxHeartbeats 1000000 in
theorem edges_off (n : Nat) (ao : Option Addr) (cap : Nat) (B : List Nat) (w : World) (hR : Rd w (.slice ao B.length cap) B) (hB : ∀ x ∈ B, x < 256) (hn : n ≤ 24) (hl : B.length ≤ 2000) (h8 : n % 8 ≠ 0) :
    Calls Try.prog 8 #[.int .i64 n, .slice ao B.length cap] w fun e w' => e = .returned (.bool true) ∧ Below w.heap.size w w' := by
  have HR := hidden hR
  have HB := hidden hB
  have H8 := hidden h8
  have hm : ((n : Int) % 8 == 0) = false := by rw [beq_eq_false_iff_ne]; omega
  have hm' : ((n : Int) % 8 != 0) = true := by rw [bne_iff_ne]; omega
  generalize hlen : B.length = len at *
  have Hlen := hidden hlen
  clear hR hB h8 hlen
  go_enter Try.func8, Try.ntmps8
  go_wp2_with fail
  refine (new_ok _).mono ?_
  rintro e w0 ⟨rfl, W0, S0⟩
  have O0 : ∀ k, (Value.slice none 0 0).ownBlock = some k → w.heap.size ≤ k := fun k hk => by simp [Value.ownBlock] at hk
  have HS0 := hidden (And.intro S0 O0)
  have HW0 := hidden W0
  clear S0 O0 W0
  go_wp2_with fail
  refine (put_ok w.heap.size _ 0 0 0 n _ HW0.out hn (Nat.two_pow_pos _) (by omega)).mono ?_
  rintro e w1 ⟨rfl, s1, W1, T1, H1⟩
  have HS1 := hidden (HS0.out.1.own T1 (Nat.le_refl _) HS0.out.2 H1)
  have W1' : Wr w1 w.heap.size s1 0 n := by simpa using W1
  have HW1 := hidden W1'
  clear W1 T1 H1 W1'
  go_wp2_with fail
  refine (raw_no w.heap.size s1 0 n _ _ (HW1.out.step ((Step.refl (fun _ => False) _).alloc _) (fun h => h) (fun _ _ h => h)) H8.out).mono ?_
  rintro e wx ⟨rfl, hwx⟩
  rw [hwx]
  clear hwx wx
  have HS1a := hidden (HS1.out.1.alloc (.cells #[Value.slice ao len cap] 27))
  have HW1a := hidden (HW1.out.step ((Step.refl (fun _ => False) _).alloc (.cells #[Value.slice ao len cap] 27)) (fun h => h) (fun _ _ h => h))
  go_wp2_with fail
  refine (align_any w.heap.size s1 0 n _ HW1a.out).mono ?_
  rintro e w1b ⟨rfl, s1b, W1b, T1b, H1b⟩
  have HS1b := hidden (HS1a.out.own T1b (Nat.le_refl _) HS1.out.2 H1b)
  have HW1b := hidden W1b
  clear W1b T1b H1b
  go_wp2_with fail
  refine (raw_one w w.heap.size _ _ _ _ B _ HS1b.out.1 HW1b.out (Nat.le_refl _) HS1b.out.2 HR.out HB.out (by unfold up8; omega) (by have := Hlen.out; unfold up8; omega)).mono ?_
  rintro e w2 ⟨rfl, s2, W2, T2, O2⟩
  have W2' : Wr w2 w.heap.size s2 (numOf B * 2 ^ up8 n) (up8 n + 8 * B.length) := by simpa using W2
  have HW2 := hidden W2'
  have HS2 := hidden (And.intro T2 O2)
  clear W2 T2 O2 W2'
  have hu : Hid (up8 n = (n + 7) / 8 * 8) := rfl
  go_wp2_with fail
  refine (bytes_any w.heap.size _ _ _ _ HW2.out (by have := Hlen.out; have := hu.out; omega)).mono ?_
  rintro e w3 ⟨v3, rfl, W3, T3, H3⟩
  have HS3 := hidden (HS2.out.1.made T3)
  have HR3 := hidden (Rd.of_own W3)
  clear W3 T3 H3
  go_wp2_with fail
  refine (of_any _ _ _ _ HR3.out (by have := Hlen.out; have := hu.out; omega)).mono ?_
  rintro e w4 ⟨b, s, rfl, R4, T4, H4, H4'⟩
  have HS4 := hidden (HS3.out.made T4)
  have HR4 := hidden R4
  have Hb := hidden (show w.heap.size ≤ b from Nat.le_trans HS3.out.size H4)
  clear R4 T4 H4 H4'
  generalize hm : (up8 n + 8 * B.length + 7) / 8 = m at *
  have Hm := hidden hm
  clear hm
  go_wp2_with fail
  refine (get_ok b s _ m 0 n _ HR4.out (by have := Hlen.out; have := Hm.out; have := hu.out; omega) hn (by have := Hm.out; have := hu.out; omega)).mono ?_
  rintro e w5 ⟨rfl, R5, T5⟩
  have HS5 := hidden (HS4.out.trans T5 (fun i hi => .inr (by have := Hb.out; omega)))
  have R5' : Rr w5 b s (numOf B * 2 ^ up8 n) m n := by simpa using R5
  have HR5 := hidden R5'
  clear R5 T5 R5'
  generalize (numOf B * 2 ^ up8 n / 2 ^ 0 % 2 ^ n) = gg
  go_wp2_with fail
  refine (rraw_no b s _ m n 1 _ HR5.out (.inr H8.out)).mono ?_
  rintro e wx ⟨rfl, hwx⟩
  rw [hwx]
  clear hwx wx
  go_wp2_with fail
  refine (ralign_any b s _ m n _ HR5.out (by have := Hlen.out; have := Hm.out; have := hu.out; omega)).mono ?_
  rintro e w6 ⟨rfl, R6, T6⟩
  have HS6 := hidden (HS5.out.trans T6 (fun i hi => .inr (by have := Hb.out; omega)))
  have HR6 := hidden R6
  clear R6 T6
  have hk : ((((n + 7) / 8 : Nat) : Int) == ((n : Int) + 7) / 8) = true := by rw [beq_iff_eq]; omega
  go_wp2_with fail
  refine (rraw_ok b s _ m _ len _ HR6.out (by have := Hlen.out; have := Hm.out; have := hu.out; omega) (by omega) (by have := Hlen.out; have := Hm.out; have := hu.out; omega)).mono ?_
  rintro e w7 ⟨v7, rfl, W7, O7, R7, T7⟩
  have HS7 := hidden (HS6.out.trans T7 (fun i hi => .inr (by have := Hb.out; omega)))
  have HR7 := hidden R7
  have HV7 := hidden (show Rd w7 v7 B by
    have := Rd.of_own W7
    rw [← hu.out, Nat.mul_div_cancel _ (Nat.two_pow_pos _), ← Hlen.out, bytesOf_numOf B HB.out] at this
    exact this)
  clear W7 O7 R7 T7
  go_wp2_with fail
  refine (same_any _ _ B B _ HV7.out (HR.out.step HS7.out (fun _ _ _ _ _ h => h)) (by have := Hlen.out; omega)).mono ?_
  rintro e w8 ⟨he, q, rfl⟩
  rw [decide_eq_true rfl] at he
  subst he
  go_wp2_with fail
  refine (left_any b s _ m _ _ (HR7.out.drewN _) (by have := Hlen.out; have := Hm.out; have := hu.out; omega)).mono ?_
  rintro e w9 ⟨rfl, q2, rfl⟩
  have hz : ((8 * m - ((n + 7) / 8 * 8 + 8 * len) : Nat) : Int) = 0 := by have := Hlen.out; have := Hm.out; have := hu.out; omega
  go_wp2_with (go_at_call 25; refine (known_any _).mono ?_; rintro e w' ⟨rfl, hs⟩; have HK := hidden hs; clear hs)
  go_ret
  exact ⟨rfl, ((HS7.out.drewN _).made HK.out).below _ (Nat.le_refl _) (fun _ h => h.elim)⟩

end Go.Proofs.Ytelengfdbhambaa
