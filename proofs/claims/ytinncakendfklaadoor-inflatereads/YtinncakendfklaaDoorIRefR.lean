/-
  The page's own Reader: Left, Get, Align, Raw.
-/
import Derived.Test.YtinncakendfklaaDoorIRead
namespace Go.Proofs.YtinncakendfklaaDoor
open Go.RowKit
set_option maxRecDepth 100000

/-- The page's Reader in block b reads the row v, the first m bytes of M; so many bits are taken. -/
structure Rx (w : World) (b : Nat) (v : Value) (M m t : Nat) : Prop where
  ins : w.cell? ⟨b, 0, none⟩ = some v
  at_ : w.cell? ⟨b, 1, none⟩ = some (.int .i64 (t : Int))
  f1 : w.frozen? ⟨b, 1, none⟩ = false
  rd : Rd w v (bytesOf M m)
  ne : ∀ a n c, v = .slice (some a) n c → bytesOf M m ≠ [] → a.block ≠ b
  room : ∀ ao n c, v = .slice ao n c → n ≤ c
  le : t ≤ 8 * m

def TookX (w w' : World) (b : Nat) (v : Value) (M m t : Nat) : Prop := Rx w' b v M m t ∧ Step (fun k => k = b) w w'

theorem Rx.step {S : Nat → Prop} {w w' : World} {b : Nat} {v : Value} {M m t : Nat} (R : Rx w b v M m t) (hs : Step S w w') (h1 : ¬ S b) (h2 : ∀ a n c, v = .slice (some a) n c → bytesOf M m ≠ [] → ¬ S a.block) : Rx w' b v M m t := by
  have hb : b < w.heap.size := World.block_lt_of_cell? w _ R.ins
  exact ⟨hs.cell R.ins h1, hs.cell R.at_ h1, (hs.frozen (p := ⟨b, 1, none⟩) hb h1).trans R.f1, R.rd.step hs h2, R.ne, R.room, R.le⟩

theorem Rx.drewN {w : World} {b : Nat} {v : Value} {M m t : Nat} (R : Rx w b v M m t) (n : Nat) : Rx (w.drewN n) b v M m t := ⟨R.ins, R.at_, R.f1, R.rd, R.ne, R.room, R.le⟩

theorem Rx.took {w w1 : World} {b : Nat} {v : Value} {M m t t' : Nat} (R : Rx w1 b v M m t) (St : Step (fun k => k = b) w w1) (h : t' ≤ 8 * m) (z : Int) (hz : z = (t' : Int)) : TookX w (w1.setCell ⟨b, 1, none⟩ (.int .i64 z)) b v M m t' := by
  have hS : Step (fun k => k = b) w1 (w1.setCell ⟨b, 1, none⟩ (.int .i64 z)) := (Step.refl (fun k => k = b) w1).setCell ⟨b, 1, none⟩ (.int .i64 z) (.inl rfl)
  refine ⟨⟨?_, ?_, ?_, R.rd.step hS (fun a n c hv hne hb => R.ne a n c hv hne hb), R.ne, R.room, h⟩, St.trans hS (fun i hi => .inl hi)⟩
  · rw [World.cell?_setCell_other _ _ _ _ (by simp)]; exact R.ins
  · rw [World.cell?_setCell_same _ _ _ R.at_, hz]
  · simp [R.f1]

theorem TookX.made {w w1 w2 : World} {b : Nat} {v : Value} {M m t : Nat} (h : TookX w w1 b v M m t) (St : Step (fun _ => False) w1 w2) : TookX w w2 b v M m t :=
  ⟨h.1.step St (fun h => h) (fun _ _ _ _ _ h => h), h.2.trans St (fun _ h => h.elim)⟩

theorem Rx.slice {w : World} {b : Nat} {v : Value} {M m t : Nat} (R : Rx w b v M m t) : ∃ ao cap, v = .slice ao m cap := by
  obtain ⟨ao, cap, hv, _⟩ := R.rd
  rw [bytesOf_length] at hv
  exact ⟨ao, cap, hv⟩

theorem Rx.cell {w : World} {b : Nat} {v : Value} {M m t : Nat} (R : Rx w b v M m t) (h : t < 8 * m) :
    ∃ g off cap, v = .slice (some ⟨g, off, none⟩) m cap ∧ w.cell? ⟨g, off + t / 8, none⟩ = some (.int .u8 ((M / 2 ^ (8 * (t / 8)) % 256 : Nat) : Int)) := by
  have hne : bytesOf M m ≠ [] := by
    intro e
    have := bytesOf_length M m
    rw [e] at this
    simp at this
    omega
  obtain ⟨ao, cap, hv, h1, h2⟩ := R.rd
  rw [bytesOf_length] at hv
  cases ao with
  | none => exact absurd (h1 rfl).1 hne
  | some a =>
    obtain ⟨g, off, rfl, hc⟩ := h2 a rfl hne
    refine ⟨g, off, cap, hv, ?_⟩
    rw [hc (t / 8) (by rw [bytesOf_length]; omega), bytesOf_getD _ _ _ (by omega)]

set_option maxHeartbeats 400000 in
theorem xleft_any (b : Nat) (v : Value) (M m t : Nat) (w : World) (h : Rx w b v M m t) (hm : m ≤ 137438953600) :
    Calls Tryd.prog 64 #[.pointer (some ⟨b, 0, none⟩)] w fun e w' => e = .returned (.int .i64 ((8 * m - t : Nat) : Int)) ∧ ∃ n, w' = w.drewN n := by
  obtain ⟨ao, cap, hs⟩ := h.slice
  have c0 := h.ins
  have c1 := h.at_
  have hle := h.le
  rw [hs] at c0
  clear h
  go_enter Tryd.func64, Tryd.ntmps64
  go_wp2
  go_quiet (fail)
  go_wp2
  go_ret
  refine ⟨?_, _, rfl⟩
  show Ending.returned (.int .i64 _) = Ending.returned (.int .i64 _)
  congr 2
  omega

set_option maxHeartbeats 400000 in
theorem xalign_any (b : Nat) (v : Value) (M m t : Nat) (w : World) (h : Rx w b v M m t) (hm : m ≤ 137438953600) :
    Calls Tryd.prog 25 #[.pointer (some ⟨b, 0, none⟩)] w fun e w' => e = .returned (.int .i64 (((t + 7) / 8 : Nat) : Int)) ∧ TookX w w' b v M m ((t + 7) / 8 * 8) := by
  have H := hidden h
  have c1 := h.at_
  have f1 := h.f1
  have hle := h.le
  clear h
  go_enter Tryd.func25, Tryd.ntmps25
  go_wp2
  go_ret
  refine ⟨?_, H.out.took (Step.refl _ _) (by omega) _ (by omega)⟩
  show Ending.returned (.int .i64 _) = Ending.returned (.int .i64 _)
  congr 2

set_option maxHeartbeats 400000 in
theorem xget_no (b : Nat) (n : Int) (w : World) (h : ¬ (0 ≤ n ∧ n ≤ 24)) : Calls Tryd.prog 49 #[.pointer (some ⟨b, 0, none⟩), .int .i64 n] w fun e w' => e = .returned (.tuple #[.int .i64 0, .int .i64 1]) ∧ w' = w := by
  by_cases h0 : n < 0
  · go_enter Tryd.func49, Tryd.ntmps49
    go_wp2
    go_ret2
    exact ⟨rfl, rfl⟩
  · have h1 : 24 < n := by omega
    go_enter Tryd.func49, Tryd.ntmps49
    go_wp2
    go_ret2
    exact ⟨rfl, rfl⟩

set_option maxHeartbeats 400000 in
theorem xget_short (b : Nat) (v : Value) (M m t n : Nat) (w : World) (R : Rx w b v M m t) (hm : m ≤ 137438953600) (hn : n ≤ 24) (h : 8 * m - t < n) :
    Calls Tryd.prog 49 #[.pointer (some ⟨b, 0, none⟩), .int .i64 n] w fun e w' => e = .returned (.tuple #[.int .i64 0, .int .i64 2]) ∧ ∃ q, w' = w.drewN q := by
  have H := hidden R
  have h' : ((8 * m - t : Nat) : Int) < (n : Int) := by omega
  clear R h
  go_enter Tryd.func49, Tryd.ntmps49
  go_wp2_with (go_at_call 64; refine (xleft_any b v M m t _ H.out hm).mono ?_; rintro e w' ⟨rfl, q, rfl⟩)
  go_ret2
  exact ⟨rfl, _, rfl⟩

theorem xget_or (M t d T : Nat) (hT : t + d = T) (hd : d + 1 ≤ 24) :
    bits BinOp.or IntKind.i64 ((M / 2 ^ t % 2 ^ d : Nat) : Int) (wrap64 (((M / 2 ^ (8 * (T / 8)) % 256 / 2 ^ (T % 8) % 2 : Nat) : Int) * 2 ^ d)) = ((M / 2 ^ t % 2 ^ (d + 1) : Nat) : Int) := by
  have H := get_or M t d T 1 hT (by omega) hd
  have e : (((M / 2 ^ (8 * (T / 8)) % 256 : Nat) : Int) / 2 ^ (T % 8) % 2 ^ 1 * 2 ^ d) = (((M / 2 ^ (8 * (T / 8)) % 256 / 2 ^ (T % 8) % 2 : Nat) : Int) * 2 ^ d) := by simp
  rw [e] at H
  exact H

theorem u8_bit (y u : Nat) (hy : y < 256) : bits BinOp.and IntKind.u8 ((y : Int) / 2 ^ u) 1 = ((y / 2 ^ u % 2 : Nat) : Int) := by
  have e : ((y : Int) / 2 ^ u) = ((y / 2 ^ u : Nat) : Int) := by simp
  have hl := Nat.div_le_self y (2 ^ u)
  rw [e]
  have := u8_and_nat (y / 2 ^ u) 1 (by omega) (by omega)
  rw [Nat.and_one_is_mod] at this
  exact this

set_option maxHeartbeats 1000000 in
theorem xget_ok (b : Nat) (v : Value) (M m t n : Nat) (w : World) (R : Rx w b v M m t) (hm : m ≤ 137438953600) (hn : n ≤ 24) (h : n ≤ 8 * m - t) :
    Calls Tryd.prog 49 #[.pointer (some ⟨b, 0, none⟩), .int .i64 n] w fun e w' => e = .returned (.tuple #[.int .i64 ((M / 2 ^ t % 2 ^ n : Nat) : Int), .int .i64 0]) ∧ TookX w w' b v M m (t + n) := by
  have H := hidden R
  have h' : (n : Int) ≤ ((8 * m - t : Nat) : Int) := by omega
  have ht := R.le
  clear R
  go_enter Tryd.func49, Tryd.ntmps49
  go_wp2_with (go_at_call 64; refine (xleft_any b v M m t _ H.out hm).mono ?_; rintro e w' ⟨rfl, q, hw⟩; have H2 := hidden (H.out.drewN q); have S2 := hidden ((Step.refl (fun k => k = b) w).drewN q); rw [← hw] at H2 S2; clear hw)
  clear h'
  go_loopw [6, 7] (fun x g wr => ∃ d : Nat, d ≤ n ∧ x = .int .i64 ((M / 2 ^ t % 2 ^ d : Nat) : Int) ∧ g = .int .i64 (d : Int) ∧ TookX w wr b v M m (t + d)) (fun _ g _ => n - (intOf g).toNat)
  case atStart => exact ⟨0, Nat.zero_le _, by simp [Nat.mod_one], rfl, H2.out, S2.out⟩
  case round =>
    obtain ⟨d, hd, rfl, rfl, W, St⟩ := hrel
    by_cases hlt : d < n
    · obtain ⟨g, off, cap, hs, c2⟩ := W.cell (by omega)
      have c0 := W.ins
      have c1 := W.at_
      have f1 := W.f1
      rw [hs] at c0
      obtain ⟨T, hT, hT2⟩ : ∃ T : Nat, t + d = T ∧ T ≤ 1099511628800 := ⟨_, rfl, by omega⟩
      rw [hT] at c1 c2
      have HT := hidden hT
      have HW := hidden W
      have HS := hidden St
      obtain ⟨y, hy, hy2⟩ : ∃ y : Nat, M / 2 ^ (8 * (T / 8)) % 256 = y ∧ y < 256 := ⟨_, rfl, Nat.mod_lt _ (by omega)⟩
      obtain ⟨acc, hacc, hacc2⟩ : ∃ acc : Nat, M / 2 ^ t % 2 ^ d = acc ∧ acc < 16777216 :=
        ⟨_, rfl, Nat.lt_of_lt_of_le (Nat.mod_lt _ (Nat.two_pow_pos _)) (pow_le_24 d (by omega))⟩
      have hT8 : T / 8 < m := by omega
      have hT9 : ((T : Int) % 8).toNat = T % 8 := by omega
      have hbit := u8_bit y (T % 8) hy2
      have hz2 : y / 2 ^ (T % 8) % 2 < 2 := Nat.mod_lt _ (by omega)
      have hfin := xget_or M t d T hT (by omega)
      rw [hy] at c2 hfin
      rw [hacc] at hfin
      rw [hacc]
      generalize hzz : y / 2 ^ (T % 8) % 2 = z at hbit hz2 hfin
      have Hfin := hidden hfin
      clear W St hs hT h ht hy hacc hfin hzz
      go_wp2
      go_quiet (fail)
      go_wp2
      go_roundw
      case rel =>
        refine ⟨d + 1, by omega, by rw [Hfin.out], by go_num, ?_⟩
        exact (HW.out.drewN _).took (HS.out.drewN _) (by have := HT.out; omega) _ (by have := HT.out; omega)
      case measure => simp [intOf]; omega
    · have hdn : d = n := by omega
      subst hdn
      have H3 := hidden (And.intro W St)
      clear W St
      go_wp2
      go_ret2
      exact ⟨rfl, H3.out⟩

set_option maxHeartbeats 400000 in
theorem xraw_no (b : Nat) (v : Value) (M m t : Nat) (n : Int) (w : World) (h : Rx w b v M m t) (hn : n < 0 ∨ t % 8 ≠ 0) :
    Calls Tryd.prog 50 #[.pointer (some ⟨b, 0, none⟩), .int .i64 n] w fun e w' => e = .returned (.tuple #[.slice none 0 0, .int .i64 1]) ∧ w' = w := by
  have c1 := h.at_
  have hle := h.le
  clear h
  by_cases h0 : n < 0
  · go_enter Tryd.func50, Tryd.ntmps50
    go_wp2
    go_ret2
    exact ⟨rfl, rfl⟩
  · have h8 : t % 8 ≠ 0 := by omega
    have h8' : ((t : Int) % 8 != 0) = true := by rw [bne_iff_ne]; omega
    clear hn
    go_enter Tryd.func50, Tryd.ntmps50
    go_wp2
    go_ret2
    exact ⟨rfl, rfl⟩

set_option maxHeartbeats 400000 in
theorem xraw_short (b : Nat) (v : Value) (M m t : Nat) (n : Int) (w : World) (h : Rx w b v M m t) (hm : m ≤ 137438953600) (hn : 0 ≤ n) (h8 : t % 8 = 0) (hs : ((m - t / 8 : Nat) : Int) < n) :
    Calls Tryd.prog 50 #[.pointer (some ⟨b, 0, none⟩), .int .i64 n] w fun e w' => e = .returned (.tuple #[.slice none 0 0, .int .i64 2]) ∧ w' = w := by
  obtain ⟨ao, cap, hv⟩ := h.slice
  have c0 := h.ins
  have c1 := h.at_
  have hle := h.le
  rw [hv] at c0
  have h8' : ((t : Int) % 8 != 0) = false := by simp; omega
  have hs' : (m : Int) - (t : Int) / 8 < n := by omega
  clear h hs
  go_enter Tryd.func50, Tryd.ntmps50
  go_wp2
  go_ret2
  exact ⟨rfl, rfl⟩

theorem Rd.cut {w : World} {M m cap : Nat} {ao : Option Addr} (hr : Rd w (.slice ao m cap) (bytesOf M m)) {j n : Nat} (hj : j + n ≤ m) (ao' : Option Addr) (cap' : Nat) (h1 : ao = none → ao' = none ∧ cap' = 0) (h2 : ∀ g off, ao = some ⟨g, off, none⟩ → n ≠ 0 → ao' = some ⟨g, off + j, none⟩) (h3 : ao ≠ none → ao' ≠ none) :
    Rd w (.slice ao' n cap') (bytesOf (M / 2 ^ (8 * j)) n) := by
  have hl := bytesOf_length (M / 2 ^ (8 * j)) n
  have hl0 := bytesOf_length M m
  obtain ⟨ao0, cap0, e0, r1, r2⟩ := hr
  injection e0 with x1 x2 x3
  subst x1 x3
  refine ⟨ao', cap', by rw [hl], ?_, ?_⟩
  · intro e
    cases ao with
    | none =>
      have hm0 : m = 0 := by rw [← hl0, (r1 rfl).1]; rfl
      have : n = 0 := by omega
      subst this
      exact ⟨rfl, (h1 rfl).2⟩
    | some a => exact absurd e (h3 (by simp))
  · intro a ha hne
    have hn : n ≠ 0 := by intro e; subst e; exact hne rfl
    have hne0 : bytesOf M m ≠ [] := by intro e; rw [e] at hl0; simp at hl0; omega
    cases ao with
    | none => exact absurd (r1 rfl).1 hne0
    | some a0 =>
      obtain ⟨g, off, rfl, hc⟩ := r2 a0 rfl hne0
      rw [h2 g off rfl hn] at ha
      refine ⟨g, off + j, (Option.some.inj ha).symm, fun k hk => ?_⟩
      rw [hl] at hk
      rw [Nat.add_assoc, hc (j + k) (by omega), bytesOf_getD _ _ _ (by omega), bytesOf_getD _ _ _ hk, Nat.div_div_eq_div_mul, ← Nat.pow_add, ← Nat.mul_add]

set_option maxHeartbeats 1000000 in
theorem xraw_ok (b : Nat) (v : Value) (M m t n : Nat) (w : World) (h : Rx w b v M m t) (hm : m ≤ 137438953600) (h8 : t % 8 = 0) (hn : n ≤ m - t / 8) :
    Calls Tryd.prog 50 #[.pointer (some ⟨b, 0, none⟩), .int .i64 n] w fun e w' => ∃ v', e = .returned (.tuple #[v', .int .i64 0]) ∧ w'.ownsRow 0 5 1 v' n (u8s (bytesOf (M / 2 ^ t) n)) ∧ (∀ k, v'.ownBlock = some k → w.heap.size ≤ k) ∧ TookX w w' b v M m (t + 8 * n) := by
  obtain ⟨i0, hi, hz0, hz1, hz2⟩ := info_parts Tryd.info5
  obtain ⟨ao, cap, hv⟩ := h.slice
  have c0 := h.ins
  have c1 := h.at_
  have f1 := h.f1
  have hle := h.le
  have H := hidden h
  have hrd := h.rd
  rw [hv] at c0 hrd
  have h8' : ((t : Int) % 8 != 0) = false := by simp; omega
  have hs' : (n : Int) ≤ (m : Int) - (t : Int) / 8 := by omega
  have ht : 8 * (t / 8) = t := by omega
  have hcap1 : m ≤ cap := h.room _ _ _ hv
  have hbw : b < w.heap.size := World.block_lt_of_cell? w _ h.ins
  have hbw2 : ¬ b = w.heap.size := by omega
  have hT : Hid (∀ z : Int, z = ((t + 8 * n : Nat) : Int) → TookX w (w.setCell ⟨b, 1, none⟩ (.int .i64 z)) b v M m (t + 8 * n)) := fun z hz => H.out.took (Step.refl _ w) (by omega) z hz
  have Hv := hidden hv
  cases ao with
  | none =>
    have hz : cap = 0 ∧ m = 0 := by
      obtain ⟨ao0, cap0, e0, r1, _⟩ := hrd
      injection e0 with x1 x2 x3
      subst x1 x3
      have := (r1 rfl).1
      have hl := bytesOf_length M m
      rw [this] at hl
      exact ⟨(r1 rfl).2, hl.symm⟩
    obtain ⟨rfl, rfl⟩ := hz
    have hn0 : n = 0 := by omega
    have ht0 : t = 0 := by omega
    subst hn0 ht0
    have hown := hidden (show ((w.setCell ⟨b, 1, none⟩ (.int .i64 0)).alloc (.cells #[] 5)).ownsRow 0 5 1 (.slice (some ⟨w.heap.size, 0, none⟩) 0 0) 0 [] by
      have := World.ownsRow_lit (base := 0) (e := 5) (size := 1) (w.setCell ⟨b, 1, none⟩ (.int .i64 0)) #[] 0 (Nat.zero_le _) (Nat.zero_le _) rfl
      simpa using this)
    clear h hv hrd
    go_enter Tryd.func50, Tryd.ntmps50
    go_wp2_with (at_builtin; refine wpList_append_own_none rfl (.tmp 41) (.tmp 50) 22 rfl 0 5 i0 1 Tryd.underlying22 hi _ _ _ rfl hown.out rfl ?_)
    go_ret2
    refine ⟨_, rfl, hown.out, fun k hk => ?_, (hT.out 0 rfl).made ((Step.refl _ _).alloc _)⟩
    simp [Value.ownBlock] at hk
    omega
  | some a =>
    have hgo : ∀ (a' : Addr) (c' : Nat) (z : Int), Rd (w.setCell ⟨b, 1, none⟩ (.int .i64 z)) (.slice (some a') n c') (bytesOf (M / 2 ^ t) n) →
        ((w.setCell ⟨b, 1, none⟩ (.int .i64 z)).alloc (.cells #[] 5)).ownsRow 0 5 1 (.slice (some ⟨w.heap.size, 0, none⟩) 0 0) 0 [] ∧
        ∀ j u, (u8s (bytesOf (M / 2 ^ t) n))[j]? = some u → ((w.setCell ⟨b, 1, none⟩ (.int .i64 z)).alloc (.cells #[] 5)).cell? (a'.add j) = some u := by
      intro a' c' z hR
      refine ⟨?_, (hR.step ((Step.refl (fun _ => False) _).alloc (.cells #[] 5)) (fun _ _ _ _ _ h => h)).news⟩
      have := World.ownsRow_lit (base := 0) (e := 5) (size := 1) (w.setCell ⟨b, 1, none⟩ (.int .i64 z)) #[] 0 (Nat.zero_le _) (Nat.zero_le _) rfl
      simpa using this
    have Hgo := hidden hgo
    have hnm : n ≤ maxLen := by unfold maxLen; omega
    have hfin : Hid (∀ (z : Int) (v' : Value) (w1 : World), z = ((t + 8 * n : Nat) : Int) → w1.ownsRow 0 5 1 v' n (u8s (bytesOf (M / 2 ^ t) n)) → ((w.setCell ⟨b, 1, none⟩ (.int .i64 z)).alloc (.cells #[] 5)).grownBy w1 (Value.slice (some ⟨w.heap.size, 0, none⟩) 0 0).ownBlock →
        (v'.ownBlock = (Value.slice (some ⟨w.heap.size, 0, none⟩) 0 0).ownBlock ∨ v'.ownBlock = some (w.heap.size + 1)) →
        w1.ownsRow 0 5 1 v' n (u8s (bytesOf (M / 2 ^ t) n)) ∧ (∀ k, v'.ownBlock = some k → w.heap.size ≤ k) ∧ TookX w w1 b v M m (t + 8 * n)) := by
      intro z v' w1 hz ho hg hb
      refine ⟨ho, fun k hk => ?_, (hT.out z hz).made (((Step.refl _ _).alloc _).grown hg (fun k hk => ?_))⟩
      · rcases hb with e | e
        · rw [e] at hk; simp [Value.ownBlock] at hk; omega
        · rw [e] at hk; have := Option.some.inj hk; omega
      · simp [Value.ownBlock] at hk
        right
        simp [World.setCell]
        omega
    clear hgo
    have hez : (t : Int) + 8 * (n : Int) = ((t + 8 * n : Nat) : Int) := by omega
    have hT1 := hT.out ((t : Int) + 8 * (n : Int)) hez
    have hrd1 := hT1.1.rd
    rw [hv] at hrd1
    by_cases hc : cap = t / 8
    · have hR := Rd.cut hrd1 (j := t / 8) (n := n) (by omega) (some a) 0 (fun h => by cases h) (fun g off _ h => absurd (show n = 0 by omega) h) (fun h => h)
      rw [ht] at hR
      have HG := hidden (Hgo.out a 0 _ hR)
      have Hez := hidden hez
      clear h hv hrd hR hrd1 hT1 Hgo hez
      go_enter Tryd.func50, Tryd.ntmps50
      go_wp2_with (at_builtin; refine wpList_append_val _ rfl (.tmp 41) (.tmp 50) 22 rfl 5 i0 (.int .u8 0) 1 1 Tryd.underlying22 hi hz0 hz1 hz2 rfl (by decide) _ 0 [] rfl HG.out.1 a n 0 (u8s (bytesOf (M / 2 ^ t) n)) _ rfl ?hxv ?c0 HG.out.2 (u8s_one _) ?c3 ?c4 ?_)
      case hxv => simp [Act.eval]
      case c0 => rw [u8s_length, bytesOf_length]; omega
      case c3 => omega
      case c4 => omega
      intro v' w1 hown' hgrow hnil hv'
      have HF := hidden (hfin.out _ v' w1 Hez.out hown' hgrow hv')
      clear hown' hgrow hnil hv'
      go_wp2
      go_ret2
      exact ⟨_, rfl, HF.out⟩
    · have hR := Rd.cut hrd1 (j := t / 8) (n := n) (by omega) (some (a.add (t / 8))) (cap - t / 8) (fun h => by cases h) (fun g off h _ => by rw [Option.some.inj h, Addr.add_lit]) (fun _ h => by cases h)
      rw [ht] at hR
      have HG := hidden (Hgo.out _ _ _ hR)
      have Hez := hidden hez
      clear h hv hrd hR hrd1 hT1 Hgo hez
      go_enter Tryd.func50, Tryd.ntmps50
      go_wp2_with (at_builtin; refine wpList_append_val _ rfl (.tmp 41) (.tmp 50) 22 rfl 5 i0 (.int .u8 0) 1 1 Tryd.underlying22 hi hz0 hz1 hz2 rfl (by decide) _ 0 [] rfl HG.out.1 (a.add (t / 8)) n (cap - t / 8) (u8s (bytesOf (M / 2 ^ t) n)) _ rfl ?hxv ?c0 HG.out.2 (u8s_one _) ?c3 ?c4 ?_)
      case hxv => simp [Act.eval]
      case c0 => rw [u8s_length, bytesOf_length]; omega
      case c3 => omega
      case c4 => omega
      intro v' w1 hown' hgrow hnil hv'
      have HF := hidden (hfin.out _ v' w1 Hez.out hown' hgrow hv')
      clear hown' hgrow hnil hv'
      go_wp2
      go_ret2
      exact ⟨_, rfl, HF.out⟩

end Go.Proofs.YtinncakendfklaaDoor
