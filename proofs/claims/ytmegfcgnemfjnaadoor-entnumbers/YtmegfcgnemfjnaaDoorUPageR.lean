/-
  The page's rune: the walk.
-/
import Derived.Test.YtmegfcgnemfjnaaDoorUPageN
import Derived.Test.YtmegfcgnemfjnaaDoorUIter
import Derived.Test.YtmegfcgnemfjnaaDoorULinesP
namespace Go.Proofs.YtmegfcgnemfjnaaDoor
open Go.RowKit Go.Lib

/-- What Rune answers. -/
def runeAns (d : Nat × Nat) (g : Bool) : Value := .tuple #[.int .i32 ((d.1 : Nat) : Int), .int .i64 ((d.2 : Nat) : Int), .bool g]

set_option maxRecDepth 100000 in
set_option maxHeartbeats 2000000 in
theorem rune2 (s : ByteArray) (l : List UInt8) (hsl : s.data.toList = l) (hb : 194 ≤ bN l 0 ∧ bN l 0 < 224) (hl : l.length ≤ 140737488355328) (hp : 0 < l.length) (w : World) :
    Calls Tryd.prog 39 #[.string s] w fun e w' => e = .returned (runeAns (decodeL l) (good l)) ∧ w' = w := by
  have hsz : s.size = l.length := by rw [← hsl]; rfl
  have hp0 : 0 < s.size := by omega
  have c0 : (s[0]'hp0).toNat = bN l 0 := by rw [getD_at s l hsl 0 hp0]; rfl
  have Hd := hidden (dec2 l hb)
  have HB := hidden (fun k (hk : k < s.size) => show (s[k]'hk).toNat = bN l k by rw [getD_at s l hsl k hk]; rfl)
  have hm := and31 (bN l 0) (bN_lt l 0)
  have HL := hidden (bN_lt l)
  obtain ⟨V, hV⟩ : ∃ V, bN l 0 % 32 = V := ⟨_, rfl⟩
  rw [hV] at hm Hd
  have hVl : V < 32 := by omega
  obtain ⟨x0, hx0⟩ : ∃ x0, bN l 0 = x0 := ⟨_, rfl⟩
  rw [hx0] at hm c0 hb
  have hbz : (194 : Int) ≤ (x0 : Int) ∧ (x0 : Int) < 224 := by omega
  obtain ⟨hz1, hz2⟩ := hbz
  have Hsz := hidden hsz
  have hsb : s.size ≤ 140737488355328 := by omega
  have h128 : ¬ ((x0 : Int) < 128) := by omega
  have pz : (0 : Int) < (s.size : Int) := by omega
  have HW := hidden (show IntKind.i32.wrap ((V : Nat) : Int) = ((V : Nat) : Int) by simp [IntKind.wrap, IntKind.bits, IntKind.signed]; omega)
  clear hV hx0 hsz hsl
  by_cases hn : s.size < 2
  · have hnz : (s.size : Int) < 2 := by omega
    have HA := hidden (show decodeL l = (65533, 1) by rw [Hd.out, if_neg]; rintro ⟨h, _⟩; have := Hsz.out; omega)
    have HG := hidden (bad_of l HA.out)
    go_enter Tryd.func39, Tryd.ntmps39
    go_wp2
    go_ret3
    exact ⟨by rw [HA.out, HG.out]; rfl, rfl⟩
  · have hnz : ¬ (s.size : Int) < 2 := by omega
    go_enter Tryd.func39, Tryd.ntmps39
    go_wp2
    go_loopw [7, 8] (fun vv iv wr => ∃ (i v : Nat), 1 ≤ i ∧ i ≤ 2 ∧ iv = .int .i64 (i : Int) ∧ vv = .int .i32 (v : Int) ∧ wr = w ∧ Hid (v = pacc l V (i - 1)) ∧ v < 32 * 64 ^ (i - 1) ∧ Hid (∀ j, 1 ≤ j → j < i → bN l j / 64 = 2)) (fun _ iv _ => 2 - (RowKit.intOf iv).toNat)
    case atStart => exact ⟨1, V, Nat.le_refl _, by omega, rfl, rfl, rfl, rfl, by simp; omega, fun j h1 h2 => by omega⟩
    case round =>
      obtain ⟨i, v, hi1, hi2, rfl, rfl, rfl, Hv, hvl, HC⟩ := hrel
      by_cases hi : i < 2
      · have his : i < s.size := by omega
        have c1 := HB.out i his
        have hi0 : (0 : Int) ≤ (i : Int) := by omega
        have hiz : (i : Int) < (s.size : Int) := by omega
        have hin : (i : Int) < 2 := by omega
        obtain ⟨y, hy⟩ : ∃ y, s[i]'his = y := ⟨_, rfl⟩
        have c2 : (y.toNat : Nat) = bN l i := by rw [← hy]; exact c1
        have hyl := y.toNat_lt
        have m192 := and192 y.toNat (by omega)
        have m63 := and63 y.toNat (by omega)
        have hv19 : v < 32 * 4096 := by
          have : i = 1 ∨ i = 2 ∨ i = 3 := by omega
          rcases this with rfl | rfl | rfl <;> simp at hvl <;> omega
        have mor := or_step v (y.toNat % 64) (by omega) (by omega)
        have HV := hidden (show v * 64 + y.toNat % 64 = pacc l V (i + 1 - 1) by
          obtain ⟨k, rfl⟩ : ∃ k, i = k + 1 := ⟨i - 1, by omega⟩
          rw [Hv.out, c2]
          simp [pacc])
        have HVl := hidden (show v * 64 + y.toNat % 64 < 32 * 64 ^ (i + 1 - 1) by
          have : i = 1 ∨ i = 2 ∨ i = 3 := by omega
          rcases this with rfl | rfl | rfl <;> simp at hvl ⊢ <;> omega)
        have Hc2 := hidden c2
        have wsh : IntKind.i32.wrap ((v : Int) * 64) = ((v * 64 : Nat) : Int) := by simp [IntKind.wrap, IntKind.bits, IntKind.signed]; omega
        obtain ⟨q, hq⟩ : ∃ q, y.toNat / 64 * 64 = q := ⟨_, rfl⟩
        obtain ⟨z, hz⟩ : ∃ z, y.toNat % 64 = z := ⟨_, rfl⟩
        rw [hq] at m192
        rw [hz] at m63 mor HV HVl
        have hzl : z < 64 := by omega
        have wz : IntKind.i32.wrap (z : Int) = (z : Int) := by simp [IntKind.wrap, IntKind.bits, IntKind.signed]; omega
        clear c1 c2
        by_cases hc : bN l i / 64 = 2
        · have hq2 : q = 128 := by have := Hc2.out; omega
          have hqz : ((q : Int) != 128) = false := by simp [hq2]
          have Hc := hidden hc
          obtain ⟨v2, hv2⟩ : ∃ v2, v * 64 + z = v2 := ⟨_, rfl⟩
          obtain ⟨v6, hv6⟩ : ∃ v6, v * 64 = v6 := ⟨_, rfl⟩
          rw [hv2] at mor HV HVl
          rw [hv6] at mor wsh
          clear hc hq hz hv2 hv6 hq2
          go_wp2
          go_roundw
          case rel =>
            refine ⟨i + 1, v2, by omega, by omega, by go_num, rfl, by trivial, HV.out, HVl.out, fun j h1 h2 => ?_⟩
            by_cases e : j = i
            · rw [e]; exact Hc.out
            · exact HC.out j h1 (by omega)
          case measure => simp [RowKit.intOf]; omega
        · have hqz : ((q : Int) != 128) = true := by rw [bne_iff_ne]; have := Hc2.out; omega
          have HA := hidden (show decodeL l = (65533, 1) by
            rw [Hd.out, if_neg]
            intro h
            have hi3 : i = 1 := by omega
            subst hi3
            · exact hc h.2)
          have HG := hidden (bad_of l HA.out)
          clear hc hq hz
          go_wp2
          go_ret3
          exact ⟨by rw [HA.out, HG.out]; rfl, rfl⟩
      · have hie : i = 2 := by omega
        subst hie
        have HVe := hidden (show v = pacc l V 1 from Hv.out)
        clear hi hi1 hi2
        rw [show 64 ^ (2 - 1) = 64 from rfl] at hvl
        have z1 : ¬ ((1114111 : Int) < (v : Int)) := by omega
        have z2 : ¬ ((55296 : Int) ≤ (v : Int)) := by omega
        have HA := hidden (show decodeL l = (v, 2) by rw [Hd.out, if_pos ⟨by have := Hsz.out; omega, HC.out 1 (by omega) (by omega)⟩, HVe.out])
        have HG := hidden (good_of l v 2 (by decide) HA.out)
        go_wp2
        go_ret3
        exact ⟨by rw [HA.out, HG.out]; rfl, rfl⟩

set_option maxRecDepth 100000 in
set_option maxHeartbeats 2000000 in
theorem rune3 (s : ByteArray) (l : List UInt8) (hsl : s.data.toList = l) (hb : 224 ≤ bN l 0 ∧ bN l 0 < 240) (hl : l.length ≤ 140737488355328) (hp : 0 < l.length) (w : World) :
    Calls Tryd.prog 39 #[.string s] w fun e w' => e = .returned (runeAns (decodeL l) (good l)) ∧ w' = w := by
  have hsz : s.size = l.length := by rw [← hsl]; rfl
  have hp0 : 0 < s.size := by omega
  have c0 : (s[0]'hp0).toNat = bN l 0 := by rw [getD_at s l hsl 0 hp0]; rfl
  have Hd := hidden (dec3 l hb)
  have HB := hidden (fun k (hk : k < s.size) => show (s[k]'hk).toNat = bN l k by rw [getD_at s l hsl k hk]; rfl)
  have hm := and15 (bN l 0) (bN_lt l 0)
  have HL := hidden (bN_lt l)
  obtain ⟨V, hV⟩ : ∃ V, bN l 0 % 16 = V := ⟨_, rfl⟩
  rw [hV] at hm Hd
  have hVl : V < 16 := by omega
  obtain ⟨x0, hx0⟩ : ∃ x0, bN l 0 = x0 := ⟨_, rfl⟩
  rw [hx0] at hm c0 hb
  have hbz : (224 : Int) ≤ (x0 : Int) ∧ (x0 : Int) < 240 := by omega
  obtain ⟨hz1, hz2⟩ := hbz
  have Hsz := hidden hsz
  have hsb : s.size ≤ 140737488355328 := by omega
  have h128 : ¬ ((x0 : Int) < 128) := by omega
  have pz : (0 : Int) < (s.size : Int) := by omega
  have HW := hidden (show IntKind.i32.wrap ((V : Nat) : Int) = ((V : Nat) : Int) by simp [IntKind.wrap, IntKind.bits, IntKind.signed]; omega)
  clear hV hx0 hsz hsl
  by_cases hn : s.size < 3
  · have hnz : (s.size : Int) < 3 := by omega
    have HA := hidden (show decodeL l = (65533, 1) by rw [Hd.out, if_neg]; rintro ⟨h, _⟩; have := Hsz.out; omega)
    have HG := hidden (bad_of l HA.out)
    go_enter Tryd.func39, Tryd.ntmps39
    go_wp2
    go_ret3
    exact ⟨by rw [HA.out, HG.out]; rfl, rfl⟩
  · have hnz : ¬ (s.size : Int) < 3 := by omega
    go_enter Tryd.func39, Tryd.ntmps39
    go_wp2
    go_loopw [7, 8] (fun vv iv wr => ∃ (i v : Nat), 1 ≤ i ∧ i ≤ 3 ∧ iv = .int .i64 (i : Int) ∧ vv = .int .i32 (v : Int) ∧ wr = w ∧ Hid (v = pacc l V (i - 1)) ∧ v < 32 * 64 ^ (i - 1) ∧ Hid (∀ j, 1 ≤ j → j < i → bN l j / 64 = 2)) (fun _ iv _ => 3 - (RowKit.intOf iv).toNat)
    case atStart => exact ⟨1, V, Nat.le_refl _, by omega, rfl, rfl, rfl, rfl, by simp; omega, fun j h1 h2 => by omega⟩
    case round =>
      obtain ⟨i, v, hi1, hi2, rfl, rfl, rfl, Hv, hvl, HC⟩ := hrel
      by_cases hi : i < 3
      · have his : i < s.size := by omega
        have c1 := HB.out i his
        have hi0 : (0 : Int) ≤ (i : Int) := by omega
        have hiz : (i : Int) < (s.size : Int) := by omega
        have hin : (i : Int) < 3 := by omega
        obtain ⟨y, hy⟩ : ∃ y, s[i]'his = y := ⟨_, rfl⟩
        have c2 : (y.toNat : Nat) = bN l i := by rw [← hy]; exact c1
        have hyl := y.toNat_lt
        have m192 := and192 y.toNat (by omega)
        have m63 := and63 y.toNat (by omega)
        have hv19 : v < 32 * 4096 := by
          have : i = 1 ∨ i = 2 ∨ i = 3 := by omega
          rcases this with rfl | rfl | rfl <;> simp at hvl <;> omega
        have mor := or_step v (y.toNat % 64) (by omega) (by omega)
        have HV := hidden (show v * 64 + y.toNat % 64 = pacc l V (i + 1 - 1) by
          obtain ⟨k, rfl⟩ : ∃ k, i = k + 1 := ⟨i - 1, by omega⟩
          rw [Hv.out, c2]
          simp [pacc])
        have HVl := hidden (show v * 64 + y.toNat % 64 < 32 * 64 ^ (i + 1 - 1) by
          have : i = 1 ∨ i = 2 ∨ i = 3 := by omega
          rcases this with rfl | rfl | rfl <;> simp at hvl ⊢ <;> omega)
        have Hc2 := hidden c2
        have wsh : IntKind.i32.wrap ((v : Int) * 64) = ((v * 64 : Nat) : Int) := by simp [IntKind.wrap, IntKind.bits, IntKind.signed]; omega
        obtain ⟨q, hq⟩ : ∃ q, y.toNat / 64 * 64 = q := ⟨_, rfl⟩
        obtain ⟨z, hz⟩ : ∃ z, y.toNat % 64 = z := ⟨_, rfl⟩
        rw [hq] at m192
        rw [hz] at m63 mor HV HVl
        have hzl : z < 64 := by omega
        have wz : IntKind.i32.wrap (z : Int) = (z : Int) := by simp [IntKind.wrap, IntKind.bits, IntKind.signed]; omega
        clear c1 c2
        by_cases hc : bN l i / 64 = 2
        · have hq2 : q = 128 := by have := Hc2.out; omega
          have hqz : ((q : Int) != 128) = false := by simp [hq2]
          have Hc := hidden hc
          obtain ⟨v2, hv2⟩ : ∃ v2, v * 64 + z = v2 := ⟨_, rfl⟩
          obtain ⟨v6, hv6⟩ : ∃ v6, v * 64 = v6 := ⟨_, rfl⟩
          rw [hv2] at mor HV HVl
          rw [hv6] at mor wsh
          clear hc hq hz hv2 hv6 hq2
          go_wp2
          go_roundw
          case rel =>
            refine ⟨i + 1, v2, by omega, by omega, by go_num, rfl, by trivial, HV.out, HVl.out, fun j h1 h2 => ?_⟩
            by_cases e : j = i
            · rw [e]; exact Hc.out
            · exact HC.out j h1 (by omega)
          case measure => simp [RowKit.intOf]; omega
        · have hqz : ((q : Int) != 128) = true := by rw [bne_iff_ne]; have := Hc2.out; omega
          have HA := hidden (show decodeL l = (65533, 1) by
            rw [Hd.out, if_neg]
            intro h
            have hi3 : i = 1 ∨ i = 2 := by omega
            rcases hi3 with rfl | rfl
            · exact hc h.2.1
            · exact hc h.2.2.1)
          have HG := hidden (bad_of l HA.out)
          clear hc hq hz
          go_wp2
          go_ret3
          exact ⟨by rw [HA.out, HG.out]; rfl, rfl⟩
      · have hie : i = 3 := by omega
        subst hie
        have HVe := hidden (show v = pacc l V 2 from Hv.out)
        clear hi hi1 hi2
        rw [show 64 ^ (3 - 1) = 4096 from rfl] at hvl
        have z1 : ¬ ((1114111 : Int) < (v : Int)) := by omega
        by_cases h8 : v < 2048
        · have z3 : (v : Int) < 2048 := by omega
          have HA := hidden (show decodeL l = (65533, 1) by rw [Hd.out, if_neg]; rintro ⟨_, _, _, h, _⟩; rw [← HVe.out] at h; omega)
          have HG := hidden (bad_of l HA.out)
          go_wp2
          go_ret3
          exact ⟨by rw [HA.out, HG.out]; rfl, rfl⟩
        · have z3 : ¬ ((v : Int) < 2048) := by omega
          by_cases h9 : 55296 ≤ v ∧ v ≤ 57343
          · have z4 : (55296 : Int) ≤ (v : Int) := by omega
            have z5 : (v : Int) ≤ 57343 := by omega
            have HA := hidden (show decodeL l = (65533, 1) by rw [Hd.out, if_neg]; rintro ⟨_, _, _, _, h⟩; rw [← HVe.out] at h; exact h h9)
            have HG := hidden (bad_of l HA.out)
            go_wp2
            go_ret3
            exact ⟨by rw [HA.out, HG.out]; rfl, rfl⟩
          · have HA := hidden (show decodeL l = (v, 3) by rw [Hd.out, if_pos ⟨by have := Hsz.out; omega, HC.out 1 (by omega) (by omega), HC.out 2 (by omega) (by omega), by rw [← HVe.out]; omega, by rw [← HVe.out]; exact h9⟩, HVe.out])
            by_cases h10 : v < 55296
            · have z4 : ¬ ((55296 : Int) ≤ (v : Int)) := by omega
              clear h9
              have HG := hidden (good_of l v 3 (by decide) HA.out)
              go_wp2
              go_ret3
              exact ⟨by rw [HA.out, HG.out]; rfl, rfl⟩
            · have z4 : (55296 : Int) ≤ (v : Int) := by omega
              have z5 : ¬ ((v : Int) ≤ 57343) := by omega
              clear h9
              have HG := hidden (good_of l v 3 (by decide) HA.out)
              go_wp2
              go_ret3
              exact ⟨by rw [HA.out, HG.out]; rfl, rfl⟩

set_option maxRecDepth 100000 in
set_option maxHeartbeats 2000000 in
theorem rune4 (s : ByteArray) (l : List UInt8) (hsl : s.data.toList = l) (hb : 240 ≤ bN l 0 ∧ bN l 0 < 245) (hl : l.length ≤ 140737488355328) (hp : 0 < l.length) (w : World) :
    Calls Tryd.prog 39 #[.string s] w fun e w' => e = .returned (runeAns (decodeL l) (good l)) ∧ w' = w := by
  have hsz : s.size = l.length := by rw [← hsl]; rfl
  have hp0 : 0 < s.size := by omega
  have c0 : (s[0]'hp0).toNat = bN l 0 := by rw [getD_at s l hsl 0 hp0]; rfl
  have Hd := hidden (dec4 l hb)
  have HB := hidden (fun k (hk : k < s.size) => show (s[k]'hk).toNat = bN l k by rw [getD_at s l hsl k hk]; rfl)
  have hm := and7 (bN l 0) (bN_lt l 0)
  have HL := hidden (bN_lt l)
  obtain ⟨V, hV⟩ : ∃ V, bN l 0 % 8 = V := ⟨_, rfl⟩
  rw [hV] at hm Hd
  have hVl : V < 8 := by omega
  obtain ⟨x0, hx0⟩ : ∃ x0, bN l 0 = x0 := ⟨_, rfl⟩
  rw [hx0] at hm c0 hb
  have hbz : (240 : Int) ≤ (x0 : Int) ∧ (x0 : Int) < 245 := by omega
  obtain ⟨hz1, hz2⟩ := hbz
  have Hsz := hidden hsz
  have hsb : s.size ≤ 140737488355328 := by omega
  have h128 : ¬ ((x0 : Int) < 128) := by omega
  have pz : (0 : Int) < (s.size : Int) := by omega
  have HW := hidden (show IntKind.i32.wrap ((V : Nat) : Int) = ((V : Nat) : Int) by simp [IntKind.wrap, IntKind.bits, IntKind.signed]; omega)
  clear hV hx0 hsz hsl
  by_cases hn : s.size < 4
  · have hnz : (s.size : Int) < 4 := by omega
    have HA := hidden (show decodeL l = (65533, 1) by rw [Hd.out, if_neg]; rintro ⟨h, _⟩; have := Hsz.out; omega)
    have HG := hidden (bad_of l HA.out)
    go_enter Tryd.func39, Tryd.ntmps39
    go_wp2
    go_ret3
    exact ⟨by rw [HA.out, HG.out]; rfl, rfl⟩
  · have hnz : ¬ (s.size : Int) < 4 := by omega
    go_enter Tryd.func39, Tryd.ntmps39
    go_wp2
    go_loopw [7, 8] (fun vv iv wr => ∃ (i v : Nat), 1 ≤ i ∧ i ≤ 4 ∧ iv = .int .i64 (i : Int) ∧ vv = .int .i32 (v : Int) ∧ wr = w ∧ Hid (v = pacc l V (i - 1)) ∧ v < 32 * 64 ^ (i - 1) ∧ Hid (∀ j, 1 ≤ j → j < i → bN l j / 64 = 2)) (fun _ iv _ => 4 - (RowKit.intOf iv).toNat)
    case atStart => exact ⟨1, V, Nat.le_refl _, by omega, rfl, rfl, rfl, rfl, by simp; omega, fun j h1 h2 => by omega⟩
    case round =>
      obtain ⟨i, v, hi1, hi2, rfl, rfl, rfl, Hv, hvl, HC⟩ := hrel
      by_cases hi : i < 4
      · have his : i < s.size := by omega
        have c1 := HB.out i his
        have hi0 : (0 : Int) ≤ (i : Int) := by omega
        have hiz : (i : Int) < (s.size : Int) := by omega
        have hin : (i : Int) < 4 := by omega
        obtain ⟨y, hy⟩ : ∃ y, s[i]'his = y := ⟨_, rfl⟩
        have c2 : (y.toNat : Nat) = bN l i := by rw [← hy]; exact c1
        have hyl := y.toNat_lt
        have m192 := and192 y.toNat (by omega)
        have m63 := and63 y.toNat (by omega)
        have hv19 : v < 32 * 4096 := by
          have : i = 1 ∨ i = 2 ∨ i = 3 := by omega
          rcases this with rfl | rfl | rfl <;> simp at hvl <;> omega
        have mor := or_step v (y.toNat % 64) (by omega) (by omega)
        have HV := hidden (show v * 64 + y.toNat % 64 = pacc l V (i + 1 - 1) by
          obtain ⟨k, rfl⟩ : ∃ k, i = k + 1 := ⟨i - 1, by omega⟩
          rw [Hv.out, c2]
          simp [pacc])
        have HVl := hidden (show v * 64 + y.toNat % 64 < 32 * 64 ^ (i + 1 - 1) by
          have : i = 1 ∨ i = 2 ∨ i = 3 := by omega
          rcases this with rfl | rfl | rfl <;> simp at hvl ⊢ <;> omega)
        have Hc2 := hidden c2
        have wsh : IntKind.i32.wrap ((v : Int) * 64) = ((v * 64 : Nat) : Int) := by simp [IntKind.wrap, IntKind.bits, IntKind.signed]; omega
        obtain ⟨q, hq⟩ : ∃ q, y.toNat / 64 * 64 = q := ⟨_, rfl⟩
        obtain ⟨z, hz⟩ : ∃ z, y.toNat % 64 = z := ⟨_, rfl⟩
        rw [hq] at m192
        rw [hz] at m63 mor HV HVl
        have hzl : z < 64 := by omega
        have wz : IntKind.i32.wrap (z : Int) = (z : Int) := by simp [IntKind.wrap, IntKind.bits, IntKind.signed]; omega
        clear c1 c2
        by_cases hc : bN l i / 64 = 2
        · have hq2 : q = 128 := by have := Hc2.out; omega
          have hqz : ((q : Int) != 128) = false := by simp [hq2]
          have Hc := hidden hc
          obtain ⟨v2, hv2⟩ : ∃ v2, v * 64 + z = v2 := ⟨_, rfl⟩
          obtain ⟨v6, hv6⟩ : ∃ v6, v * 64 = v6 := ⟨_, rfl⟩
          rw [hv2] at mor HV HVl
          rw [hv6] at mor wsh
          clear hc hq hz hv2 hv6 hq2
          go_wp2
          go_roundw
          case rel =>
            refine ⟨i + 1, v2, by omega, by omega, by go_num, rfl, by trivial, HV.out, HVl.out, fun j h1 h2 => ?_⟩
            by_cases e : j = i
            · rw [e]; exact Hc.out
            · exact HC.out j h1 (by omega)
          case measure => simp [RowKit.intOf]; omega
        · have hqz : ((q : Int) != 128) = true := by rw [bne_iff_ne]; have := Hc2.out; omega
          have HA := hidden (show decodeL l = (65533, 1) by
            rw [Hd.out, if_neg]
            intro h
            have hi3 : i = 1 ∨ i = 2 ∨ i = 3 := by omega
            rcases hi3 with rfl | rfl | rfl
            · exact hc h.2.1
            · exact hc h.2.2.1
            · exact hc h.2.2.2.1)
          have HG := hidden (bad_of l HA.out)
          clear hc hq hz
          go_wp2
          go_ret3
          exact ⟨by rw [HA.out, HG.out]; rfl, rfl⟩
      · have hie : i = 4 := by omega
        subst hie
        have HVe := hidden (show v = pacc l V 3 from Hv.out)
        clear hi hi1 hi2
        rw [show 64 ^ (4 - 1) = 262144 from rfl] at hvl
        by_cases h8 : v < 65536
        · have z3 : (v : Int) < 65536 := by omega
          have HA := hidden (show decodeL l = (65533, 1) by rw [Hd.out, if_neg]; rintro ⟨_, _, _, _, h, _⟩; rw [← HVe.out] at h; omega)
          have HG := hidden (bad_of l HA.out)
          go_wp2
          go_ret3
          exact ⟨by rw [HA.out, HG.out]; rfl, rfl⟩
        · have z3 : ¬ ((v : Int) < 65536) := by omega
          by_cases h9 : v ≤ 1114111
          · have z1 : ¬ ((1114111 : Int) < (v : Int)) := by omega
            have z4 : (55296 : Int) ≤ (v : Int) := by omega
            have z5 : ¬ ((v : Int) ≤ 57343) := by omega
            have HA := hidden (show decodeL l = (v, 4) by rw [Hd.out, if_pos ⟨by have := Hsz.out; omega, HC.out 1 (by omega) (by omega), HC.out 2 (by omega) (by omega), HC.out 3 (by omega) (by omega), by rw [← HVe.out]; omega, by rw [← HVe.out]; exact h9⟩, HVe.out])
            have HG := hidden (good_of l v 4 (by decide) HA.out)
            go_wp2
            go_ret3
            exact ⟨by rw [HA.out, HG.out]; rfl, rfl⟩
          · have z1 : (1114111 : Int) < (v : Int) := by omega
            have HA := hidden (show decodeL l = (65533, 1) by rw [Hd.out, if_neg]; rintro ⟨_, _, _, _, _, h⟩; rw [← HVe.out] at h; omega)
            have HG := hidden (bad_of l HA.out)
            go_wp2
            go_ret3
            exact ⟨by rw [HA.out, HG.out]; rfl, rfl⟩

end Go.Proofs.YtmegfcgnemfjnaaDoor
