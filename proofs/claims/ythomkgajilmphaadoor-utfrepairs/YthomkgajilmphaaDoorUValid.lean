/-
  utf8.Valid of bytes.
-/
import Derived.Test.YthomkgajilmphaaDoorUWord
import Derived.Test.YthomkgajilmphaaDoorUN
import Derived.Shelf.Unicode.ValidAny
import Derived.Deep.RegionHeld3
namespace Go.Proofs.YthomkgajilmphaaDoor
open Go.RowKit Go.Lib

/-- A slice that has just the bytes t. -/
def Pv (w : World) (v : Value) (t : ByteArray) : Prop := ∃ ao, v = .slice ao t.size t.size ∧ (0 < t.size → ∃ b o, ao = some ⟨b, o, none⟩ ∧ Rt w b o t)

/-- A world with some draws more. -/
def Dr (w0 wx : World) : Prop := ∃ q, wx = w0.drewN q
theorem Dr.refl (w0 : World) : Dr w0 w0 := ⟨0, rfl⟩
theorem Dr.drew {w0 wx : World} (h : Dr w0 wx) : Dr w0 wx.drew := by
  obtain ⟨q, rfl⟩ := h
  exact ⟨q + 1, (World.drewN_drewN w0 q 1)⟩
theorem Dr.drewN {w0 wx : World} (h : Dr w0 wx) (n : Nat) : Dr w0 (wx.drewN n) := by
  obtain ⟨q, rfl⟩ := h
  exact ⟨q + n, (World.drewN_drewN w0 q n)⟩
theorem Dr.step {w w0 wx : World} (h : Dr w0 wx) (hs : Step (fun _ => False) w w0) : Step (fun _ => False) w wx := by
  obtain ⟨q, rfl⟩ := h
  exact hs.drewN q
theorem Dr.rt {w0 wx : World} {b o : Nat} {t : ByteArray} (h : Dr w0 wx) (hr : Rt w0 b o t) : Rt wx b o t := by
  obtain ⟨q, rfl⟩ := h
  exact hr

/-- How long a slice is. -/
def lenOf : Value → Nat | .slice _ n _ => n | _ => 0

theorem Pv.drop {w : World} {b o : Nat} {t : ByteArray} (h : Rt w b o t) (k : Nat) (n : Nat) (hn : n + k = t.size) (ao : Option Addr) (ha : 0 < n → ao = some ⟨b, o + k, none⟩) : Pv w (.slice ao n n) (t.extract k t.size) := by
  have e : (t.extract k t.size).size = n := by rw [Lib.ext_size]; omega
  refine ⟨ao, by rw [e], fun hp => ⟨b, o + k, ha (by omega), h.ext k⟩⟩

theorem ba_sz (l : List UInt8) : (⟨l.toArray⟩ : ByteArray).size = l.length := by simp [ByteArray.size]

set_option maxHeartbeats 4000000 in
set_option maxRecDepth 1000000 in
theorem valid8_any (ao : Option Addr) (cap : Nat) (l : List UInt8) (w : World) (hr : Rd w (.slice ao l.length cap) (l.map UInt8.toNat)) (hcap : l.length ≤ cap) (hl : l.length ≤ 140737488355328) (hT : Lib.Utf8Tabs 0 1 w) :
    Calls Tryd.prog 21 #[.slice ao l.length cap] w fun e w' => e = .returned (.bool (Lib.validD l)) ∧ Step (fun _ => False) w w' := by
  have mixed := Tryd.mixed
  obtain ⟨ANS, hANS⟩ : ∃ ANS, Lib.validD l = ANS := ⟨_, rfl⟩
  rw [hANS]
  have hP : Hid (Pv w (.slice ao l.length l.length) ⟨l.toArray⟩) := by
    obtain ⟨ao', cap', e, h1, h2⟩ := hr
    injection e with e1 e2 e3
    subst e1
    refine ⟨ao, by rw [ba_sz], fun hp => ?_⟩
    rw [ba_sz] at hp
    cases ao with
    | none => have := (h1 rfl).1; simp at this; subst this; simp at hp
    | some a =>
      obtain ⟨b, off, rfl, hc⟩ := h2 a rfl (by intro e; have := congrArg List.length e; simp at this; subst this; simp at hp)
      refine ⟨b, off, rfl, fun j hj => ?_⟩
      rw [ba_sz] at hj
      rw [hc j (by simpa using hj), Utf8W.get!_of_lt _ _ (by rw [ba_sz]; exact hj)]
      simp [List.getD, hj]
      rfl
  have HA := hidden (show Lib.validD (⟨l.toArray⟩ : ByteArray).data.toList = ANS by simpa using hANS)
  have HT := hidden hT
  obtain ⟨n, hn⟩ : ∃ n, l.length = n := ⟨_, rfl⟩
  rw [hn] at hl hcap hP ⊢
  have Hn := hidden hn
  clear hr hn hT hANS
  go_enter Tryd.func21, Tryd.ntmps21
  go_wp2
  go_loopw [0] (fun s0 wx => ∃ t : ByteArray, Hid (Pv wx s0 t) ∧ Hid (Step (fun _ => False) w wx) ∧ Hid (Lib.validD t.data.toList = ANS) ∧ t.size ≤ n ∧ Hid (lenOf s0 = t.size)) (fun s0 _ => lenOf s0)
  case atStart => exact ⟨⟨l.toArray⟩, hP.out, Step.refl _ w, HA.out, by rw [ba_sz, Hn.out]; exact Nat.le_refl _, by rw [ba_sz, Hn.out]; rfl⟩
  case round =>
    obtain ⟨t, HP, HS, HV, hts, HL⟩ := hrel
    obtain ⟨ax, rfl, hax⟩ := HP.out
    by_cases h0 : 0 < t.size
    · obtain ⟨b, o, rfl, ht⟩ := hax h0
      have Ht := hidden ht
      have h0z : (0 : Int) < (t.size : Int) := by omega
      obtain ⟨x0, hx0⟩ : ∃ x0, t.get! 0 = x0 := ⟨_, rfl⟩
      have hc0 : wr.cell? ⟨b, o, none⟩ = some (.int .u8 (x0.toNat : Int)) := by rw [← hx0]; exact ht 0 h0
      have hx0lt : x0.toNat < 256 := x0.toNat_lt
      clear HP ht hax
      by_cases hasc : x0.toNat < 128
      · have hascz : (x0.toNat : Int) < 128 := by omega
        have a1 : Lib.Asc t 1 := Lib.asc_one t h0 (by rw [hx0]; exact hasc)
        obtain ⟨t1, ht1⟩ : ∃ t1, t.extract 1 t.size = t1 := ⟨_, rfl⟩
        have z1 : t1.size + 1 = t.size := by rw [← ht1, Lib.ext_size]; omega
        have Ht1 := hidden (show Rt wr b (o + 1) t1 by rw [← ht1]; exact Ht.out.ext 1)
        have HV1 := hidden (show Lib.validD t1.data.toList = ANS by rw [← ht1, Lib.valid_skip t 1 a1]; exact HV.out)
        have Hx1 := hidden ht1
        obtain ⟨n0, hn0⟩ : ∃ n0, t.size = n0 := ⟨_, rfl⟩
        obtain ⟨n1, hn1⟩ : ∃ n1, t1.size = n1 := ⟨_, rfl⟩
        rw [hn0] at h0z h0 z1 hts HL ⊢
        rw [hn1] at z1
        have Hn0 := hidden hn0
        have Hn1 := hidden hn1
        clear hx0 hasc a1 ht1 hn0 hn1
        by_cases c8 : 8 < n1
        · have c8z : (8 : Int) < (n1 : Int) := by omega
          have e1 : n0 - 1 = n1 := by omega
          have f1 : ¬ n0 = 1 := by omega
          obtain ⟨ot1, hot1⟩ : ∃ y, o + 1 = y := ⟨_, rfl⟩
          rw [hot1] at Ht1
          obtain ⟨A1, hA1⟩ : ∃ A1, Lib.leNat [t1.get! 0, t1.get! 1, t1.get! 2, t1.get! 3, t1.get! 4, t1.get! 5, t1.get! 6, t1.get! 7] = A1 := ⟨_, rfl⟩
          have lA1 : A1 < 18446744073709551616 := hA1 ▸ Lib.word_lt t1
          have cA1 := hidden (by have := word_any b (ot1) n1 n1 t1 wr Ht1.out (by omega) (by rw [Hn1.out]; omega); rw [hA1] at this; exact this)
          have kA1 := Lib.word_asc t1 (by rw [Hn1.out]; omega)
          rw [hA1] at kA1
          clear hA1
          have hand1 : bits .and .u64 (A1 : Int) 9259542123273814144 = ((A1 &&& 9259542123273814144 : Nat) : Int) := u64_and_nat A1 9259542123273814144 lA1 (by omega)
          obtain ⟨Z1, hZ1⟩ : ∃ Z1, A1 &&& 9259542123273814144 = Z1 := ⟨_, rfl⟩
          rw [hZ1] at hand1 kA1
          clear hZ1
          by_cases hz1 : Z1 = 0
          · have hz1b : ((Z1 : Int) == 0) = true := by simp [hz1]
            have a8 : Lib.Asc t1 8 := kA1.1 hz1
            obtain ⟨t2, ht2⟩ : ∃ t2, t1.extract 8 t1.size = t2 := ⟨_, rfl⟩
            obtain ⟨n2, hn2⟩ : ∃ n2, t2.size = n2 := ⟨_, rfl⟩
            have zn2 : n2 + 8 = n1 := by rw [← hn2, ← ht2, Lib.ext_size, Hn1.out]; omega
            obtain ⟨ot2, hot2⟩ : ∃ y, ot1 + 8 = y := ⟨_, rfl⟩
            have Ht2 := hidden (show Rt wr b ot2 t2 by rw [← ht2, ← hot2]; exact Ht1.out.ext 8)
            have Hn2 := hidden hn2
            have en2 : n1 - 8 = n2 := by omega
            have fn2 : ¬ n1 = 8 := by omega
            have gn2 : (8 : Int) ≤ (n1 : Int) := by omega
            have HV2 := hidden (show Lib.validD t2.data.toList = ANS by rw [← ht2, Lib.valid_skip t1 8 a8]; exact HV1.out)
            clear kA1 a8 hz1 ht2 hn2
            go_wp2_with (go_at_call 25; refine cA1.out.mono ?_; rintro e W1 ⟨rfl, q1, rfl⟩)
            have HS1 := hidden (HS.out.drewN q1)
            have Ht2' := hidden (show Rt (wr.drewN q1) b ot2 t2 from Ht2.out)
            clear cA1 Ht2 HS Ht1 Ht hc0
            generalize wr.drewN q1 = wq at *
            have Ht2 := Ht2'
            clear Ht2'
            by_cases c16 : 16 < n2
            · have c16z : (16 : Int) < (n2 : Int) := by omega
              obtain ⟨t2b, ht2b⟩ : ∃ t2b, t2.extract 8 t2.size = t2b := ⟨_, rfl⟩
              obtain ⟨n2b, hn2b⟩ : ∃ n2b, t2b.size = n2b := ⟨_, rfl⟩
              have zn2b : n2b + 8 = n2 := by rw [← hn2b, ← ht2b, Lib.ext_size, Hn2.out]; omega
              obtain ⟨ot2b, hot2b⟩ : ∃ y, ot2 + 8 = y := ⟨_, rfl⟩
              have Ht2b := hidden (show Rt wq b ot2b t2b by rw [← ht2b, ← hot2b]; exact Ht2.out.ext 8)
              have Hn2b := hidden hn2b
              have en2b : n2 - 8 = n2b := by omega
              have fn2b : ¬ n2 = 8 := by omega
              have gn2b : (8 : Int) ≤ (n2 : Int) := by omega
              obtain ⟨A2, hA2⟩ : ∃ A2, Lib.leNat [t2.get! 0, t2.get! 1, t2.get! 2, t2.get! 3, t2.get! 4, t2.get! 5, t2.get! 6, t2.get! 7] = A2 := ⟨_, rfl⟩
              have lA2 : A2 < 18446744073709551616 := hA2 ▸ Lib.word_lt t2
              have cA2 := hidden (fun (q : World) (hq : Dr wq q) => (show Calls Tryd.prog 25 #[.slice (some ⟨b, ot2, none⟩) n2 n2] q fun e w' => e = .returned (.int .u64 (A2 : Int)) ∧ Dr wq w' by
                have h9 := word_any b (ot2) n2 n2 t2 q (hq.rt Ht2.out) (by omega) (by rw [Hn2.out]; omega)
                rw [hA2] at h9
                exact h9.mono (fun e w' ⟨h1, q2, h2⟩ => ⟨h1, by rw [h2]; exact hq.drewN q2⟩)))
              have kA2 := Lib.word_asc t2 (by rw [Hn2.out]; omega)
              rw [hA2] at kA2
              clear hA2
              obtain ⟨A3, hA3⟩ : ∃ A3, Lib.leNat [t2b.get! 0, t2b.get! 1, t2b.get! 2, t2b.get! 3, t2b.get! 4, t2b.get! 5, t2b.get! 6, t2b.get! 7] = A3 := ⟨_, rfl⟩
              have lA3 : A3 < 18446744073709551616 := hA3 ▸ Lib.word_lt t2b
              have cA3 := hidden (fun (q : World) (hq : Dr wq q) => (show Calls Tryd.prog 25 #[.slice (some ⟨b, ot2b, none⟩) n2b n2b] q fun e w' => e = .returned (.int .u64 (A3 : Int)) ∧ Dr wq w' by
                have h9 := word_any b (ot2b) n2b n2b t2b q (hq.rt Ht2b.out) (by omega) (by rw [Hn2b.out]; omega)
                rw [hA3] at h9
                exact h9.mono (fun e w' ⟨h1, q2, h2⟩ => ⟨h1, by rw [h2]; exact hq.drewN q2⟩)))
              have kA3 := Lib.word_asc t2b (by rw [Hn2b.out]; omega)
              rw [hA3] at kA3
              clear hA3
              have hor2 : bits .or .u64 (A2 : Int) (A3 : Int) = ((A2 ||| A3 : Nat) : Int) := u64_or_nat A2 A3 lA2 lA3
              have lor2 : A2 ||| A3 < 18446744073709551616 := Nat.or_lt_two_pow (n := 64) lA2 lA3
              have hand2 : bits .and .u64 ((A2 ||| A3 : Nat) : Int) 9259542123273814144 = (((A2 ||| A3) &&& 9259542123273814144 : Nat) : Int) := u64_and_nat _ 9259542123273814144 lor2 (by omega)
              have k2 := hidden (fun (h0' : (A2 ||| A3) &&& 9259542123273814144 = 0) => show Lib.Asc t2 16 by
                obtain ⟨e1, e2⟩ := (Lib.or_mask A2 A3 _).1 h0'
                exact Lib.asc_add t2 8 8 (kA2.1 e1) (by rw [ht2b]; exact kA3.1 e2))
              obtain ⟨O2, hO2⟩ : ∃ O2, A2 ||| A3 = O2 := ⟨_, rfl⟩
              rw [hO2] at hor2 hand2 k2
              obtain ⟨Z2, hZ2⟩ : ∃ Z2, O2 &&& 9259542123273814144 = Z2 := ⟨_, rfl⟩
              rw [hZ2] at hand2 k2
              clear kA2 kA3 lor2 hO2 hZ2 ht2b hn2b
              by_cases hz2 : Z2 = 0
              · have hz2b : ((Z2 : Int) == 0) = true := by simp [hz2]
                have a16 := k2.out hz2
                obtain ⟨t3, ht3⟩ : ∃ t3, t2.extract 16 t2.size = t3 := ⟨_, rfl⟩
                obtain ⟨n3, hn3⟩ : ∃ n3, t3.size = n3 := ⟨_, rfl⟩
                have zn3 : n3 + 16 = n2 := by rw [← hn3, ← ht3, Lib.ext_size, Hn2.out]; omega
                obtain ⟨ot3, hot3⟩ : ∃ y, ot2 + 16 = y := ⟨_, rfl⟩
                have Ht3 := hidden (show Rt wq b ot3 t3 by rw [← ht3, ← hot3]; exact Ht2.out.ext 16)
                have Hn3 := hidden hn3
                have en3 : n2 - 16 = n3 := by omega
                have fn3 : ¬ n2 = 16 := by omega
                have gn3 : (16 : Int) ≤ (n2 : Int) := by omega
                have HV3 := hidden (show Lib.validD t3.data.toList = ANS by rw [← ht3, Lib.valid_skip t2 16 a16]; exact HV2.out)
                clear k2 a16 hz2 ht3 hn3
                have hd8 := Dr.refl wq
                go_region_held3 (fun wx => Dr wq wx) (first | assumption | (apply Dr.drew; assumption)) (first | (go_at_call 25; with_reducible refine (cA2.out _ (by assumption)).mono ?_; rintro e w8 ⟨rfl, hd8⟩) | (go_at_call 25; with_reducible refine (cA3.out _ (by assumption)).mono ?_; rintro e w8 ⟨rfl, hd8⟩))
                go_wp2
                go_loopw [0] (fun s0 wx => ∃ (u : ByteArray) (m p : Nat), s0 = .slice (some ⟨b, p, none⟩) m m ∧ Hid (u.size = m) ∧ Hid (Rt wx b p u) ∧ Hid (Step (fun _ => False) w wx) ∧ Hid (Lib.validD u.data.toList = ANS) ∧ m ≤ n3) (fun s0 _ => lenOf s0)
                case atStart => exact ⟨t3, n3, ot3, rfl, Hn3.out, Dr.rt (by assumption) Ht3.out, Dr.step (by assumption) HS1.out, HV3.out, Nat.le_refl _⟩
                case round =>
                  obtain ⟨u, m, p, rfl, Hm, Hu, HSu, HVu, hmn⟩ := hrel
                  clear Ht3 cA2 cA3 Ht2
                  by_cases c32 : 32 < m
                  · have c32z : (32 : Int) < (m : Int) := by omega
                    have hgt := c32
                    obtain ⟨ub, hub⟩ : ∃ ub, u.extract 8 u.size = ub := ⟨_, rfl⟩
                    obtain ⟨m5, hm5⟩ : ∃ m5, ub.size = m5 := ⟨_, rfl⟩
                    have zm5 : m5 + 8 = m := by rw [← hm5, ← hub, Lib.ext_size, Hm.out]; omega
                    obtain ⟨oub, houb⟩ : ∃ y, p + 8 = y := ⟨_, rfl⟩
                    have Hub := hidden (show Rt wr b oub ub by rw [← hub, ← houb]; exact Hu.out.ext 8)
                    have Hm5 := hidden hm5
                    have em5 : m - 8 = m5 := by omega
                    have fm5 : ¬ m = 8 := by omega
                    have gm5 : (8 : Int) ≤ (m : Int) := by omega
                    obtain ⟨uc, huc⟩ : ∃ uc, u.extract 16 u.size = uc := ⟨_, rfl⟩
                    obtain ⟨m6, hm6⟩ : ∃ m6, uc.size = m6 := ⟨_, rfl⟩
                    have zm6 : m6 + 16 = m := by rw [← hm6, ← huc, Lib.ext_size, Hm.out]; omega
                    obtain ⟨ouc, houc⟩ : ∃ y, p + 16 = y := ⟨_, rfl⟩
                    have Huc := hidden (show Rt wr b ouc uc by rw [← huc, ← houc]; exact Hu.out.ext 16)
                    have Hm6 := hidden hm6
                    have em6 : m - 16 = m6 := by omega
                    have fm6 : ¬ m = 16 := by omega
                    have gm6 : (16 : Int) ≤ (m : Int) := by omega
                    obtain ⟨ud, hud⟩ : ∃ ud, u.extract 24 u.size = ud := ⟨_, rfl⟩
                    obtain ⟨m7, hm7⟩ : ∃ m7, ud.size = m7 := ⟨_, rfl⟩
                    have zm7 : m7 + 24 = m := by rw [← hm7, ← hud, Lib.ext_size, Hm.out]; omega
                    obtain ⟨oud, houd⟩ : ∃ y, p + 24 = y := ⟨_, rfl⟩
                    have Hud := hidden (show Rt wr b oud ud by rw [← hud, ← houd]; exact Hu.out.ext 24)
                    have Hm7 := hidden hm7
                    have em7 : m - 24 = m7 := by omega
                    have fm7 : ¬ m = 24 := by omega
                    have gm7 : (24 : Int) ≤ (m : Int) := by omega
                    obtain ⟨B0, hB0⟩ : ∃ B0, Lib.leNat [u.get! 0, u.get! 1, u.get! 2, u.get! 3, u.get! 4, u.get! 5, u.get! 6, u.get! 7] = B0 := ⟨_, rfl⟩
                    have lB0 : B0 < 18446744073709551616 := hB0 ▸ Lib.word_lt u
                    have cB0 := hidden (fun (q : World) (hq : Dr wr q) => (show Calls Tryd.prog 25 #[.slice (some ⟨b, p, none⟩) m m] q fun e w' => e = .returned (.int .u64 (B0 : Int)) ∧ Dr wr w' by
                      have h9 := word_any b (p) m m u q (hq.rt Hu.out) (by omega) (by rw [Hm.out]; omega)
                      rw [hB0] at h9
                      exact h9.mono (fun e w' ⟨h1, q2, h2⟩ => ⟨h1, by rw [h2]; exact hq.drewN q2⟩)))
                    have kB0 := Lib.word_asc u (by rw [Hm.out]; omega)
                    rw [hB0] at kB0
                    clear hB0
                    obtain ⟨B1, hB1⟩ : ∃ B1, Lib.leNat [ub.get! 0, ub.get! 1, ub.get! 2, ub.get! 3, ub.get! 4, ub.get! 5, ub.get! 6, ub.get! 7] = B1 := ⟨_, rfl⟩
                    have lB1 : B1 < 18446744073709551616 := hB1 ▸ Lib.word_lt ub
                    have cB1 := hidden (fun (q : World) (hq : Dr wr q) => (show Calls Tryd.prog 25 #[.slice (some ⟨b, oub, none⟩) m5 m5] q fun e w' => e = .returned (.int .u64 (B1 : Int)) ∧ Dr wr w' by
                      have h9 := word_any b (oub) m5 m5 ub q (hq.rt Hub.out) (by omega) (by rw [Hm5.out]; omega)
                      rw [hB1] at h9
                      exact h9.mono (fun e w' ⟨h1, q2, h2⟩ => ⟨h1, by rw [h2]; exact hq.drewN q2⟩)))
                    have kB1 := Lib.word_asc ub (by rw [Hm5.out]; omega)
                    rw [hB1] at kB1
                    clear hB1
                    obtain ⟨B2, hB2⟩ : ∃ B2, Lib.leNat [uc.get! 0, uc.get! 1, uc.get! 2, uc.get! 3, uc.get! 4, uc.get! 5, uc.get! 6, uc.get! 7] = B2 := ⟨_, rfl⟩
                    have lB2 : B2 < 18446744073709551616 := hB2 ▸ Lib.word_lt uc
                    have cB2 := hidden (fun (q : World) (hq : Dr wr q) => (show Calls Tryd.prog 25 #[.slice (some ⟨b, ouc, none⟩) m6 m6] q fun e w' => e = .returned (.int .u64 (B2 : Int)) ∧ Dr wr w' by
                      have h9 := word_any b (ouc) m6 m6 uc q (hq.rt Huc.out) (by omega) (by rw [Hm6.out]; omega)
                      rw [hB2] at h9
                      exact h9.mono (fun e w' ⟨h1, q2, h2⟩ => ⟨h1, by rw [h2]; exact hq.drewN q2⟩)))
                    have kB2 := Lib.word_asc uc (by rw [Hm6.out]; omega)
                    rw [hB2] at kB2
                    clear hB2
                    obtain ⟨B3, hB3⟩ : ∃ B3, Lib.leNat [ud.get! 0, ud.get! 1, ud.get! 2, ud.get! 3, ud.get! 4, ud.get! 5, ud.get! 6, ud.get! 7] = B3 := ⟨_, rfl⟩
                    have lB3 : B3 < 18446744073709551616 := hB3 ▸ Lib.word_lt ud
                    have cB3 := hidden (fun (q : World) (hq : Dr wr q) => (show Calls Tryd.prog 25 #[.slice (some ⟨b, oud, none⟩) m7 m7] q fun e w' => e = .returned (.int .u64 (B3 : Int)) ∧ Dr wr w' by
                      have h9 := word_any b (oud) m7 m7 ud q (hq.rt Hud.out) (by omega) (by rw [Hm7.out]; omega)
                      rw [hB3] at h9
                      exact h9.mono (fun e w' ⟨h1, q2, h2⟩ => ⟨h1, by rw [h2]; exact hq.drewN q2⟩)))
                    have kB3 := Lib.word_asc ud (by rw [Hm7.out]; omega)
                    rw [hB3] at kB3
                    clear hB3
                    have ho1 : bits .or .u64 (B0 : Int) (B1 : Int) = ((B0 ||| B1 : Nat) : Int) := u64_or_nat B0 B1 lB0 lB1
                    have ho2 : bits .or .u64 (B2 : Int) (B3 : Int) = ((B2 ||| B3 : Nat) : Int) := u64_or_nat B2 B3 lB2 lB3
                    have lo1 : B0 ||| B1 < 18446744073709551616 := Nat.or_lt_two_pow (n := 64) lB0 lB1
                    have lo2 : B2 ||| B3 < 18446744073709551616 := Nat.or_lt_two_pow (n := 64) lB2 lB3
                    have ho3 : bits .or .u64 ((B0 ||| B1 : Nat) : Int) ((B2 ||| B3 : Nat) : Int) = (((B0 ||| B1) ||| (B2 ||| B3) : Nat) : Int) := u64_or_nat _ _ lo1 lo2
                    have lo3 : (B0 ||| B1) ||| (B2 ||| B3) < 18446744073709551616 := Nat.or_lt_two_pow (n := 64) lo1 lo2
                    have hand3 : bits .and .u64 (((B0 ||| B1) ||| (B2 ||| B3) : Nat) : Int) 9259542123273814144 = ((((B0 ||| B1) ||| (B2 ||| B3)) &&& 9259542123273814144 : Nat) : Int) := u64_and_nat _ 9259542123273814144 lo3 (by omega)
                    have k3 := hidden (fun (h0' : ((B0 ||| B1) ||| (B2 ||| B3)) &&& 9259542123273814144 = 0) => show Lib.Asc u 32 by
                      obtain ⟨e01, e23⟩ := (Lib.or_mask _ _ _).1 h0'
                      obtain ⟨e0, e1⟩ := (Lib.or_mask _ _ _).1 e01
                      obtain ⟨e2, e3⟩ := (Lib.or_mask _ _ _).1 e23
                      have s16 : Lib.Asc u 16 := Lib.asc_add u 8 8 (kB0.1 e0) (by rw [hub]; exact kB1.1 e1)
                      have s24 : Lib.Asc u 24 := Lib.asc_add u 16 8 s16 (by rw [huc]; exact kB2.1 e2)
                      exact Lib.asc_add u 24 8 s24 (by rw [hud]; exact kB3.1 e3))
                    obtain ⟨P1, hP1⟩ : ∃ P1, B0 ||| B1 = P1 := ⟨_, rfl⟩
                    obtain ⟨P2, hP2⟩ : ∃ P2, B2 ||| B3 = P2 := ⟨_, rfl⟩
                    rw [hP1, hP2] at ho3 hand3 k3
                    rw [hP1] at ho1
                    rw [hP2] at ho2
                    obtain ⟨P3, hP3⟩ : ∃ P3, P1 ||| P2 = P3 := ⟨_, rfl⟩
                    rw [hP3] at ho3 hand3 k3
                    obtain ⟨Z3, hZ3⟩ : ∃ Z3, P3 &&& 9259542123273814144 = Z3 := ⟨_, rfl⟩
                    rw [hZ3] at hand3 k3
                    clear kB0 kB1 kB2 kB3 lo1 lo2 lo3 hP1 hP2 hP3 hZ3 hub huc hud hm5 hm6 hm7
                    by_cases hz3 : Z3 = 0
                    · have hz3b : ((Z3 : Int) == 0) = true := by simp [hz3]
                      have a32 := k3.out hz3
                      obtain ⟨u2, hu2⟩ : ∃ u2, u.extract 32 u.size = u2 := ⟨_, rfl⟩
                      obtain ⟨nu2, hnu2⟩ : ∃ nu2, u2.size = nu2 := ⟨_, rfl⟩
                      have znu2 : nu2 + 32 = m := by rw [← hnu2, ← hu2, Lib.ext_size, Hm.out]; omega
                      obtain ⟨ou2, hou2⟩ : ∃ y, p + 32 = y := ⟨_, rfl⟩
                      have Hu2 := hidden (show Rt wr b ou2 u2 by rw [← hu2, ← hou2]; exact Hu.out.ext 32)
                      have Hnu2 := hidden hnu2
                      have enu2 : m - 32 = nu2 := by omega
                      have fnu2 : ¬ m = 32 := by omega
                      have gnu2 : (32 : Int) ≤ (m : Int) := by omega
                      have HVu2 := hidden (show Lib.validD u2.data.toList = ANS by rw [← hu2, Lib.valid_skip u 32 a32]; exact HVu.out)
                      clear k3 a32 hz3 hu2 hnu2
                      as_aux_lemma =>
                        go_wp2_with fail
                        have hd8 := Dr.refl wr
                        go_region_held3 (fun wx => Dr wr wx) (first | assumption | (apply Dr.drew; assumption)) (first | (go_at_call 25; with_reducible refine (cB0.out _ (by assumption)).mono ?_; rintro e w8 ⟨rfl, hd8⟩) | (go_at_call 25; with_reducible refine (cB1.out _ (by assumption)).mono ?_; rintro e w8 ⟨rfl, hd8⟩) | (go_at_call 25; with_reducible refine (cB2.out _ (by assumption)).mono ?_; rintro e w8 ⟨rfl, hd8⟩) | (go_at_call 25; with_reducible refine (cB3.out _ (by assumption)).mono ?_; rintro e w8 ⟨rfl, hd8⟩))
                        all_goals
                          go_wp2
                          go_roundw
                          case rel => exact ⟨u2, nu2, ou2, rfl, Hnu2.out, Dr.rt (by assumption) Hu2.out, Dr.step (by assumption) HSu.out, HVu2.out, by omega⟩
                          case measure => simp [lenOf]; omega
                    · have hz3b : ((Z3 : Int) == 0) = false := by simp; omega
                      clear k3 hz3
                      as_aux_lemma =>
                        go_wp2_with fail
                        have hd8 := Dr.refl wr
                        go_region_held3 (fun wx => Dr wr wx) (first | assumption | (apply Dr.drew; assumption)) (first | (go_at_call 25; with_reducible refine (cB0.out _ (by assumption)).mono ?_; rintro e w8 ⟨rfl, hd8⟩) | (go_at_call 25; with_reducible refine (cB1.out _ (by assumption)).mono ?_; rintro e w8 ⟨rfl, hd8⟩) | (go_at_call 25; with_reducible refine (cB2.out _ (by assumption)).mono ?_; rintro e w8 ⟨rfl, hd8⟩) | (go_at_call 25; with_reducible refine (cB3.out _ (by assumption)).mono ?_; rintro e w8 ⟨rfl, hd8⟩))
                        all_goals
                          go_wp2
                          go_roundw
                          case rel => exact ⟨u, ⟨_, by rw [Hm.out], fun _ => ⟨b, p, rfl, Dr.rt (by assumption) Hu.out⟩⟩, Dr.step (by assumption) HSu.out, HVu.out, by rw [Hm.out]; omega, by rw [Hm.out]; rfl⟩
                          case measure => simp [lenOf]; omega
                  · have c32z : ¬ ((32 : Int) < (m : Int)) := by omega
                    have c32b : decide ((32 : Int) < (m : Int)) = false := decide_eq_false c32z
                    as_aux_lemma =>
                      go_wp2_with fail
                      go_big_quiet_o (fail)
                      go_wp2
                      go_roundw
                      case rel => exact ⟨u, ⟨_, by rw [Hm.out], fun _ => ⟨b, p, rfl, Hu.out⟩⟩, HSu.out.drewN _, HVu.out, by rw [Hm.out]; omega, by rw [Hm.out]; rfl⟩
                      case measure => simp [lenOf]; omega
              · have hz2b : ((Z2 : Int) == 0) = false := by simp; omega
                clear k2 hz2
                as_aux_lemma =>
                  have hd8 := Dr.refl wq
                  go_region_held3 (fun wx => Dr wq wx) (first | assumption | (apply Dr.drew; assumption)) (first | (go_at_call 25; with_reducible refine (cA2.out _ (by assumption)).mono ?_; rintro e w8 ⟨rfl, hd8⟩) | (go_at_call 25; with_reducible refine (cA3.out _ (by assumption)).mono ?_; rintro e w8 ⟨rfl, hd8⟩))
                  all_goals
                    go_wp2
                    go_roundw
                    case rel => exact ⟨t2, ⟨_, by rw [Hn2.out], fun _ => ⟨b, ot2, rfl, Dr.rt (by assumption) Ht2.out⟩⟩, Dr.step (by assumption) HS1.out, HV2.out, by rw [Hn2.out]; omega, by rw [Hn2.out]; rfl⟩
                    case measure => simp [lenOf]; omega
            · have c16z : ¬ ((16 : Int) < (n2 : Int)) := by omega
              have c16b : decide ((16 : Int) < (n2 : Int)) = false := decide_eq_false c16z
              as_aux_lemma =>
                go_big_quiet_o (fail)
                go_wp2
                go_roundw
                case rel => exact ⟨t2, ⟨_, by rw [Hn2.out], fun _ => ⟨b, ot2, rfl, Ht2.out⟩⟩, HS1.out.drewN _, HV2.out, by rw [Hn2.out]; omega, by rw [Hn2.out]; rfl⟩
                case measure => simp [lenOf]; omega
          · have hz1b : ((Z1 : Int) == 0) = false := by simp; omega
            clear hz1 kA1
            as_aux_lemma =>
              go_wp2_with (go_at_call 25; refine cA1.out.mono ?_; rintro e W1 ⟨rfl, q1, rfl⟩)
              go_roundw
              case rel => exact ⟨t1, ⟨_, by rw [Hn1.out], fun _ => ⟨b, ot1, rfl, Ht1.out⟩⟩, HS.out.drewN q1, HV1.out, by rw [Hn1.out]; omega, by rw [Hn1.out]; rfl⟩
              case measure => simp [lenOf]; omega
        · have c8z : ¬ ((8 : Int) < (n1 : Int)) := by omega
          have HP1 := hidden (Pv.drop Ht.out 1 (n0 - 1) (by rw [Hn0.out]; omega) (if n0 = 1 then some ⟨b, o, none⟩ else some ⟨b, o + 1, none⟩) (fun h => by rw [if_neg (by omega)]))
          as_aux_lemma =>
            go_wp2
            go_roundw
            case rel => exact ⟨t.extract 1 t.size, HP1.out, HS.out, by rw [Hx1.out]; exact HV1.out, by rw [Lib.ext_size, Hn0.out]; omega, by rw [Lib.ext_size, Hn0.out]; rfl⟩
            case measure => simp [lenOf]; omega
      · have hge : 128 ≤ x0.toNat := by omega
        have hascz : ¬ ((x0.toNat : Int) < 128) := by omega
        obtain ⟨x1, hx1⟩ : ∃ x1, t.get! 1 = x1 := ⟨_, rfl⟩
        obtain ⟨x2, hx2⟩ : ∃ x2, t.get! 2 = x2 := ⟨_, rfl⟩
        obtain ⟨x3, hx3⟩ : ∃ x3, t.get! 3 = x3 := ⟨_, rfl⟩
        have l1 := x1.toNat_lt
        have l2 := x2.toNat_lt
        have l3 := x3.toNat_lt
        have hne : t.data.toList ≠ [] := fun h => by rw [Lib.size_eq, h] at h0; simp at h0
        have hlead := Lib.validD_lead t.data.toList hne (by rw [Lib.getD_get!', hx0]; exact hge)
        rw [Lib.getD_get!', Lib.getD_get!', Lib.getD_get!', Lib.getD_get!', hx0, hx1, hx2, hx3, ← Lib.size_eq, HV.out] at hlead
        have hTr := Utf8Tabs_below HT.out (HS.out.below _ (Nat.le_refl _) (fun _ h => h.elim))
        have hf0 := hTr.1 x0.toNat hx0lt
        have hXlt : Lib.firstT x0.toNat < 256 := by rcases Lib.firstT_cases x0.toNat with h | h | h | h | h | h | h | h | h <;> omega
        obtain ⟨X, hX⟩ : ∃ X, Lib.firstT x0.toNat = X := ⟨_, rfl⟩
        rw [hX] at hf0 hXlt hlead
        have h7 := Go.Proofs.and7 ⟨X, hXlt⟩
        simp only at h7
        have ha0 : wr.cell? ⟨1, X / 16 * 2, none⟩ = some (.int .u8 (Lib.accLo (X / 16))) := by rw [Nat.mul_comm]; exact (hTr.2 (X / 16) (by omega)).1
        have ha1 : wr.cell? ⟨1, X / 16 * 2 + 1, none⟩ = some (.int .u8 (Lib.accHi (X / 16))) := by rw [Nat.mul_comm]; exact (hTr.2 (X / 16) (by omega)).2
        obtain ⟨LO, hLO⟩ : ∃ LO, Lib.accLo (X / 16) = LO := ⟨_, rfl⟩
        obtain ⟨HI, hHI⟩ : ∃ HI, Lib.accHi (X / 16) = HI := ⟨_, rfl⟩
        rw [hLO] at ha0 hlead
        rw [hHI] at ha1 hlead
        obtain ⟨SZ, hSZ⟩ : ∃ SZ, X % 8 = SZ := ⟨_, rfl⟩
        rw [hSZ] at hlead
        have Hc1 := hidden (fun (h : 1 < t.size) => show wr.cell? ⟨b, o + 1, none⟩ = some (.int .u8 (x1.toNat : Int)) by rw [← hx1]; exact Ht.out 1 h)
        have Hc2 := hidden (fun (h : 2 < t.size) => show wr.cell? ⟨b, o + 2, none⟩ = some (.int .u8 (x2.toNat : Int)) by rw [← hx2]; exact Ht.out 2 h)
        have Hc3 := hidden (fun (h : 3 < t.size) => show wr.cell? ⟨b, o + 3, none⟩ = some (.int .u8 (x3.toNat : Int)) by rw [← hx3]; exact Ht.out 3 h)
        obtain ⟨n0, hn0⟩ : ∃ n0, t.size = n0 := ⟨_, rfl⟩
        rw [hn0] at h0z h0 hts HL hlead Hc1 Hc2 Hc3 ⊢
        have Hn0 := hidden hn0
        clear hTr hX hLO hHI hne hn0 hx1 hx2 hx3 hx0
        by_cases s2 : SZ = 2
        · as_aux_lemma =>
            subst s2
            have hSZz : (X : Int) % 8 = 2 := by omega
            simp only [Lib.checkN, Nat.reduceEqDiff, if_true, if_false] at hlead
            have Hlead := hidden hlead
            clear hlead
            go_upto_region 18 with fail
            go_cut [103] from 85 to 103 (fun c wx => c = .bool (decide (n0 < 2 ∨ x1.toNat < LO ∨ HI < x1.toNat)) ∧ Step (fun _ => False) w wx ∧ Rt wx b o t)
            case first =>
              as_aux_lemma =>
                by_cases q0 : n0 < 2
                · have q0z : (n0 : Int) < 2 := by omega
                  go_big_quiet_o (fail)
                  go_wp2
                  go_meet
                  exact ⟨congrArg Value.bool (decide_eq_true (p := n0 < 2 ∨ x1.toNat < LO ∨ HI < x1.toNat) (by omega)).symm, (HS.out.alloc _).drewN _, Ht.out.step (((Step.refl (fun _ => False) wr).alloc _).drewN _)⟩
                · have q0z : ¬ ((n0 : Int) < 2) := by omega
                  have hz1 : (1 : Int) < (n0 : Int) := by omega
                  have hk1 := fun O => ((Step.refl (fun _ => False) wr).alloc O).cell (Hc1.out (by omega)) (fun h => h)
                  by_cases q1 : x1.toNat < LO
                  · have q1z : (x1.toNat : Int) < (LO : Int) := by omega
                    go_big_quiet_o (fail)
                    go_wp2
                    go_meet
                    exact ⟨congrArg Value.bool (decide_eq_true (p := n0 < 2 ∨ x1.toNat < LO ∨ HI < x1.toNat) (by omega)).symm, (HS.out.alloc _).drewN _, Ht.out.step (((Step.refl (fun _ => False) wr).alloc _).drewN _)⟩
                  · have q1z : ¬ ((x1.toNat : Int) < (LO : Int)) := by omega
                    by_cases q2 : HI < x1.toNat
                    · have q2z : (HI : Int) < (x1.toNat : Int) := by omega
                      go_big_quiet_o (fail)
                      go_wp2
                      go_meet
                      exact ⟨congrArg Value.bool (decide_eq_true (p := n0 < 2 ∨ x1.toNat < LO ∨ HI < x1.toNat) (by omega)).symm, (HS.out.alloc _).drewN _, Ht.out.step (((Step.refl (fun _ => False) wr).alloc _).drewN _)⟩
                    · have q2z : ¬ ((HI : Int) < (x1.toNat : Int)) := by omega
                      go_big_quiet_o (fail)
                      go_wp2
                      go_meet
                      exact ⟨congrArg Value.bool (decide_eq_false (p := n0 < 2 ∨ x1.toNat < LO ∨ HI < x1.toNat) (by omega)).symm, (HS.out.alloc _).drewN _, Ht.out.step (((Step.refl (fun _ => False) wr).alloc _).drewN _)⟩
            case rest =>
              as_aux_lemma =>
                obtain ⟨hcc, hbc, hbr⟩ := hcut
                have HSc := hidden hbc
                have HRc := hidden hbr
                clear hbc hbr
                by_cases hb : n0 < 2 ∨ x1.toNat < LO ∨ HI < x1.toNat
                · rw [decide_eq_true hb] at hcc
                  have HAn := hidden (show ANS = false by have h := Hlead.out; rw [if_pos hb] at h; exact h)
                  subst hcc
                  clear hb
                  go_wp2
                  go_ret
                  exact ⟨by rw [HAn.out]; rfl, HSc.out⟩
                · rw [decide_eq_false hb] at hcc
                  have HAn := hidden (show Lib.validD (t.extract 2 t.size).data.toList = ANS by have h := Hlead.out; rw [if_neg hb] at h; rw [Lib.ext_list]; exact h.symm)
                  have hk0 : 2 ≤ n0 := by omega
                  have HPk := hidden (Pv.drop HRc.out 2 (n0 - 2) (by rw [Hn0.out]; omega) (if n0 = 2 then some ⟨b, o, none⟩ else some ⟨b, o + 2, none⟩) (fun h => by rw [if_neg (by omega)]))
                  subst hcc
                  clear hb
                  go_wp2
                  go_roundw
                  case rel => exact ⟨t.extract 2 t.size, HPk.out, HSc.out, HAn.out, by rw [Lib.ext_size, Hn0.out]; omega, by rw [Lib.ext_size, Hn0.out]; rfl⟩
                  case measure => simp [lenOf]; omega
        by_cases s3 : SZ = 3
        · as_aux_lemma =>
            subst s3
            have hSZz : (X : Int) % 8 = 3 := by omega
            simp only [Lib.checkN, Nat.reduceEqDiff, if_true, if_false] at hlead
            have Hlead := hidden hlead
            clear hlead
            go_upto_region 22 with fail
            go_cut [138] from 108 to 138 (fun c wx => c = .bool (decide (n0 < 3 ∨ x1.toNat < LO ∨ HI < x1.toNat ∨ x2.toNat < 128 ∨ 191 < x2.toNat)) ∧ Step (fun _ => False) w wx ∧ Rt wx b o t)
            case first =>
              as_aux_lemma =>
                by_cases q0 : n0 < 3
                · have q0z : (n0 : Int) < 3 := by omega
                  go_big_quiet_o (fail)
                  go_wp2
                  go_meet
                  exact ⟨congrArg Value.bool (decide_eq_true (p := n0 < 3 ∨ x1.toNat < LO ∨ HI < x1.toNat ∨ x2.toNat < 128 ∨ 191 < x2.toNat) (by omega)).symm, (HS.out.alloc _).drewN _, Ht.out.step (((Step.refl (fun _ => False) wr).alloc _).drewN _)⟩
                · have q0z : ¬ ((n0 : Int) < 3) := by omega
                  have hz1 : (1 : Int) < (n0 : Int) := by omega
                  have hk1 := fun O => ((Step.refl (fun _ => False) wr).alloc O).cell (Hc1.out (by omega)) (fun h => h)
                  have hz2 : (2 : Int) < (n0 : Int) := by omega
                  have hk2 := fun O => ((Step.refl (fun _ => False) wr).alloc O).cell (Hc2.out (by omega)) (fun h => h)
                  by_cases q1 : x1.toNat < LO
                  · have q1z : (x1.toNat : Int) < (LO : Int) := by omega
                    go_big_quiet_o (fail)
                    go_wp2
                    go_meet
                    exact ⟨congrArg Value.bool (decide_eq_true (p := n0 < 3 ∨ x1.toNat < LO ∨ HI < x1.toNat ∨ x2.toNat < 128 ∨ 191 < x2.toNat) (by omega)).symm, (HS.out.alloc _).drewN _, Ht.out.step (((Step.refl (fun _ => False) wr).alloc _).drewN _)⟩
                  · have q1z : ¬ ((x1.toNat : Int) < (LO : Int)) := by omega
                    by_cases q2 : HI < x1.toNat
                    · have q2z : (HI : Int) < (x1.toNat : Int) := by omega
                      go_big_quiet_o (fail)
                      go_wp2
                      go_meet
                      exact ⟨congrArg Value.bool (decide_eq_true (p := n0 < 3 ∨ x1.toNat < LO ∨ HI < x1.toNat ∨ x2.toNat < 128 ∨ 191 < x2.toNat) (by omega)).symm, (HS.out.alloc _).drewN _, Ht.out.step (((Step.refl (fun _ => False) wr).alloc _).drewN _)⟩
                    · have q2z : ¬ ((HI : Int) < (x1.toNat : Int)) := by omega
                      by_cases q3 : x2.toNat < 128
                      · have q3z : (x2.toNat : Int) < 128 := by omega
                        go_big_quiet_o (fail)
                        go_wp2
                        go_meet
                        exact ⟨congrArg Value.bool (decide_eq_true (p := n0 < 3 ∨ x1.toNat < LO ∨ HI < x1.toNat ∨ x2.toNat < 128 ∨ 191 < x2.toNat) (by omega)).symm, (HS.out.alloc _).drewN _, Ht.out.step (((Step.refl (fun _ => False) wr).alloc _).drewN _)⟩
                      · have q3z : ¬ ((x2.toNat : Int) < 128) := by omega
                        by_cases q4 : 191 < x2.toNat
                        · have q4z : (191 : Int) < (x2.toNat : Int) := by omega
                          go_big_quiet_o (fail)
                          go_wp2
                          go_meet
                          exact ⟨congrArg Value.bool (decide_eq_true (p := n0 < 3 ∨ x1.toNat < LO ∨ HI < x1.toNat ∨ x2.toNat < 128 ∨ 191 < x2.toNat) (by omega)).symm, (HS.out.alloc _).drewN _, Ht.out.step (((Step.refl (fun _ => False) wr).alloc _).drewN _)⟩
                        · have q4z : ¬ ((191 : Int) < (x2.toNat : Int)) := by omega
                          go_big_quiet_o (fail)
                          go_wp2
                          go_meet
                          exact ⟨congrArg Value.bool (decide_eq_false (p := n0 < 3 ∨ x1.toNat < LO ∨ HI < x1.toNat ∨ x2.toNat < 128 ∨ 191 < x2.toNat) (by omega)).symm, (HS.out.alloc _).drewN _, Ht.out.step (((Step.refl (fun _ => False) wr).alloc _).drewN _)⟩
            case rest =>
              as_aux_lemma =>
                obtain ⟨hcc, hbc, hbr⟩ := hcut
                have HSc := hidden hbc
                have HRc := hidden hbr
                clear hbc hbr
                by_cases hb : n0 < 3 ∨ x1.toNat < LO ∨ HI < x1.toNat ∨ x2.toNat < 128 ∨ 191 < x2.toNat
                · rw [decide_eq_true hb] at hcc
                  have HAn := hidden (show ANS = false by have h := Hlead.out; rw [if_pos hb] at h; exact h)
                  subst hcc
                  clear hb
                  go_wp2
                  go_ret
                  exact ⟨by rw [HAn.out]; rfl, HSc.out⟩
                · rw [decide_eq_false hb] at hcc
                  have HAn := hidden (show Lib.validD (t.extract 3 t.size).data.toList = ANS by have h := Hlead.out; rw [if_neg hb] at h; rw [Lib.ext_list]; exact h.symm)
                  have hk0 : 3 ≤ n0 := by omega
                  have HPk := hidden (Pv.drop HRc.out 3 (n0 - 3) (by rw [Hn0.out]; omega) (if n0 = 3 then some ⟨b, o, none⟩ else some ⟨b, o + 3, none⟩) (fun h => by rw [if_neg (by omega)]))
                  subst hcc
                  clear hb
                  go_wp2
                  go_roundw
                  case rel => exact ⟨t.extract 3 t.size, HPk.out, HSc.out, HAn.out, by rw [Lib.ext_size, Hn0.out]; omega, by rw [Lib.ext_size, Hn0.out]; rfl⟩
                  case measure => simp [lenOf]; omega
        by_cases s4 : SZ = 4
        · as_aux_lemma =>
            subst s4
            have hSZz : (X : Int) % 8 = 4 := by omega
            simp only [Lib.checkN, Nat.reduceEqDiff, if_true, if_false] at hlead
            have Hlead := hidden hlead
            clear hlead
            go_upto_region 26 with fail
            go_cut [185] from 143 to 185 (fun c wx => c = .bool (decide (n0 < 4 ∨ x1.toNat < LO ∨ HI < x1.toNat ∨ x2.toNat < 128 ∨ 191 < x2.toNat ∨ x3.toNat < 128 ∨ 191 < x3.toNat)) ∧ Step (fun _ => False) w wx ∧ Rt wx b o t)
            case first =>
              as_aux_lemma =>
                by_cases q0 : n0 < 4
                · have q0z : (n0 : Int) < 4 := by omega
                  go_big_quiet_o (fail)
                  go_wp2
                  go_meet
                  exact ⟨congrArg Value.bool (decide_eq_true (p := n0 < 4 ∨ x1.toNat < LO ∨ HI < x1.toNat ∨ x2.toNat < 128 ∨ 191 < x2.toNat ∨ x3.toNat < 128 ∨ 191 < x3.toNat) (by omega)).symm, (HS.out.alloc _).drewN _, Ht.out.step (((Step.refl (fun _ => False) wr).alloc _).drewN _)⟩
                · have q0z : ¬ ((n0 : Int) < 4) := by omega
                  have hz1 : (1 : Int) < (n0 : Int) := by omega
                  have hk1 := fun O => ((Step.refl (fun _ => False) wr).alloc O).cell (Hc1.out (by omega)) (fun h => h)
                  have hz2 : (2 : Int) < (n0 : Int) := by omega
                  have hk2 := fun O => ((Step.refl (fun _ => False) wr).alloc O).cell (Hc2.out (by omega)) (fun h => h)
                  have hz3 : (3 : Int) < (n0 : Int) := by omega
                  have hk3 := fun O => ((Step.refl (fun _ => False) wr).alloc O).cell (Hc3.out (by omega)) (fun h => h)
                  by_cases q1 : x1.toNat < LO
                  · have q1z : (x1.toNat : Int) < (LO : Int) := by omega
                    go_big_quiet_o (fail)
                    go_wp2
                    go_meet
                    exact ⟨congrArg Value.bool (decide_eq_true (p := n0 < 4 ∨ x1.toNat < LO ∨ HI < x1.toNat ∨ x2.toNat < 128 ∨ 191 < x2.toNat ∨ x3.toNat < 128 ∨ 191 < x3.toNat) (by omega)).symm, (HS.out.alloc _).drewN _, Ht.out.step (((Step.refl (fun _ => False) wr).alloc _).drewN _)⟩
                  · have q1z : ¬ ((x1.toNat : Int) < (LO : Int)) := by omega
                    by_cases q2 : HI < x1.toNat
                    · have q2z : (HI : Int) < (x1.toNat : Int) := by omega
                      go_big_quiet_o (fail)
                      go_wp2
                      go_meet
                      exact ⟨congrArg Value.bool (decide_eq_true (p := n0 < 4 ∨ x1.toNat < LO ∨ HI < x1.toNat ∨ x2.toNat < 128 ∨ 191 < x2.toNat ∨ x3.toNat < 128 ∨ 191 < x3.toNat) (by omega)).symm, (HS.out.alloc _).drewN _, Ht.out.step (((Step.refl (fun _ => False) wr).alloc _).drewN _)⟩
                    · have q2z : ¬ ((HI : Int) < (x1.toNat : Int)) := by omega
                      by_cases q3 : x2.toNat < 128
                      · have q3z : (x2.toNat : Int) < 128 := by omega
                        go_big_quiet_o (fail)
                        go_wp2
                        go_meet
                        exact ⟨congrArg Value.bool (decide_eq_true (p := n0 < 4 ∨ x1.toNat < LO ∨ HI < x1.toNat ∨ x2.toNat < 128 ∨ 191 < x2.toNat ∨ x3.toNat < 128 ∨ 191 < x3.toNat) (by omega)).symm, (HS.out.alloc _).drewN _, Ht.out.step (((Step.refl (fun _ => False) wr).alloc _).drewN _)⟩
                      · have q3z : ¬ ((x2.toNat : Int) < 128) := by omega
                        by_cases q4 : 191 < x2.toNat
                        · have q4z : (191 : Int) < (x2.toNat : Int) := by omega
                          go_big_quiet_o (fail)
                          go_wp2
                          go_meet
                          exact ⟨congrArg Value.bool (decide_eq_true (p := n0 < 4 ∨ x1.toNat < LO ∨ HI < x1.toNat ∨ x2.toNat < 128 ∨ 191 < x2.toNat ∨ x3.toNat < 128 ∨ 191 < x3.toNat) (by omega)).symm, (HS.out.alloc _).drewN _, Ht.out.step (((Step.refl (fun _ => False) wr).alloc _).drewN _)⟩
                        · have q4z : ¬ ((191 : Int) < (x2.toNat : Int)) := by omega
                          by_cases q5 : x3.toNat < 128
                          · have q5z : (x3.toNat : Int) < 128 := by omega
                            go_big_quiet_o (fail)
                            go_wp2
                            go_meet
                            exact ⟨congrArg Value.bool (decide_eq_true (p := n0 < 4 ∨ x1.toNat < LO ∨ HI < x1.toNat ∨ x2.toNat < 128 ∨ 191 < x2.toNat ∨ x3.toNat < 128 ∨ 191 < x3.toNat) (by omega)).symm, (HS.out.alloc _).drewN _, Ht.out.step (((Step.refl (fun _ => False) wr).alloc _).drewN _)⟩
                          · have q5z : ¬ ((x3.toNat : Int) < 128) := by omega
                            by_cases q6 : 191 < x3.toNat
                            · have q6z : (191 : Int) < (x3.toNat : Int) := by omega
                              go_big_quiet_o (fail)
                              go_wp2
                              go_meet
                              exact ⟨congrArg Value.bool (decide_eq_true (p := n0 < 4 ∨ x1.toNat < LO ∨ HI < x1.toNat ∨ x2.toNat < 128 ∨ 191 < x2.toNat ∨ x3.toNat < 128 ∨ 191 < x3.toNat) (by omega)).symm, (HS.out.alloc _).drewN _, Ht.out.step (((Step.refl (fun _ => False) wr).alloc _).drewN _)⟩
                            · have q6z : ¬ ((191 : Int) < (x3.toNat : Int)) := by omega
                              go_big_quiet_o (fail)
                              go_wp2
                              go_meet
                              exact ⟨congrArg Value.bool (decide_eq_false (p := n0 < 4 ∨ x1.toNat < LO ∨ HI < x1.toNat ∨ x2.toNat < 128 ∨ 191 < x2.toNat ∨ x3.toNat < 128 ∨ 191 < x3.toNat) (by omega)).symm, (HS.out.alloc _).drewN _, Ht.out.step (((Step.refl (fun _ => False) wr).alloc _).drewN _)⟩
            case rest =>
              as_aux_lemma =>
                obtain ⟨hcc, hbc, hbr⟩ := hcut
                have HSc := hidden hbc
                have HRc := hidden hbr
                clear hbc hbr
                by_cases hb : n0 < 4 ∨ x1.toNat < LO ∨ HI < x1.toNat ∨ x2.toNat < 128 ∨ 191 < x2.toNat ∨ x3.toNat < 128 ∨ 191 < x3.toNat
                · rw [decide_eq_true hb] at hcc
                  have HAn := hidden (show ANS = false by have h := Hlead.out; rw [if_pos hb] at h; exact h)
                  subst hcc
                  clear hb
                  go_wp2
                  go_ret
                  exact ⟨by rw [HAn.out]; rfl, HSc.out⟩
                · rw [decide_eq_false hb] at hcc
                  have HAn := hidden (show Lib.validD (t.extract 4 t.size).data.toList = ANS by have h := Hlead.out; rw [if_neg hb] at h; rw [Lib.ext_list]; exact h.symm)
                  have hk0 : 4 ≤ n0 := by omega
                  have HPk := hidden (Pv.drop HRc.out 4 (n0 - 4) (by rw [Hn0.out]; omega) (if n0 = 4 then some ⟨b, o, none⟩ else some ⟨b, o + 4, none⟩) (fun h => by rw [if_neg (by omega)]))
                  subst hcc
                  clear hb
                  go_wp2
                  go_roundw
                  case rel => exact ⟨t.extract 4 t.size, HPk.out, HSc.out, HAn.out, by rw [Lib.ext_size, Hn0.out]; omega, by rw [Lib.ext_size, Hn0.out]; rfl⟩
                  case measure => simp [lenOf]; omega
        as_aux_lemma =>
          have e2 : ¬ ((X : Int) % 8 = 2) := by omega
          have e3 : ¬ ((X : Int) % 8 = 3) := by omega
          have e4 : ¬ ((X : Int) % 8 = 4) := by omega
          have e2b : (((X : Int) % 8) == 2) = false := by simp; omega
          have e3b : (((X : Int) % 8) == 3) = false := by simp; omega
          have e4b : (((X : Int) % 8) == 4) = false := by simp; omega
          simp only [Lib.checkN, s2, s3, s4, if_false] at hlead
          have HAn := hidden hlead
          clear hlead
          go_wp2
          all_goals (go_ret; exact ⟨by rw [HAn.out]; rfl, HS.out.alloc _⟩)
    · have h0z : ¬ ((0 : Int) < (t.size : Int)) := by omega
      have ht0 : t.data.toList = [] := List.eq_nil_of_length_eq_zero (by rw [← Lib.size_eq]; omega)
      have HAn := hidden (show ANS = true by rw [← HV.out, ht0, Lib.validD_nil])
      as_aux_lemma =>
        go_wp2
        go_ret
        exact ⟨by rw [HAn.out]; rfl, HS.out⟩

end Go.Proofs.YthomkgajilmphaaDoor
