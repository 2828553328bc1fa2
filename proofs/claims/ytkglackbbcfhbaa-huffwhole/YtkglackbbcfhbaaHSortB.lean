/-
  The stable sort: rows of whatever length, the walk.
-/
import Derived.Test.YtkglackbbcfhbaaHSortA
namespace Go.Proofs.Ytkglackbbcfhbaa
open Go.RowKit
set_option maxRecDepth 100000
set_option linter.unusedVariables false

set_option maxHeartbeats 4000000 in
theorem stable_any (O : List Int) (v : Value) (B g : Nat) (D : List Int) (cap : Nat) (w : World) (hE : Env w B g v O) (hD : Row w g D) (hin : InO O D) (hl : D.length ≤ 100000) (hO : O.length ≤ 100000) :
    Calls Try.prog 35 #[.slice (some ⟨g, 0, none⟩) D.length cap, .int .i64 (D.length : Int), cmpV B] w fun e w' => (∃ u, e = .returned u) ∧ ∃ D', Srt O D 0 D.length D' ∧ Row w' g D' ∧ Step (fun k => k = g) w w' := by
  obtain ⟨n, hn⟩ : ∃ n, n = D.length := ⟨_, rfl⟩
  have HI := hidden (fun (a b c : Nat) (w2 : World) (hc : a = 20 * c) (h : S1 O D g a n w w2) (hab : a ≤ b) (hb : b ≤ n) => ins_call cap hE hin hn c hc h hab hb (by omega) hO)
  have HY := hidden (fun (z a m b c : Nat) (w2 : World) (hc : a = 2 * z * c) (h : S2 O D g z a n w w2) (hz : 0 < z) (hm : m = a + z) (hmb : m < b) (hb2 : b ≤ m + z) (hb : b ≤ n) => sym_call cap hE hin hn c hc h hz hm hmb hb2 hb (by omega) hO)
  have H0 := hidden (show S1 O D g 0 n w w from ⟨D, Mix.refl _ _ _, Blk.none _ _ _, hD, Step.refl _ _⟩)
  have HF := hidden (fun (z : Nat) (w2 : World) (hz : n ≤ z) (h : S3 O D g z n w w2) => show ∃ D', Srt O D 0 n D' ∧ Row w2 g D' ∧ Step (fun k => k = g) w w2 by
    obtain ⟨D', m1, m2, m3, m4⟩ := h
    exact ⟨D', ⟨m1.perm, m1.out, m2.all hz⟩, m3, m4⟩)
  rw [← hn] at hl ⊢
  clear hE hD hin hn
  go_enter Try.func35, Try.ntmps35
  go_wp2
  go_loopw [7, 8] (fun av bv wr => ∃ a b : Nat, av = .int .i64 (a : Int) ∧ bv = .int .i64 (b : Int) ∧ a + 20 ≤ b ∧ b ≤ a + 20 ∧ a ≤ n ∧ Hid (∃ c, a = 20 * c) ∧ Hid (S1 O D g a n w wr)) (fun _ bv _ => (n + 40 - intOf bv).toNat)
  case atStart => exact ⟨0, 20, rfl, rfl, by omega, by omega, by omega, ⟨0, rfl⟩, H0.out⟩
  case round =>
    obtain ⟨a, b, rfl, rfl, h1, h2, h3, HC, HS⟩ := hrel
    by_cases hb : b ≤ n
    · have hb' : (b : Int) ≤ (n : Int) := by omega
      have HK := hidden (HI.out a b HC.out.choose wr HC.out.choose_spec HS.out (by omega) hb)
      go_wp2_with fail
      refine HK.out.mono ?_
      rintro x w2 ⟨⟨u, rfl⟩, hr⟩
      have HR := hidden hr
      clear hr HK
      go_wp2
      go_roundw
      case rel => exact ⟨b, b + 20, rfl, by go_num, by omega, by omega, by omega, (by obtain ⟨c, hc⟩ := HC.out; exact ⟨c + 1, by omega⟩), HR.out⟩
      case measure => simp [intOf]; omega
    · have hb' : ¬ (b : Int) ≤ (n : Int) := by omega
      have HK := hidden (HI.out a n HC.out.choose wr HC.out.choose_spec HS.out (by omega) (Nat.le_refl _))
      go_wp2_with fail
      refine HK.out.mono ?_
      rintro x w2 ⟨⟨u, rfl⟩, hr⟩
      have HR := hidden (show S3 O D g 20 n w w2 from hr)
      clear hr HK HS HC h1 h2 h3
      go_wp2
      go_loopw [6, 7, 8, 9] (fun zv _ _ _ wx => ∃ z : Nat, zv = .int .i64 (z : Int) ∧ 20 ≤ z ∧ z ≤ 300000 ∧ Hid (S3 O D g z n w wx)) (fun zv _ _ _ _ => (n - intOf zv).toNat)
      case atStart => exact ⟨20, rfl, by omega, by omega, HR.out⟩
      case round =>
        obtain ⟨z, rfl, z1, z2, HS3⟩ := hrel
        by_cases hz : z < n
        · have hz' : (z : Int) < (n : Int) := by omega
          obtain ⟨Z, hZ⟩ : ∃ Z, Z = 2 * z := ⟨_, rfl⟩
          have eZ : (2 : Int) * (z : Int) = (Z : Int) := by omega
          have eZ' : (z : Int) * 2 = (Z : Int) := by omega
          have hZ1 : Z ≤ 2 * z := by omega
          have hZ2 : 2 * z ≤ Z := by omega
          have HZ := hidden hZ
          have HS2 := hidden (S2.start HS3.out)
          clear hZ HS3
          go_wp2
          go_loopw [7, 8] (fun av bv wy => ∃ a b : Nat, av = .int .i64 (a : Int) ∧ bv = .int .i64 (b : Int) ∧ a + Z ≤ b ∧ b ≤ a + Z ∧ a ≤ n ∧ Hid (∃ c, a = 2 * z * c) ∧ Hid (S2 O D g z a n w wy)) (fun _ bv _ => (n + Z + 1 - intOf bv).toNat)
          case atStart => exact ⟨0, Z, rfl, rfl, by omega, by omega, by omega, ⟨0, by simp⟩, HS2.out⟩
          case round =>
            obtain ⟨a, b, rfl, rfl, h1, h2, h3, HC, HS⟩ := hrel
            obtain ⟨m, hm⟩ : ∃ m, m = a + z := ⟨_, rfl⟩
            have em : (a : Int) + (z : Int) = (m : Int) := by omega
            have hm1 : m ≤ a + z := by omega
            have hm2 : a + z ≤ m := by omega
            by_cases hb2 : b ≤ n
            · have hb2' : (b : Int) ≤ (n : Int) := by omega
              have HK := hidden (HY.out z a m b HC.out.choose _ HC.out.choose_spec HS.out (by omega) hm (by omega) (by omega) hb2)
              clear hm
              go_wp2_with fail
              refine HK.out.mono ?_
              rintro x w3 ⟨⟨u, rfl⟩, hr⟩
              have HR2 := hidden hr
              clear hr HK
              go_wp2
              go_roundw
              case rel => exact ⟨b, b + Z, rfl, by go_num, by omega, by omega, by omega, (by obtain ⟨c, hc⟩ := HC.out; exact ⟨c + 1, by rw [Nat.mul_succ]; omega⟩), HR2.out⟩
              case measure => simp [intOf]; omega
            · have hb2' : ¬ (b : Int) ≤ (n : Int) := by omega
              by_cases hmn : m < n
              · have hmn' : (m : Int) < (n : Int) := by omega
                have HK := hidden (HY.out z a m n HC.out.choose _ HC.out.choose_spec HS.out (by omega) hm hmn (by omega) (Nat.le_refl _))
                clear hm
                go_wp2_with fail
                refine HK.out.mono ?_
                rintro x w3 ⟨⟨u, rfl⟩, hr⟩
                have HR2 := hidden (show S3 O D g Z n w w3 by rw [HZ.out]; exact S2.stop hr)
                clear hr HK
                go_wp2
                go_roundw
                case rel => exact ⟨Z, rfl, by omega, by omega, HR2.out⟩
                case measure => simp [intOf]; omega
              · have hmn' : ¬ (m : Int) < (n : Int) := by omega
                have HR2 := hidden (fun w3 (h : S2 O D g z a n w w3) => show S3 O D g Z n w w3 by rw [HZ.out]; exact S2.short HC.out.choose HC.out.choose_spec h (by omega))
                clear hm
                go_wp2
                go_roundw
                case rel => exact ⟨Z, rfl, by omega, by omega, HR2.out _ HS.out⟩
                case measure => simp [intOf]; omega
        · have hz' : ¬ (z : Int) < (n : Int) := by omega
          have HZZ := hidden (HF.out z _ (by omega) HS3.out)
          go_wp2
          go_end0
          exact ⟨⟨_, rfl⟩, HZZ.out⟩

theorem sort_all (n : Nat) (h : n ≤ 100000) : SortOk n :=
  sort_of_stable n (fun O v B g D cap w hE hD hin hl hO => stable_any O v B g D cap w hE hD hin (by omega) hO) h

end Go.Proofs.Ytkglackbbcfhbaa
