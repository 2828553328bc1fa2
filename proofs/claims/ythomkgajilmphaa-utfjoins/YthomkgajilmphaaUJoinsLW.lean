/-
  The walk of the law on joined lines.
-/
import Derived.Test.YthomkgajilmphaaUJoinN
import Derived.Test.YthomkgajilmphaaULinesW
import Derived.Test.YthomkgajilmphaaUApp
import Derived.Test.YthomkgajilmphaaUFrame
import Derived.RegionTactic
namespace Go.Proofs.Ythomkgajilmphaa
open Go.RowKit Go.Lib

theorem and_1023 (z : Int) : ∃ y : Nat, y ≤ 1023 ∧ bits .and .i64 z 1023 = (y : Int) := by
  have h : (BitVec.ofInt 64 z &&& BitVec.ofInt 64 1023).toNat ≤ 1023 := by
    rw [BitVec.toNat_and]
    have : (BitVec.ofInt 64 1023).toNat = 1023 := by decide
    rw [this]
    exact Nat.and_le_right
  refine ⟨(BitVec.ofInt 64 z &&& BitVec.ofInt 64 1023).toNat, h, ?_⟩
  show IntKind.i64.wrap ((BitVec.ofInt 64 z &&& BitVec.ofInt 64 1023).toNat : Int) = _
  exact wrap_i64_nat _ (by omega)

theorem Ss.cellOf {w : World} {ao : Option Addr} {n cap : Nat} {L : List (List UInt8)} (h : Ss w (.slice ao n cap) L) {k : Nat} (hk : k < L.length) : ∃ b off, ao = some ⟨b, off, none⟩ ∧ ∀ j, j < L.length → w.cell? ⟨b, off + j, none⟩ = some (str (L.getD j [])) := by
  obtain ⟨ao', c', e, h1, h2⟩ := h
  injection e with e1 e2 e3
  subst e1
  cases ao with
  | none => have := (h1 rfl).1; subst this; simp at hk
  | some a =>
    obtain ⟨b, off, rfl, hc⟩ := h2 a rfl (by intro e; subst e; simp at hk)
    exact ⟨b, off, rfl, hc⟩
theorem Zs.cellOf {w : World} {ao : Option Addr} {n cap : Nat} {Z : List Int} (h : Zs w (.slice ao n cap) Z) {k : Nat} (hk : k < Z.length) : ∃ b off, ao = some ⟨b, off, none⟩ ∧ w.cell? ⟨b, off + k, none⟩ = some (.int .i64 (Z.getD k 0)) := by
  obtain ⟨ao', c', e, h1, h2⟩ := h
  injection e with e1 e2 e3
  subst e1
  cases ao with
  | none => have := h1 rfl; subst this; simp at hk
  | some a =>
    obtain ⟨b, off, rfl, hc⟩ := h2 a rfl (by intro e; subst e; simp at hk)
    exact ⟨b, off, rfl, hc k hk⟩

set_option maxRecDepth 100000 in
set_option maxHeartbeats 4000000 in
theorem joinsLaw_any (a0 : Option Addr) (c0 : Nat) (L : List (List UInt8)) (a1 : Option Addr) (c1 : Nat) (Z : List Int) (w : World) (r0 : Ss w (.slice a0 L.length c0) L) (m0 : L.length ≤ 140737488351232) (n0 : ∀ x ∈ L, x.length ≤ 140737488351232)
    (r1 : Zs w (.slice a1 Z.length c1) Z) :
    Calls Try.prog 4 #[.slice a0 L.length c0, .slice a1 Z.length c1] w fun e w' => e = .returned (.bool true) ∧ Step (fun _ => False) w w' := by
  have R0 := hidden r0
  have R1 := hidden r1
  have N0 := hidden n0
  obtain ⟨n, hn⟩ : ∃ n, L.length = n := ⟨_, rfl⟩
  obtain ⟨nz, hnz⟩ : ∃ n, Z.length = n := ⟨_, rfl⟩
  rw [hn] at m0 R0 ⊢
  rw [hnz] at R1 ⊢
  have Hn := hidden hn
  have Hnz := hidden hnz
  clear r0 r1 n0 hn hnz
  go_enter Try.func4, Try.ntmps4
  go_wp2
  go_loopw [5, 6] (fun sv iv wr => ∃ (i m : Nat) (acc : List UInt8) (sa : ByteArray), iv = .int .i64 (i : Int) ∧ sv = .string sa ∧ i ≤ n ∧ i ≤ m ∧ m ≤ 3002 ∧ sa.size = m ∧ Hid (sa = ⟨acc.toArray⟩ ∧ acc.length = m) ∧
      Hid (Step (fun _ => False) w wr) ∧ Hid (∃ fl, Jn L i acc fl)) (fun _ iv _ => n - (RowKit.intOf iv).toNat)
  case atStart => exact ⟨0, 0, [], ⟨#[]⟩, rfl, rfl, Nat.zero_le _, Nat.le_refl _, by omega, rfl, ⟨rfl, rfl⟩, Step.refl _ w, ⟨false, Jn.start L⟩⟩
  case round =>
    obtain ⟨i, m, acc, sa, rfl, rfl, hin, him, hm, hsz, HA, HS, HJ⟩ := hrel
    by_cases hi : i < n
    · obtain ⟨b, off, rfl, hcs⟩ := (R0.out.step HS.out).cellOf (k := i) (by have := Hn.out; omega)
      have HCS := hidden hcs
      have hc0 := hcs i (by have := Hn.out; omega)
      clear hcs
      obtain ⟨x, hx⟩ : ∃ x, L.getD i [] = x := ⟨_, rfl⟩
      have hxl : x.length ≤ 140737488351232 := N0.out x (by
        have : i < L.length := by have := Hn.out; omega
        rw [← hx]
        simp [List.getD, this])
      rw [hx] at hc0
      have Hx := hidden hx
      obtain ⟨sx, hsx⟩ : ∃ s : ByteArray, (⟨x.toArray⟩ : ByteArray) = s := ⟨_, rfl⟩
      have hsxl : sx.size = x.length := by rw [← hsx]; exact ba_size x
      have hsxd : sx.data.toList = x := by rw [← hsx]
      unfold str at hc0
      rw [hsx] at hc0
      have Hsx := hidden (And.intro hsx hsxd)
      have i0 : (0 : Int) ≤ (i : Int) := by omega
      have iz : (i : Int) < (n : Int) := by omega
      obtain ⟨q, hq⟩ : ∃ q, sx.size = q := ⟨_, rfl⟩
      have Hq := hidden hq
      have HxL := hidden hsxl
      have hq2 : q ≤ 140737488351232 := by omega
      clear hx hsx hsxd
      have hc0a : ∀ o, (wr.alloc o).cell? ⟨b, off + i, none⟩ = some (.string sx) := fun o => ((Step.refl (fun _ => False) wr).alloc o).cell hc0 (fun h => h)
      by_cases hbig : m + q ≤ 3000
      · have hmq : ¬ 9223372036854775807 < m + q := by omega
        have gbig : ¬ ((3000 : Int) < (m : Int) + (q : Int)) := by omega
        clear hsxl
        go_wp2
        go_loopw [7] (fun kv wx => ∃ k : Nat, kv = .int .i64 (k : Int) ∧ k ≤ q ∧ wx = wr ∧ Hid (∀ j, j < k → x.getD j 0 ≠ 10 ∧ x.getD j 0 ≠ 13)) (fun kv _ => q - (RowKit.intOf kv).toNat)
        case atStart => exact ⟨0, rfl, Nat.zero_le _, rfl, fun j hj => by omega⟩
        case round =>
          obtain ⟨k, rfl, hk, rfl, HP⟩ := hrel
          by_cases hkq : k < q
          · have hks : k < sx.size := by have := Hq.out; omega
            have c1 : sx[k]'hks = x.getD k 0 := getD_at sx x Hsx.out.2 k hks
            obtain ⟨y, hy⟩ : ∃ y, x.getD k 0 = y := ⟨_, rfl⟩
            rw [hy] at c1
            have hyl := y.toNat_lt
            have kz0 : (0 : Int) ≤ (k : Int) := by omega
            have kz : (k : Int) < (sx.size : Int) := by omega
            have kq : (k : Int) < (q : Int) := by omega
            have Hy := hidden hy
            clear hy
            by_cases h10 : y.toNat = 10
            · have g1 : ((y.toNat : Int) == 10) = true := by simp [h10]
              clear h10
              have HK := hidden (known_any wr)
              go_wp2_with fail
              refine Calls.mono HK.out ?_
              rintro e w9 ⟨rfl, S9⟩
              have HS9 := hidden (HS.out.made S9)
              clear S9
              go_wp2
              go_ret
              exact ⟨rfl, HS9.out⟩
            · have g1 : ((y.toNat : Int) == 10) = false := by simp; omega
              by_cases h13 : y.toNat = 13
              · have g2 : ((y.toNat : Int) == 13) = true := by simp [h13]
                clear h10 h13
                have HK := hidden (known_any wr)
                go_wp2_with fail
                refine Calls.mono HK.out ?_
                rintro e w9 ⟨rfl, S9⟩
                have HS9 := hidden (HS.out.made S9)
                clear S9
                go_wp2
                go_ret
                exact ⟨rfl, HS9.out⟩
              · have g2 : ((y.toNat : Int) == 13) = false := by simp; omega
                have HP2 := hidden (show ∀ j, j < k + 1 → x.getD j 0 ≠ 10 ∧ x.getD j 0 ≠ 13 by
                  intro j hj
                  by_cases e : j = k
                  · rw [e, Hy.out]; exact ⟨fun e => h10 (by rw [e]; rfl), fun e => h13 (by rw [e]; rfl)⟩
                  · exact HP.out j (by omega))
                clear h10 h13
                go_wp2
                go_roundw
                case rel => exact ⟨k + 1, by go_num, by omega, by trivial, HP2.out⟩
                case measure => simp [RowKit.intOf]; omega
          · have hkz : ¬ (k : Int) < (q : Int) := by omega
            have HPl := hidden (show plainL (L.getD i []) by
              rw [Hx.out]
              intro b hb
              obtain ⟨j, hj, rfl⟩ := List.getElem_of_mem hb
              have := HP.out j (by have := HxL.out; have := Hq.out; omega)
              simpa [List.getD, hj] using this)
            have hiL : i < L.length := by have := Hn.out; omega
            by_cases hz : i < nz
            · obtain ⟨b1, off1, rfl, hcz⟩ := (show Zs wr (.slice a1 nz c1) Z by
                obtain ⟨ao, cap, e1, e2, e3⟩ := R1.out
                exact ⟨ao, cap, e1, e2, fun a ha hb => by
                  obtain ⟨b, off, e4, e5⟩ := e3 a ha hb
                  exact ⟨b, off, e4, fun k hk => HS.out.cell (e5 k hk) (fun h => h)⟩⟩).cellOf (k := i) (by have := Hnz.out; omega)
              have hzz : (i : Int) < (nz : Int) := by omega
              obtain ⟨y, hy1, hy2⟩ := and_1023 (Z.getD i 0)
              obtain ⟨z, hzd⟩ : ∃ z, Z.getD i 0 = z := ⟨_, rfl⟩
              rw [hzd] at hcz hy2
              have hr : y % 3 = 0 ∨ y % 3 = 1 ∨ y % 3 = 2 := by omega
              clear hz hzd
              rcases hr with hr | hr | hr
              · have htm : Int.tmod (y : Int) 3 = 0 := by rw [Int.tmod_eq_emod_of_nonneg (by omega)]; omega
                clear hr
                have HJ2 := hidden (show ∃ fl, Jn L (i + 1) (acc ++ x ++ [10]) fl from ⟨false, by rw [← Hx.out]; exact HJ.out.choose_spec.lf hiL HPl.out⟩)
                have HA2 := hidden (show sa ++ sx ++ ⟨#[10]⟩ = (⟨(acc ++ x ++ [10]).toArray⟩ : ByteArray) ∧ (acc ++ x ++ [10]).length = m + q + 1 by
                  refine ⟨?_, ?_⟩
                  · rw [HA.out.1, ← Hsx.out.1, cat_str]; exact cat_str (acc ++ x) [10]
                  · have h1 := HA.out.2; have h2 := HxL.out; have h3 := Hq.out; simp; omega)
                obtain ⟨s2, hs2⟩ : ∃ s2, sa ++ sx = s2 := ⟨_, rfl⟩
                have hs2l : s2.size = m + q := by rw [← hs2, ByteArray.size_append]; have := Hq.out; omega
                rw [hs2] at HA2
                obtain ⟨s3, hs3⟩ : ∃ s3, s2 ++ ⟨#[10]⟩ = s3 := ⟨_, rfl⟩
                rw [hs3] at HA2
                have hs3l : s3.size = m + q + 1 := by rw [HA2.out.1, ba_size]; exact HA2.out.2
                have hs2b : s2.size ≤ 100000 := by omega
                have Hs2l := hidden hs2l
                clear hs2l
                go_wp2
                go_region
                all_goals
                  go_wp2
                  go_roundw
                  case rel => exact ⟨i + 1, m + q + 1, _, s3, by go_num, rfl, by omega, by omega, by omega, hs3l, HA2.out, by first | exact HS.out.alloc _ | exact (HS.out.alloc _).drew | exact (HS.out.alloc _).drewN _ | exact (HS.out.drewN _).alloc _ | exact ((HS.out.drewN _).alloc _).drewN _, HJ2.out⟩
                  case measure => simp [RowKit.intOf]; omega
              · have htm : Int.tmod (y : Int) 3 = 1 := by rw [Int.tmod_eq_emod_of_nonneg (by omega)]; omega
                clear hr
                have HJ2 := hidden (show ∃ fl, Jn L (i + 1) (acc ++ x ++ [13, 10]) fl from ⟨false, by rw [← Hx.out]; exact HJ.out.choose_spec.crlf hiL HPl.out⟩)
                have HA2 := hidden (show sa ++ sx ++ ⟨#[13, 10]⟩ = (⟨(acc ++ x ++ [13, 10]).toArray⟩ : ByteArray) ∧ (acc ++ x ++ [13, 10]).length = m + q + 2 by
                  refine ⟨?_, ?_⟩
                  · rw [HA.out.1, ← Hsx.out.1, cat_str]; exact cat_str (acc ++ x) [13, 10]
                  · have h1 := HA.out.2; have h2 := HxL.out; have h3 := Hq.out; simp; omega)
                obtain ⟨s2, hs2⟩ : ∃ s2, sa ++ sx = s2 := ⟨_, rfl⟩
                have hs2l : s2.size = m + q := by rw [← hs2, ByteArray.size_append]; have := Hq.out; omega
                rw [hs2] at HA2
                obtain ⟨s3, hs3⟩ : ∃ s3, s2 ++ ⟨#[13, 10]⟩ = s3 := ⟨_, rfl⟩
                rw [hs3] at HA2
                have hs3l : s3.size = m + q + 2 := by rw [HA2.out.1, ba_size]; exact HA2.out.2
                have hs2b : s2.size ≤ 100000 := by omega
                have Hs2l := hidden hs2l
                clear hs2l
                go_wp2
                go_region
                all_goals
                  go_wp2
                  go_roundw
                  case rel => exact ⟨i + 1, m + q + 2, _, s3, by go_num, rfl, by omega, by omega, by omega, hs3l, HA2.out, by first | exact HS.out.alloc _ | exact (HS.out.alloc _).drew | exact (HS.out.alloc _).drewN _ | exact (HS.out.drewN _).alloc _ | exact ((HS.out.drewN _).alloc _).drewN _, HJ2.out⟩
                  case measure => simp [RowKit.intOf]; omega
              · have htm : Int.tmod (y : Int) 3 = 2 := by rw [Int.tmod_eq_emod_of_nonneg (by omega)]; omega
                clear hr
                by_cases hnx : i + 1 < n
                · have hnz1 : (i : Int) + 1 < (n : Int) := by omega
                  obtain ⟨j, hj⟩ : ∃ j, j = i + 1 := ⟨_, rfl⟩
                  have hc1 := HCS.out j (by have := Hn.out; omega)
                  have hji : (i : Int) + 1 = (j : Int) := by omega
                  have hjn : (j : Int) < (n : Int) := by omega
                  have hj0 : (0 : Int) ≤ (j : Int) := by omega
                  have Hj := hidden hj
                  clear hj hnz1
                  obtain ⟨x1, hx1⟩ : ∃ x1, L.getD j [] = x1 := ⟨_, rfl⟩
                  rw [hx1] at hc1
                  unfold str at hc1
                  by_cases hx0 : x1 = []
                  · subst hx0
                    clear hx1
                    have HJ2 := hidden (show ∃ fl, Jn L (i + 1) (acc ++ x ++ [10]) fl from ⟨false, by rw [← Hx.out]; exact HJ.out.choose_spec.lf hiL HPl.out⟩)
                    have HA2 := hidden (show sa ++ sx ++ ⟨#[10]⟩ = (⟨(acc ++ x ++ [10]).toArray⟩ : ByteArray) ∧ (acc ++ x ++ [10]).length = m + q + 1 by
                      refine ⟨?_, ?_⟩
                      · rw [HA.out.1, ← Hsx.out.1, cat_str]; exact cat_str (acc ++ x) [10]
                      · have h1 := HA.out.2; have h2 := HxL.out; have h3 := Hq.out; simp; omega)
                    obtain ⟨s2, hs2⟩ : ∃ s2, sa ++ sx = s2 := ⟨_, rfl⟩
                    have hs2l : s2.size = m + q := by rw [← hs2, ByteArray.size_append]; have := Hq.out; omega
                    rw [hs2] at HA2
                    obtain ⟨s3, hs3⟩ : ∃ s3, s2 ++ ⟨#[10]⟩ = s3 := ⟨_, rfl⟩
                    rw [hs3] at HA2
                    have hs3l : s3.size = m + q + 1 := by rw [HA2.out.1, ba_size]; exact HA2.out.2
                    have hs2b : s2.size ≤ 100000 := by omega
                    have Hs2l := hidden hs2l
                    clear hs2l
                    go_wp2
                    go_region
                    all_goals
                      go_wp2
                      go_roundw
                      case rel => exact ⟨i + 1, m + q + 1, _, s3, by go_num, rfl, by omega, by omega, by omega, hs3l, HA2.out, by first | exact HS.out.alloc _ | exact (HS.out.alloc _).drew | exact (HS.out.alloc _).drewN _ | exact (HS.out.drewN _).alloc _ | exact ((HS.out.drewN _).alloc _).drewN _, HJ2.out⟩
                      case measure => simp [RowKit.intOf]; omega
                  · have HNx := hidden (show i + 1 < L.length → L.getD (i + 1) [] ≠ [] by intro _; rw [← Hj.out, hx1]; exact hx0)
                    have hxe : (x1 == []) = false := by simp [hx0]
                    clear hx0 hx1
                    have HJ2 := hidden (show ∃ fl, Jn L (i + 1) (acc ++ x ++ [13]) fl from ⟨true, by rw [← Hx.out]; exact HJ.out.choose_spec.cr hiL HPl.out HNx.out⟩)
                    have HA2 := hidden (show sa ++ sx ++ ⟨#[13]⟩ = (⟨(acc ++ x ++ [13]).toArray⟩ : ByteArray) ∧ (acc ++ x ++ [13]).length = m + q + 1 by
                      refine ⟨?_, ?_⟩
                      · rw [HA.out.1, ← Hsx.out.1, cat_str]; exact cat_str (acc ++ x) [13]
                      · have h1 := HA.out.2; have h2 := HxL.out; have h3 := Hq.out; simp; omega)
                    obtain ⟨s2, hs2⟩ : ∃ s2, sa ++ sx = s2 := ⟨_, rfl⟩
                    have hs2l : s2.size = m + q := by rw [← hs2, ByteArray.size_append]; have := Hq.out; omega
                    rw [hs2] at HA2
                    obtain ⟨s3, hs3⟩ : ∃ s3, s2 ++ ⟨#[13]⟩ = s3 := ⟨_, rfl⟩
                    rw [hs3] at HA2
                    have hs3l : s3.size = m + q + 1 := by rw [HA2.out.1, ba_size]; exact HA2.out.2
                    have hs2b : s2.size ≤ 100000 := by omega
                    have Hs2l := hidden hs2l
                    clear hs2l
                    go_wp2
                    go_region
                    all_goals
                      go_wp2
                      go_roundw
                      case rel => exact ⟨i + 1, m + q + 1, _, s3, by go_num, rfl, by omega, by omega, by omega, hs3l, HA2.out, by first | exact HS.out.alloc _ | exact (HS.out.alloc _).drew | exact (HS.out.alloc _).drewN _ | exact (HS.out.drewN _).alloc _ | exact ((HS.out.drewN _).alloc _).drewN _, HJ2.out⟩
                      case measure => simp [RowKit.intOf]; omega
                · have HNx := hidden (show i + 1 < L.length → L.getD (i + 1) [] ≠ [] by intro h; have := Hn.out; omega)
                  have hnz1 : ¬ (i : Int) + 1 < (n : Int) := by omega
                  have HJ2 := hidden (show ∃ fl, Jn L (i + 1) (acc ++ x ++ [13]) fl from ⟨true, by rw [← Hx.out]; exact HJ.out.choose_spec.cr hiL HPl.out HNx.out⟩)
                  have HA2 := hidden (show sa ++ sx ++ ⟨#[13]⟩ = (⟨(acc ++ x ++ [13]).toArray⟩ : ByteArray) ∧ (acc ++ x ++ [13]).length = m + q + 1 by
                    refine ⟨?_, ?_⟩
                    · rw [HA.out.1, ← Hsx.out.1, cat_str]; exact cat_str (acc ++ x) [13]
                    · have h1 := HA.out.2; have h2 := HxL.out; have h3 := Hq.out; simp; omega)
                  obtain ⟨s2, hs2⟩ : ∃ s2, sa ++ sx = s2 := ⟨_, rfl⟩
                  have hs2l : s2.size = m + q := by rw [← hs2, ByteArray.size_append]; have := Hq.out; omega
                  rw [hs2] at HA2
                  obtain ⟨s3, hs3⟩ : ∃ s3, s2 ++ ⟨#[13]⟩ = s3 := ⟨_, rfl⟩
                  rw [hs3] at HA2
                  have hs3l : s3.size = m + q + 1 := by rw [HA2.out.1, ba_size]; exact HA2.out.2
                  have hs2b : s2.size ≤ 100000 := by omega
                  have Hs2l := hidden hs2l
                  clear hs2l
                  go_wp2
                  go_region
                  all_goals
                    go_wp2
                    go_roundw
                    case rel => exact ⟨i + 1, m + q + 1, _, s3, by go_num, rfl, by omega, by omega, by omega, hs3l, HA2.out, by first | exact HS.out.alloc _ | exact (HS.out.alloc _).drew | exact (HS.out.alloc _).drewN _ | exact (HS.out.drewN _).alloc _ | exact ((HS.out.drewN _).alloc _).drewN _, HJ2.out⟩
                    case measure => simp [RowKit.intOf]; omega
            · have hzz : ¬ (i : Int) < (nz : Int) := by omega
              have HJ2 := hidden (show ∃ fl, Jn L (i + 1) (acc ++ x ++ [10]) fl from ⟨false, by rw [← Hx.out]; exact HJ.out.choose_spec.lf hiL HPl.out⟩)
              have HA2 := hidden (show sa ++ sx ++ ⟨#[10]⟩ = (⟨(acc ++ x ++ [10]).toArray⟩ : ByteArray) ∧ (acc ++ x ++ [10]).length = m + q + 1 by
                refine ⟨?_, ?_⟩
                · rw [HA.out.1, ← Hsx.out.1, cat_str]; exact cat_str (acc ++ x) [10]
                · have h1 := HA.out.2; have h2 := HxL.out; have h3 := Hq.out; simp; omega)
              obtain ⟨s2, hs2⟩ : ∃ s2, sa ++ sx = s2 := ⟨_, rfl⟩
              have hs2l : s2.size = m + q := by rw [← hs2, ByteArray.size_append]; have := Hq.out; omega
              rw [hs2] at HA2
              obtain ⟨s3, hs3⟩ : ∃ s3, s2 ++ ⟨#[10]⟩ = s3 := ⟨_, rfl⟩
              rw [hs3] at HA2
              have hs3l : s3.size = m + q + 1 := by rw [HA2.out.1, ba_size]; exact HA2.out.2
              have hs2b : s2.size ≤ 100000 := by omega
              have Hs2l := hidden hs2l
              clear hs2l
              go_wp2
              go_region
              all_goals
                go_wp2
                go_roundw
                case rel => exact ⟨i + 1, m + q + 1, _, s3, by go_num, rfl, by omega, by omega, by omega, hs3l, HA2.out, by first | exact HS.out.alloc _ | exact (HS.out.alloc _).drew | exact (HS.out.alloc _).drewN _ | exact (HS.out.drewN _).alloc _ | exact ((HS.out.drewN _).alloc _).drewN _, HJ2.out⟩
                case measure => simp [RowKit.intOf]; omega
      · have gbig : (3000 : Int) < (m : Int) + (q : Int) := by omega
        clear hsxl hbig
        go_wp2
        go_ret
        exact ⟨rfl, HS.out⟩
    · have hie : i = n := by omega
      subst hie
      have HE := hidden (show linesD acc = L by
        obtain ⟨fl, h⟩ := HJ.out
        rw [← Hn.out] at h
        exact h.fin)
      have HLn := hidden (fun wx => lines_any acc wx (by have := HA.out.2; omega))
      unfold str at HLn
      rw [← HA.out.1, HE.out] at HLn
      clear hi hin
      go_wp2_with fail
      refine Calls.mono (HLn.out _) ?_
      rintro e w4 ⟨v4, rfl, O4, S4⟩
      have HT := hidden (texts_any v4 (.slice a0 i c0) _ _ w4 (Ss.of_own O4.own) ((R0.out.step HS.out).step S4) (by have := Hn.out; omega))
      rw [decide_eq_true rfl] at HT
      have HS4 := hidden (HS.out.made S4)
      clear O4 S4
      go_wp2_with fail
      refine Calls.mono HT.out ?_
      rintro e w5 ⟨rfl, q5, rfl⟩
      have HS5 := hidden (HS4.out.drewN q5)
      have HK := hidden (known_any (w4.drewN q5))
      go_wp2_with fail
      refine Calls.mono HK.out ?_
      rintro e wC ⟨rfl, SC⟩
      have HSC := hidden (HS5.out.made SC)
      clear SC
      go_wp2
      go_ret
      exact ⟨rfl, HSC.out⟩

end Go.Proofs.Ythomkgajilmphaa
