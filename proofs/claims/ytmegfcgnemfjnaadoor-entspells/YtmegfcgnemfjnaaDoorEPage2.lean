/-
  What is spelt at the beginning of a text: the page's way, whole.
-/
import Derived.Test.YtmegfcgnemfjnaaDoorEPage1
import Derived.Test.YtmegfcgnemfjnaaDoorECode2
namespace Go.Proofs.YtmegfcgnemfjnaaDoor
open Go.RowKit Go.Lib

theorem step_drew (w : World) (n : Nat) : Step (fun _ => False) w (w.drewN n) := ⟨rfl, rfl, rfl, Nat.le_refl _, fun _ _ _ => rfl⟩
def tabS : List (List UInt8) := [[38, 97, 109, 112, 59], [38], [38, 108, 116, 59], [60], [38, 103, 116, 59], [62], [38, 113, 117, 111, 116, 59], [34], [38, 97, 112, 111, 115, 59], [39], [38, 110, 98, 115, 112, 59], [194, 160], [38, 99, 111, 112, 121, 59], [194, 169], [38, 104, 101, 108, 108, 105, 112, 59], [226, 128, 166], [38, 109, 100, 97, 115, 104, 59], [226, 128, 148]]
theorem tab_key : ∀ j, j < 9 → tabS.getD (2 * j) [] = wrapN (namesR.getD j ([], [])).1 ∧ tabS.getD (2 * j + 1) [] = (namesR.getD j ([], [])).2 ∧ (tabS.getD (2 * j) []).length = (namesR.getD j ([], [])).1.length + 2 ∧ (tabS.getD (2 * j) []).length ≤ 10 := by decide
theorem namedL_step (l : List UInt8) (j : Nat) (hj : j < 9) : namedL l (namesR.drop j) = if begins l (wrapN (namesR.getD j ([], [])).1) = true then ((namesR.getD j ([], [])).2, (namesR.getD j ([], [])).1.length + 2) else namedL l (namesR.drop (j + 1)) := by
  have hl : j < namesR.length := hj
  rw [List.drop_eq_getElem_cons hl]
  simp only [namedL, List.getD, List.getElem?_eq_getElem hl, Option.getD_some]

set_option maxHeartbeats 4000000 in
theorem pnamed_any (s : ByteArray) (l : List UInt8) (h : s.data.toList = l) (hl : l.length ≤ 100000) (w : World) :
    Calls Tryd.prog 25 #[.string s] w fun e w' => e = .returned (atT (namedR l)) ∧ Step (fun _ => False) w w' := by
  have HC := hidden (fun (k : Nat) (hk : k < 18) => (show (w.alloc (.cells #[.string ⟨#[38, 97, 109, 112, 59]⟩, .string ⟨#[38]⟩, .string ⟨#[38, 108, 116, 59]⟩, .string ⟨#[60]⟩, .string ⟨#[38, 103, 116, 59]⟩, .string ⟨#[62]⟩, .string ⟨#[38, 113, 117, 111, 116, 59]⟩, .string ⟨#[34]⟩, .string ⟨#[38, 97, 112, 111, 115, 59]⟩, .string ⟨#[39]⟩, .string ⟨#[38, 110, 98, 115, 112, 59]⟩, .string ⟨#[194, 160]⟩, .string ⟨#[38, 99, 111, 112, 121, 59]⟩, .string ⟨#[194, 169]⟩, .string ⟨#[38, 104, 101, 108, 108, 105, 112, 59]⟩, .string ⟨#[226, 128, 166]⟩, .string ⟨#[38, 109, 100, 97, 115, 104, 59]⟩, .string ⟨#[226, 128, 148]⟩] 9)).cell? ⟨w.heap.size, k, none⟩ = some (str (tabS.getD k [])) by
    rw [World.cell?_alloc_mark]
    have : k = 0 ∨ k = 1 ∨ k = 2 ∨ k = 3 ∨ k = 4 ∨ k = 5 ∨ k = 6 ∨ k = 7 ∨ k = 8 ∨ k = 9 ∨ k = 10 ∨ k = 11 ∨ k = 12 ∨ k = 13 ∨ k = 14 ∨ k = 15 ∨ k = 16 ∨ k = 17 := by omega
    rcases this with rfl | rfl | rfl | rfl | rfl | rfl | rfl | rfl | rfl | rfl | rfl | rfl | rfl | rfl | rfl | rfl | rfl | rfl <;> rfl))
  have HS := hidden ((Step.refl (fun _ => False) w).alloc (.cells #[.string ⟨#[38, 97, 109, 112, 59]⟩, .string ⟨#[38]⟩, .string ⟨#[38, 108, 116, 59]⟩, .string ⟨#[60]⟩, .string ⟨#[38, 103, 116, 59]⟩, .string ⟨#[62]⟩, .string ⟨#[38, 113, 117, 111, 116, 59]⟩, .string ⟨#[34]⟩, .string ⟨#[38, 97, 112, 111, 115, 59]⟩, .string ⟨#[39]⟩, .string ⟨#[38, 110, 98, 115, 112, 59]⟩, .string ⟨#[194, 160]⟩, .string ⟨#[38, 99, 111, 112, 121, 59]⟩, .string ⟨#[194, 169]⟩, .string ⟨#[38, 104, 101, 108, 108, 105, 112, 59]⟩, .string ⟨#[226, 128, 166]⟩, .string ⟨#[38, 109, 100, 97, 115, 104, 59]⟩, .string ⟨#[226, 128, 148]⟩] 9))
  have HB := hidden (fun (p : ByteArray) (k : List UInt8) (hk : p.data.toList = k) (hkl : k.length ≤ 100000) wx => begins_any s p l k h hk hl hkl wx)
  have HN := hidden (show namedR l = namedL l (namesR.drop 0) from rfl)
  clear h hl
  go_enter Tryd.func25, Tryd.ntmps25
  go_wp2
  generalize w.alloc (.cells #[.string ⟨#[38, 97, 109, 112, 59]⟩, .string ⟨#[38]⟩, .string ⟨#[38, 108, 116, 59]⟩, .string ⟨#[60]⟩, .string ⟨#[38, 103, 116, 59]⟩, .string ⟨#[62]⟩, .string ⟨#[38, 113, 117, 111, 116, 59]⟩, .string ⟨#[34]⟩, .string ⟨#[38, 97, 112, 111, 115, 59]⟩, .string ⟨#[39]⟩, .string ⟨#[38, 110, 98, 115, 112, 59]⟩, .string ⟨#[194, 160]⟩, .string ⟨#[38, 99, 111, 112, 121, 59]⟩, .string ⟨#[194, 169]⟩, .string ⟨#[38, 104, 101, 108, 108, 105, 112, 59]⟩, .string ⟨#[226, 128, 166]⟩, .string ⟨#[38, 109, 100, 97, 115, 104, 59]⟩, .string ⟨#[226, 128, 148]⟩] 9) = W0 at *
  go_loopw [5] (fun iv wr => ∃ j : Nat, j ≤ 9 ∧ iv = .int .i64 ((2 * j : Nat) : Int) ∧ (∃ q, wr = W0.drewN q) ∧ Hid (namedR l = namedL l (namesR.drop j))) (fun iv _ => 20 - (RowKit.intOf iv).toNat)
  case atStart => exact ⟨0, by omega, rfl, ⟨0, rfl⟩, HN.out⟩
  case round =>
    obtain ⟨j, hj9, rfl, ⟨q, rfl⟩, HJ⟩ := hrel
    by_cases hj : j < 9
    · have hc0 := HC.out (2 * j) (by omega)
      have hc1 := HC.out (2 * j + 1) (by omega)
      obtain ⟨t1, t2, t3, t4⟩ := tab_key j hj
      have hst := namedL_step l j hj
      rw [← t1, ← t2, ← t3] at hst
      generalize tabS.getD (2 * j) [] = a at *
      generalize tabS.getD (2 * j + 1) [] = b at *
      obtain ⟨p, hp⟩ : ∃ p : ByteArray, p = ⟨a.toArray⟩ := ⟨_, rfl⟩
      have hBg := HB.out p a (by rw [hp]) (by omega) (W0.drewN q)
      have hps : p.size = a.length := by rw [hp]; exact ba_size a
      unfold str at hc0
      rw [← hp] at hc0
      have i0 : (0 : Int) ≤ ((2 * j : Nat) : Int) := by omega
      have i1 : ((2 * j : Nat) : Int) < 18 := by omega
      have i2 : ((2 * j : Nat) : Int) + 1 < 18 := by omega
      have iw : IntKind.i64.wrap (((2 * j : Nat) : Int) + 1) = ((2 * j + 1 : Nat) : Int) := by simp [IntKind.wrap, IntKind.bits, IntKind.signed]; omega
      have iw2 : IntKind.i64.wrap (((2 * j : Nat) : Int) + 2) = ((2 * (j + 1) : Nat) : Int) := by simp [IntKind.wrap, IntKind.bits, IntKind.signed]; omega
      have Hj := hidden hj
      obtain ⟨m, hm⟩ : ∃ m, m = 2 * j := ⟨_, rfl⟩
      obtain ⟨m1, hm1⟩ : ∃ m, m = 2 * j + 1 := ⟨_, rfl⟩
      have i3 : ((m1 : Nat) : Int) < 18 := by omega
      have i4 : (0 : Int) ≤ ((m1 : Nat) : Int) := by omega
      rw [← hm1] at iw hc1
      rw [← hm] at i0 i1 i2 iw iw2 hc0 ⊢
      have Hm := hidden hm
      cases hb : begins l a with
      | true =>
        have HR := hidden (show namedR l = (b, a.length) by rw [HJ.out, hst, if_pos hb])
        rw [hb] at hBg
        have HBg := hidden hBg
        have Hps := hidden hps
        clear hBg hst t1 t2 t3 hj hj9 hb hp hm hm1 iw2 hps t4
        unfold str at hc1
        go_wp2_with fail
        refine Calls.mono HBg.out ?_
        rintro e w' ⟨rfl, rfl⟩
        go_wp2
        go_quiet (fail)
        go_wp2
        go_ret2
        exact ⟨by rw [HR.out]; simp [atT, Hps.out], HS.out.made (by rw [World.drewN_drewN]; exact step_drew _ _)⟩
      | false =>
        have HR := hidden (show namedR l = namedL l (namesR.drop (j + 1)) by rw [HJ.out, hst, if_neg (by rw [hb]; simp)])
        rw [hb] at hBg
        have HBg := hidden hBg
        clear hBg hst t1 t2 t3 hj hj9 hb hp hm hm1 hc1 iw i2 hps t4
        go_wp2_with fail
        refine Calls.mono HBg.out ?_
        rintro e w' ⟨rfl, rfl⟩
        go_wp2
        go_roundw
        case rel => exact ⟨j + 1, by have := Hj.out; omega, by first | rfl | (simp), ⟨_, rfl⟩, HR.out⟩
        case measure => simp [RowKit.intOf]; have := Hj.out; have := Hm.out; omega
    · have hje : j = 9 := by omega
      subst hje
      have HR := hidden (show namedR l = ([], 0) by rw [HJ.out]; rfl)
      go_wp2
      go_ret2
      exact ⟨by rw [HR.out]; rfl, HS.out.made (step_drew _ _)⟩

end Go.Proofs.YtmegfcgnemfjnaaDoor
