/-
  A number by its digits: the library's ParseUint, at texts of few bytes.
-/
import Derived.Test.YtmegfcgnemfjnabDoorEPieces
import Derived.Test.YtmegfcgnemfjnabDoorUBytes
import Derived.Lib.Strings
import Derived.Laws.Strings3
import Derived.Laws.Closers25
import Derived.Laws.Closers25b
namespace Go.Proofs.YtmegfcgnemfjnabDoor
open Go.RowKit Go.Lib

def puT (base : Nat) (l : List UInt8) : Value := if l ≠ [] ∧ l.all (isD base) = true then .tuple #[.int .u64 ((numv base l : Nat) : Int), .nilIface] else .tuple #[.int .u64 0, .iface 59 (.int .i64 2)]

set_option maxRecDepth 100000 in
theorem lowG : ∀ X : Fin 256, ∃ m : Fin 256, bits .or .u8 ((X.val : Nat) : Int) 32 = ((m.val : Nat) : Int) ∧ (¬ (48 ≤ X.val ∧ X.val ≤ 57) → dv X.val = if 97 ≤ m.val ∧ m.val ≤ 102 then m.val - 87 else 99) ∧ (X.val = 95 → m.val = 127) := fun X => ⟨⟨(bits .or .u8 ((X.val : Nat) : Int) 32).toNat % 256, Nat.mod_lt _ (by omega)⟩, (by revert X; decide +kernel)⟩
theorem lowF (x : Nat) (h : x < 256) : ∃ m : Nat, bits .or .u8 (x : Int) 32 = (m : Int) ∧ m < 256 ∧ (¬ (48 ≤ x ∧ x ≤ 57) → dv x = if 97 ≤ m ∧ m ≤ 102 then m - 87 else 99) ∧ (x = 95 → m = 127) := by
  obtain ⟨m, h1, h2, h3⟩ := lowG ⟨x, h⟩
  exact ⟨m.val, h1, m.isLt, h2, h3⟩

set_option maxHeartbeats 4000000 in
set_option maxRecDepth 100000 in
/-- A number of base 10, of few digits. -/
theorem parse10_any (l : List UInt8) (hl : l.length ≤ 7) (w : World) :
    Calls Tryd.prog 40 #[str l, .int .i64 10, .int .i64 31] w fun e w' => e = .returned (puT 10 l) ∧ Step (fun _ => False) w w' := by
  by_cases h0 : l = []
  · subst h0
    have HS := hidden (Step.refl (fun _ => False) w)
    go_enter Tryd.func40, Tryd.ntmps40
    go_wp2
    go_ret2
    exact ⟨by unfold puT; rw [if_neg (by simp)]; rfl, HS.out⟩
  have hemp : (⟨l.toArray⟩ : ByteArray).toList.isEmpty = false := by
    rw [← decide_eq_emptyBytes]
    exact decide_eq_false (fun h => h0 (by have := congrArg (fun b => b.data.toList) h; simpa using this))
  have hcv := run_bytes w l
  have HS := hidden (bytes_step w ⟨l.toArray⟩)
  have hB : ∀ j (hj : j < l.length), (Lib.bytesWorld w 5 ⟨l.toArray⟩).cell? ⟨w.heap.size, j, none⟩ = some (.int .u8 ((l[j]'hj).toNat : Int)) := fun j hj => by
    rw [Lib.bytesWorld_cell w 5 ⟨l.toArray⟩ j (by rw [ba_size]; exact hj)]
    simp [List.getD, hj]
  obtain ⟨W1, hW1⟩ : ∃ W1, W1 = Lib.bytesWorld w 5 ⟨l.toArray⟩ := ⟨_, rfl⟩
  rw [← hW1] at hcv hB HS
  clear hW1
  have HB := hidden hB
  have H0 := hidden h0
  obtain ⟨n, hn⟩ : ∃ n, n = l.length := ⟨_, rfl⟩
  rw [← hn] at hcv
  have Hn := hidden hn
  have hnM : n ≤ 7 := by omega
  have hmv : IntKind.u64.wrap (IntKind.u64.wrap 2147483648 - 1) = 2147483647 := by
    rw [IntKind.wrap_u64, IntKind.wrap_u64]
    decide
  clear hB h0 hn hl
  unfold str at hcv ⊢
  generalize (⟨l.toArray⟩ : ByteArray) = s at *
  go_enter Tryd.func40, Tryd.ntmps40
  go_wp2
  go_loopw [12, 13, 101] (fun vu vn vi wr => wr = W1 ∧ ∃ (k acc : Nat) (a : Int), vu = .bool false ∧ vn = .int .u64 a ∧ vi = .int .i64 (k : Int) ∧ k ≤ n ∧ 0 ≤ a ∧ a ≤ 9999999 ∧ Hid (a = (acc : Int)) ∧ Hid (acc = numv 10 (l.take k) ∧ (l.take k).all (isD 10) = true)) (fun _ _ vi _ => n - (RowKit.intOf vi).toNat)
  case atStart => exact ⟨rfl, 0, 0, 0, rfl, rfl, rfl, by omega, by omega, by omega, rfl, by simp [numv], by simp⟩
  case round =>
    obtain ⟨rfl, k, acc, a, rfl, rfl, rfl, hk, ha0, ha1, HA, HH⟩ := hrel
    by_cases hkn : k < n
    · have hkl : k < l.length := by have := Hn.out; omega
      have hc := HB.out k hkl
      have htk : l.take (k + 1) = l.take k ++ [l[k]'hkl] := List.take_succ_eq_append_getElem hkl
      have hmem : l[k]'hkl ∈ l := List.getElem_mem _
      generalize l[k]'hkl = c at hc htk hmem
      have Hmem := hidden hmem
      have hc256 : c.toNat < 256 := c.toNat_lt
      have ck0 : (0 : Int) ≤ (k : Int) := by omega
      have ck1 : (k : Int) < (n : Int) := by omega
      have HG := hidden (fun (d : Nat) (hd : dv c.toNat = d) (h : d < 10) => (show a * 10 + (d : Int) ≤ 9999999 ∧ a * 10 + (d : Int) = ((acc * 10 + d : Nat) : Int) ∧ (acc * 10 + d = numv 10 (l.take (k + 1)) ∧ (l.take (k + 1)).all (isD 10) = true) by
        have ha : (l.take (k + 1)).all (isD 10) = true := by
          rw [htk, List.all_append, HH.out.2]
          simp [isD, hd, h]
        have he : acc * 10 + d = numv 10 (l.take (k + 1)) := by rw [htk, numv_snoc, ← HH.out.1, hd]
        have haa := HA.out
        refine ⟨?_, by rw [haa]; push_cast; rfl, he, ha⟩
        have hlt := numv_lt 10 _ ha
        rw [← he] at hlt
        have hp : 10 ^ (l.take (k + 1)).length ≤ 10 ^ 7 := Nat.pow_le_pow_right (by omega) (by rw [List.length_take]; have := Hn.out; omega)
        have : (10 : Nat) ^ 7 = 9999999 + 1 := by decide
        omega))
      have HE := hidden (fun (h : ¬ dv c.toNat < 10) => (show puT 10 l = .tuple #[.int .u64 0, .iface 59 (.int .i64 2)] by
        unfold puT
        rw [if_neg]
        rintro ⟨_, ha⟩
        have := List.all_eq_true.1 ha c Hmem.out
        simp [isD] at this
        exact h this))
      have hlo := lowF c.toNat hc256
      clear htk hmem
      by_cases hdig : 48 ≤ c.toNat ∧ c.toNat ≤ 57
      · obtain ⟨hd0, hd1⟩ := hdig
        have HJ := hidden (HG.out (c.toNat - 48) (by unfold dv; rw [if_pos ⟨hd0, hd1⟩]) (by omega))
        have hb := HJ.out.1
        have z0 : (48 : Int) ≤ (c.toNat : Int) := by omega
        have z1 : (c.toNat : Int) ≤ 57 := by omega
        obtain ⟨d, hd⟩ : ∃ d, d = c.toNat - 48 := ⟨_, rfl⟩
        rw [← hd] at HJ hb
        have hs : IntKind.u8.wrap ((c.toNat : Int) - 48) = (d : Int) := by simp [IntKind.wrap, IntKind.bits, IntKind.signed]; omega
        have hdb : d < 10 := by omega
        have g95 : ((c.toNat : Int) == 95) = false := by rw [beq_eq_false_iff_ne]; omega
        clear hd hd0 hd1 hlo
        generalize c.toNat = cn at *
        go_wp2
        go_roundw
        case rel => exact ⟨trivial, k + 1, acc * 10 + d, a * 10 + (d : Int), rfl, by go_num, by go_num, by omega, by omega, hb, HJ.out.2.1, HJ.out.2.2⟩
        case measure => simp [RowKit.intOf]; omega
      · have HF := hidden (HE.out (by unfold dv; rw [if_neg hdig]; split <;> (try split) <;> omega))
        have g95 : ((c.toNat : Int) == 95) = decide (c.toNat = 95) := by rw [Bool.eq_iff_iff]; simp; omega
        have hdg : ¬ ((48 : Int) ≤ (c.toNat : Int)) ∨ ((48 : Int) ≤ (c.toNat : Int) ∧ ¬ ((c.toNat : Int) ≤ 57)) := by omega
        obtain ⟨m, hm, hmb, hlet⟩ := hlo
        have hw : 97 ≤ m → m ≤ 122 → IntKind.u8.wrap (IntKind.u8.wrap ((m : Int) - 97) + 10) = ((m - 87 : Nat) : Int) := fun h1 h2 => by simp [IntKind.wrap, IntKind.bits, IntKind.signed]; omega
        have h95 : c.toNat = 95 → m = 127 := hlet.2
        generalize c.toNat = cn at *
        by_cases l1 : 97 ≤ m
        · have l1' : (97 : Int) ≤ (m : Int) := by omega
          by_cases l2 : m ≤ 122
          · have l2' : (m : Int) ≤ 122 := by omega
            have hw2 := hw l1 l2
            have hge : ¬ (((m - 87 : Nat) : Int) < 10) := by omega
            have g96 : decide (cn = 95) = false := by rw [decide_eq_false_iff_not]; intro h; have := h95 h; omega
            rw [g96] at g95
            obtain ⟨q, hq⟩ : ∃ q, q = m - 87 := ⟨_, rfl⟩
            rw [← hq] at hw2 hge
            clear hw h95 hlet
            rcases hdg with x0 | ⟨x0, x1⟩ <;> (go_wp2; go_ret2; exact ⟨by rw [HF.out]; rfl, HS.out⟩)
          · have l2' : ¬ ((m : Int) ≤ 122) := by omega
            clear hw h95 hlet
            by_cases e95 : cn = 95
            · subst e95
              go_wp2
              go_ret2
              exact ⟨by rw [HF.out]; rfl, HS.out⟩
            · rw [decide_eq_false e95] at g95
              rcases hdg with x0 | ⟨x0, x1⟩ <;> (go_wp2; go_ret2; exact ⟨by rw [HF.out]; rfl, HS.out⟩)
        · have l1' : ¬ ((97 : Int) ≤ (m : Int)) := by omega
          have g96 : decide (cn = 95) = false := by rw [decide_eq_false_iff_not]; intro h; have := h95 h; omega
          rw [g96] at g95
          clear hw h95 hlet
          rcases hdg with x0 | ⟨x0, x1⟩ <;> (go_wp2; go_ret2; exact ⟨by rw [HF.out]; rfl, HS.out⟩)
    · have hkk : k = n := by omega
      subst hkk
      have HF := hidden (show puT 10 l = .tuple #[.int .u64 a, .nilIface] by
        have h := HH.out
        rw [List.take_of_length_le (by have := Hn.out; omega)] at h
        unfold puT
        rw [if_pos ⟨H0.out, h.2⟩, HA.out, h.1])
      go_wp2
      go_ret2
      exact ⟨by rw [HF.out]; rfl, HS.out⟩

set_option maxHeartbeats 4000000 in
set_option maxRecDepth 100000 in
/-- A number of base 16, of few digits. -/
theorem parse16_any (l : List UInt8) (hl : l.length ≤ 6) (w : World) :
    Calls Tryd.prog 40 #[str l, .int .i64 16, .int .i64 31] w fun e w' => e = .returned (puT 16 l) ∧ Step (fun _ => False) w w' := by
  by_cases h0 : l = []
  · subst h0
    have HS := hidden (Step.refl (fun _ => False) w)
    go_enter Tryd.func40, Tryd.ntmps40
    go_wp2
    go_ret2
    exact ⟨by unfold puT; rw [if_neg (by simp)]; rfl, HS.out⟩
  have hemp : (⟨l.toArray⟩ : ByteArray).toList.isEmpty = false := by
    rw [← decide_eq_emptyBytes]
    exact decide_eq_false (fun h => h0 (by have := congrArg (fun b => b.data.toList) h; simpa using this))
  have hcv := run_bytes w l
  have HS := hidden (bytes_step w ⟨l.toArray⟩)
  have hB : ∀ j (hj : j < l.length), (Lib.bytesWorld w 5 ⟨l.toArray⟩).cell? ⟨w.heap.size, j, none⟩ = some (.int .u8 ((l[j]'hj).toNat : Int)) := fun j hj => by
    rw [Lib.bytesWorld_cell w 5 ⟨l.toArray⟩ j (by rw [ba_size]; exact hj)]
    simp [List.getD, hj]
  obtain ⟨W1, hW1⟩ : ∃ W1, W1 = Lib.bytesWorld w 5 ⟨l.toArray⟩ := ⟨_, rfl⟩
  rw [← hW1] at hcv hB HS
  clear hW1
  have HB := hidden hB
  have H0 := hidden h0
  obtain ⟨n, hn⟩ : ∃ n, n = l.length := ⟨_, rfl⟩
  rw [← hn] at hcv
  have Hn := hidden hn
  have hnM : n ≤ 6 := by omega
  have hmv : IntKind.u64.wrap (IntKind.u64.wrap 2147483648 - 1) = 2147483647 := by
    rw [IntKind.wrap_u64, IntKind.wrap_u64]
    decide
  clear hB h0 hn hl
  unfold str at hcv ⊢
  generalize (⟨l.toArray⟩ : ByteArray) = s at *
  go_enter Tryd.func40, Tryd.ntmps40
  go_wp2
  go_loopw [12, 13, 101] (fun vu vn vi wr => wr = W1 ∧ ∃ (k acc : Nat) (a : Int), vu = .bool false ∧ vn = .int .u64 a ∧ vi = .int .i64 (k : Int) ∧ k ≤ n ∧ 0 ≤ a ∧ a ≤ 16777215 ∧ Hid (a = (acc : Int)) ∧ Hid (acc = numv 16 (l.take k) ∧ (l.take k).all (isD 16) = true)) (fun _ _ vi _ => n - (RowKit.intOf vi).toNat)
  case atStart => exact ⟨rfl, 0, 0, 0, rfl, rfl, rfl, by omega, by omega, by omega, rfl, by simp [numv], by simp⟩
  case round =>
    obtain ⟨rfl, k, acc, a, rfl, rfl, rfl, hk, ha0, ha1, HA, HH⟩ := hrel
    by_cases hkn : k < n
    · have hkl : k < l.length := by have := Hn.out; omega
      have hc := HB.out k hkl
      have htk : l.take (k + 1) = l.take k ++ [l[k]'hkl] := List.take_succ_eq_append_getElem hkl
      have hmem : l[k]'hkl ∈ l := List.getElem_mem _
      generalize l[k]'hkl = c at hc htk hmem
      have Hmem := hidden hmem
      have hc256 : c.toNat < 256 := c.toNat_lt
      have ck0 : (0 : Int) ≤ (k : Int) := by omega
      have ck1 : (k : Int) < (n : Int) := by omega
      have HG := hidden (fun (d : Nat) (hd : dv c.toNat = d) (h : d < 16) => (show a * 16 + (d : Int) ≤ 16777215 ∧ a * 16 + (d : Int) = ((acc * 16 + d : Nat) : Int) ∧ (acc * 16 + d = numv 16 (l.take (k + 1)) ∧ (l.take (k + 1)).all (isD 16) = true) by
        have ha : (l.take (k + 1)).all (isD 16) = true := by
          rw [htk, List.all_append, HH.out.2]
          simp [isD, hd, h]
        have he : acc * 16 + d = numv 16 (l.take (k + 1)) := by rw [htk, numv_snoc, ← HH.out.1, hd]
        have haa := HA.out
        refine ⟨?_, by rw [haa]; push_cast; rfl, he, ha⟩
        have hlt := numv_lt 16 _ ha
        rw [← he] at hlt
        have hp : 16 ^ (l.take (k + 1)).length ≤ 16 ^ 6 := Nat.pow_le_pow_right (by omega) (by rw [List.length_take]; have := Hn.out; omega)
        have : (16 : Nat) ^ 6 = 16777215 + 1 := by decide
        omega))
      have HE := hidden (fun (h : ¬ dv c.toNat < 16) => (show puT 16 l = .tuple #[.int .u64 0, .iface 59 (.int .i64 2)] by
        unfold puT
        rw [if_neg]
        rintro ⟨_, ha⟩
        have := List.all_eq_true.1 ha c Hmem.out
        simp [isD] at this
        exact h this))
      have hlo := lowF c.toNat hc256
      clear htk hmem
      by_cases hdig : 48 ≤ c.toNat ∧ c.toNat ≤ 57
      · obtain ⟨hd0, hd1⟩ := hdig
        have HJ := hidden (HG.out (c.toNat - 48) (by unfold dv; rw [if_pos ⟨hd0, hd1⟩]) (by omega))
        have hb := HJ.out.1
        have z0 : (48 : Int) ≤ (c.toNat : Int) := by omega
        have z1 : (c.toNat : Int) ≤ 57 := by omega
        obtain ⟨d, hd⟩ : ∃ d, d = c.toNat - 48 := ⟨_, rfl⟩
        rw [← hd] at HJ hb
        have hs : IntKind.u8.wrap ((c.toNat : Int) - 48) = (d : Int) := by simp [IntKind.wrap, IntKind.bits, IntKind.signed]; omega
        have hdb : d < 10 := by omega
        have g95 : ((c.toNat : Int) == 95) = false := by rw [beq_eq_false_iff_ne]; omega
        clear hd hd0 hd1 hlo
        generalize c.toNat = cn at *
        go_wp2
        go_roundw
        case rel => exact ⟨trivial, k + 1, acc * 16 + d, a * 16 + (d : Int), rfl, by go_num, by go_num, by omega, by omega, hb, HJ.out.2.1, HJ.out.2.2⟩
        case measure => simp [RowKit.intOf]; omega
      · have g95 : ((c.toNat : Int) == 95) = decide (c.toNat = 95) := by rw [Bool.eq_iff_iff]; simp; omega
        have hdg : ¬ ((48 : Int) ≤ (c.toNat : Int)) ∨ ((48 : Int) ≤ (c.toNat : Int) ∧ ¬ ((c.toNat : Int) ≤ 57)) := by omega
        obtain ⟨m, hm, hmb, hlet⟩ := hlo
        have hw : 97 ≤ m → m ≤ 122 → IntKind.u8.wrap (IntKind.u8.wrap ((m : Int) - 97) + 10) = ((m - 87 : Nat) : Int) := fun h1 h2 => by simp [IntKind.wrap, IntKind.bits, IntKind.signed]; omega
        have h95 : c.toNat = 95 → m = 127 := hlet.2
        have hdv := hlet.1 hdig
        by_cases l1 : 97 ≤ m
        · have l1' : (97 : Int) ≤ (m : Int) := by omega
          by_cases l2 : m ≤ 122
          · have l2' : (m : Int) ≤ 122 := by omega
            have hw2 := hw l1 l2
            have g96 : decide (c.toNat = 95) = false := by rw [decide_eq_false_iff_not]; intro h; have := h95 h; omega
            rw [g96] at g95
            by_cases l3 : m ≤ 102
            · have hdv2 : dv c.toNat = m - 87 := by rw [hdv, if_pos ⟨l1, l3⟩]
              have HJ := hidden (HG.out (m - 87) hdv2 (by omega))
              have hb := HJ.out.1
              have hge : ((m - 87 : Nat) : Int) < 16 := by omega
              obtain ⟨q, hq⟩ : ∃ q, q = m - 87 := ⟨_, rfl⟩
              rw [← hq] at hw2 hge HJ hb
              have hqb : q < 16 := by omega
              clear hw h95 hlet hdv hdv2
              generalize c.toNat = cn at *
              rcases hdg with x0 | ⟨x0, x1⟩
              · go_wp2
                go_roundw
                case rel => exact ⟨trivial, k + 1, acc * 16 + q, a * 16 + (q : Int), rfl, by go_num, by go_num, by omega, by omega, hb, HJ.out.2.1, HJ.out.2.2⟩
                case measure => simp [RowKit.intOf]; omega
              · go_wp2
                go_roundw
                case rel => exact ⟨trivial, k + 1, acc * 16 + q, a * 16 + (q : Int), rfl, by go_num, by go_num, by omega, by omega, hb, HJ.out.2.1, HJ.out.2.2⟩
                case measure => simp [RowKit.intOf]; omega
            · have HF := hidden (HE.out (by rw [hdv, if_neg (by omega)]; omega))
              have hge : ¬ (((m - 87 : Nat) : Int) < 16) := by omega
              obtain ⟨q, hq⟩ : ∃ q, q = m - 87 := ⟨_, rfl⟩
              rw [← hq] at hw2 hge
              clear hw h95 hlet hdv
              generalize c.toNat = cn at *
              rcases hdg with x0 | ⟨x0, x1⟩ <;> (go_wp2; go_ret2; exact ⟨by rw [HF.out]; rfl, HS.out⟩)
          · have l2' : ¬ ((m : Int) ≤ 122) := by omega
            have HF := hidden (HE.out (by rw [hdv, if_neg (by omega)]; omega))
            clear hw h95 hlet hdv
            generalize c.toNat = cn at *
            by_cases e95 : cn = 95
            · subst e95
              go_wp2
              go_ret2
              exact ⟨by rw [HF.out]; rfl, HS.out⟩
            · rw [decide_eq_false e95] at g95
              rcases hdg with x0 | ⟨x0, x1⟩ <;> (go_wp2; go_ret2; exact ⟨by rw [HF.out]; rfl, HS.out⟩)
        · have l1' : ¬ ((97 : Int) ≤ (m : Int)) := by omega
          have g96 : decide (c.toNat = 95) = false := by rw [decide_eq_false_iff_not]; intro h; have := h95 h; omega
          have HF := hidden (HE.out (by rw [hdv, if_neg (by omega)]; omega))
          rw [g96] at g95
          clear hw h95 hlet hdv
          generalize c.toNat = cn at *
          rcases hdg with x0 | ⟨x0, x1⟩ <;> (go_wp2; go_ret2; exact ⟨by rw [HF.out]; rfl, HS.out⟩)
    · have hkk : k = n := by omega
      subst hkk
      have HF := hidden (show puT 16 l = .tuple #[.int .u64 a, .nilIface] by
        have h := HH.out
        rw [List.take_of_length_le (by have := Hn.out; omega)] at h
        unfold puT
        rw [if_pos ⟨H0.out, h.2⟩, HA.out, h.1])
      go_wp2
      go_ret2
      exact ⟨by rw [HF.out]; rfl, HS.out⟩

end Go.Proofs.YtmegfcgnemfjnabDoor
