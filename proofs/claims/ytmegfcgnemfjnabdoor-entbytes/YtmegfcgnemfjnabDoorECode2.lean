/-
  What is spelt at the beginning of a text: the code's way, whole.
-/
import Derived.Test.YtmegfcgnemfjnabDoorECode1
namespace Go.Proofs.YtmegfcgnemfjnabDoor
open Go.RowKit Go.Lib

theorem numv_bound10 (l : List UInt8) (hl : l.length ≤ 7) (h : l.all (isD 10) = true) : numv 10 l ≤ 16777215 := by
  have h1 := numv_lt 10 l h
  have h2 : 10 ^ l.length ≤ 10 ^ 7 := Nat.pow_le_pow_right (by omega) hl
  have : (10 : Nat) ^ 7 = 10000000 := by decide
  omega
theorem numv_bound16 (l : List UInt8) (hl : l.length ≤ 6) (h : l.all (isD 16) = true) : numv 16 l ≤ 16777215 := by
  have h1 := numv_lt 16 l h
  have h2 : 16 ^ l.length ≤ 16 ^ 6 := Nat.pow_le_pow_right (by omega) hl
  have : (16 : Nat) ^ 6 = 16777216 := by decide
  omega
theorem numC_x {c : UInt8} {t : List UInt8} (h : c.toNat = 120 ∨ c.toNat = 88) : numC (c :: t) = parseC 16 t := if_pos h
theorem numC_d {c : UInt8} {t : List UInt8} (h : ¬ (c.toNat = 120 ∨ c.toNat = 88)) : numC (c :: t) = parseC 10 (c :: t) := if_neg h
theorem spC_hash {c : UInt8} {t : List UInt8} (h : c.toNat = 35) : spC (c :: t) = numC t := if_pos h
theorem spC_name {c : UInt8} {t : List UInt8} (h : ¬ c.toNat = 35) : spC (c :: t) = nameC (c :: t) := if_neg h
theorem ext_tail {s : ByteArray} {c : UInt8} {t : List UInt8} (h : s.data.toList = c :: t) : (s.extract 1 s.size).data.toList = t := by
  have := ext_drop s (c :: t) h 1
  simpa using this
theorem first_byte {s : ByteArray} {c : UInt8} {t : List UInt8} (h : s.data.toList = c :: t) (hp : 0 < s.size) : (s[0]'hp).toNat = c.toNat := by
  rw [getD_at s (c :: t) h 0 hp]; rfl
theorem empty_false {s : ByteArray} {c : UInt8} {t : List UInt8} (h : s.data.toList = c :: t) : s.toList.isEmpty = false := by
  rw [ByteArray.toList_eq, h]; rfl

set_option maxHeartbeats 4000000 in
theorem numbered_any (s : ByteArray) (l : List UInt8) (h : s.data.toList = l) (hl : l.length ≤ 7) (w : World) (T : EW w) :
    Calls Tryd.prog 34 #[.string s] w fun e w' => e = .returned (spT (numC l)) ∧ Step (fun _ => False) w w' := by
  cases l with
  | nil =>
    have he : s.toList.isEmpty = true := by rw [ByteArray.toList_eq, h]; rfl
    have ho : ¬ (([] : List UInt8) ≠ [] ∧ ([] : List UInt8).all (isD 10) = true) := by simp
    have HP := hidden (num10_no s [] h (by simp) ho w T)
    clear h hl T ho
    go_enter Tryd.func34, Tryd.ntmps34
    go_wp2_with (go_at_call 37; refine HP.out.mono ?_)
    rintro e w2 ⟨N, rfl, S⟩
    go_wp2
    go_ret2
    exact ⟨rfl, S⟩
  | cons c t =>
    obtain ⟨l, hll⟩ : ∃ l, l = c :: t := ⟨_, rfl⟩
    rw [← hll]
    have he := empty_false h
    have hsz : s.size = (c :: t).length := by rw [← h]; rfl
    have hp0 : 0 < s.size := by rw [hsz]; simp
    have hpz : (0 : Int) < (s.size : Int) := by omega
    have hp1 : (1 : Int) ≤ (s.size : Int) := by omega
    have c0 := first_byte h hp0
    have hsb : s.size ≤ 100000 := by rw [hsz]; omega
    by_cases hx : c.toNat = 120 ∨ c.toNat = 88
    · have h2 := ext_tail h
      simp only [List.length_cons] at hl
      rcases hx with hx | hx
      · rw [hx] at c0
        have hx2 : c.toNat = 120 ∨ c.toNat = 88 := .inl hx
        by_cases ho : t ≠ [] ∧ t.all (isD 16) = true
        · have HP := hidden (num16_ok (s.extract 1 s.size) t h2 (by omega) ho w)
          have HA := hidden (show numC l = some (fixr (numv 16 t)) by rw [hll, numC_x hx2]; unfold parseC; rw [if_pos ho])
          have hv := numv_bound16 t (by omega) ho.2
          generalize numv 16 t = v at *
          have hw : IntKind.i32.wrap (v : Int) = (v : Int) := by simp [IntKind.wrap, IntKind.bits, IntKind.signed]; omega
          by_cases v0 : v = 0
          · subst v0
            clear h hl T ho h2 hll hx2 hx hsz
            go_enter Tryd.func34, Tryd.ntmps34
            go_wp2_with (go_at_call 37; refine HP.out.mono ?_)
            rintro e w2 ⟨rfl, S⟩
            go_wp2
            go_ret2
            exact ⟨by rw [HA.out]; rfl, S⟩
          · have gv : ((v : Int) == 0) = false := by rw [beq_eq_false_iff_ne]; omega
            have HV := hidden (fun wx => validRune_any v hv wx)
            by_cases hd : v ≤ 1114111 ∧ ¬ (55296 ≤ v ∧ v ≤ 57343)
            · rw [decide_eq_true hd] at HV
              have hf : fixr v = v := by unfold fixr; rw [if_neg (by omega)]
              rw [hf] at HA
              clear h hl T ho h2 hll hx2 hx hsz hd hf hv
              go_enter Tryd.func34, Tryd.ntmps34
              go_wp2_with (go_at_call 37; refine HP.out.mono ?_)
              rintro e w2 ⟨rfl, S⟩
              have HS := hidden S
              clear S
              go_wp2_with (go_at_call 38; refine (HV.out _).mono ?_; rintro e w' ⟨rfl, rfl⟩)
              go_wp2
              go_ret2
              exact ⟨by rw [HA.out]; rfl, HS.out⟩
            · rw [decide_eq_false hd] at HV
              have hf : fixr v = 65533 := by unfold fixr; rw [if_pos (by omega)]
              rw [hf] at HA
              clear h hl T ho h2 hll hx2 hx hsz hd hf hv
              go_enter Tryd.func34, Tryd.ntmps34
              go_wp2_with (go_at_call 37; refine HP.out.mono ?_)
              rintro e w2 ⟨rfl, S⟩
              have HS := hidden S
              clear S
              go_wp2_with (go_at_call 38; refine (HV.out _).mono ?_; rintro e w' ⟨rfl, rfl⟩)
              go_wp2
              go_ret2
              exact ⟨by rw [HA.out]; rfl, HS.out⟩
        · have HP := hidden (num16_no (s.extract 1 s.size) t h2 (by omega) ho w T)
          have HA := hidden (show numC l = none by rw [hll, numC_x hx2]; unfold parseC; rw [if_neg ho])
          clear h hl T ho h2 hll hx2 hx hsz
          go_enter Tryd.func34, Tryd.ntmps34
          go_wp2_with (go_at_call 37; refine HP.out.mono ?_)
          rintro e w2 ⟨N, rfl, S⟩
          go_wp2
          go_ret2
          exact ⟨by rw [HA.out]; rfl, S⟩
      · rw [hx] at c0
        have hx2 : c.toNat = 120 ∨ c.toNat = 88 := .inr hx
        by_cases ho : t ≠ [] ∧ t.all (isD 16) = true
        · have HP := hidden (num16_ok (s.extract 1 s.size) t h2 (by omega) ho w)
          have HA := hidden (show numC l = some (fixr (numv 16 t)) by rw [hll, numC_x hx2]; unfold parseC; rw [if_pos ho])
          have hv := numv_bound16 t (by omega) ho.2
          generalize numv 16 t = v at *
          have hw : IntKind.i32.wrap (v : Int) = (v : Int) := by simp [IntKind.wrap, IntKind.bits, IntKind.signed]; omega
          by_cases v0 : v = 0
          · subst v0
            clear h hl T ho h2 hll hx2 hx hsz
            go_enter Tryd.func34, Tryd.ntmps34
            go_wp2_with (go_at_call 37; refine HP.out.mono ?_)
            rintro e w2 ⟨rfl, S⟩
            go_wp2
            go_ret2
            exact ⟨by rw [HA.out]; rfl, S⟩
          · have gv : ((v : Int) == 0) = false := by rw [beq_eq_false_iff_ne]; omega
            have HV := hidden (fun wx => validRune_any v hv wx)
            by_cases hd : v ≤ 1114111 ∧ ¬ (55296 ≤ v ∧ v ≤ 57343)
            · rw [decide_eq_true hd] at HV
              have hf : fixr v = v := by unfold fixr; rw [if_neg (by omega)]
              rw [hf] at HA
              clear h hl T ho h2 hll hx2 hx hsz hd hf hv
              go_enter Tryd.func34, Tryd.ntmps34
              go_wp2_with (go_at_call 37; refine HP.out.mono ?_)
              rintro e w2 ⟨rfl, S⟩
              have HS := hidden S
              clear S
              go_wp2_with (go_at_call 38; refine (HV.out _).mono ?_; rintro e w' ⟨rfl, rfl⟩)
              go_wp2
              go_ret2
              exact ⟨by rw [HA.out]; rfl, HS.out⟩
            · rw [decide_eq_false hd] at HV
              have hf : fixr v = 65533 := by unfold fixr; rw [if_pos (by omega)]
              rw [hf] at HA
              clear h hl T ho h2 hll hx2 hx hsz hd hf hv
              go_enter Tryd.func34, Tryd.ntmps34
              go_wp2_with (go_at_call 37; refine HP.out.mono ?_)
              rintro e w2 ⟨rfl, S⟩
              have HS := hidden S
              clear S
              go_wp2_with (go_at_call 38; refine (HV.out _).mono ?_; rintro e w' ⟨rfl, rfl⟩)
              go_wp2
              go_ret2
              exact ⟨by rw [HA.out]; rfl, HS.out⟩
        · have HP := hidden (num16_no (s.extract 1 s.size) t h2 (by omega) ho w T)
          have HA := hidden (show numC l = none by rw [hll, numC_x hx2]; unfold parseC; rw [if_neg ho])
          clear h hl T ho h2 hll hx2 hx hsz
          go_enter Tryd.func34, Tryd.ntmps34
          go_wp2_with (go_at_call 37; refine HP.out.mono ?_)
          rintro e w2 ⟨N, rfl, S⟩
          go_wp2
          go_ret2
          exact ⟨by rw [HA.out]; rfl, S⟩
    · obtain ⟨x0, hx0⟩ : ∃ x0, x0 = c.toNat := ⟨_, rfl⟩
      rw [← hx0] at c0
      have g1 : ((x0 : Int) == 120) = false := by rw [beq_eq_false_iff_ne]; omega
      have g2 : ((x0 : Int) == 88) = false := by rw [beq_eq_false_iff_ne]; omega
      by_cases ho : (c :: t) ≠ [] ∧ (c :: t).all (isD 10) = true
      · have HP := hidden (num10_ok s (c :: t) h hl ho w)
        have HA := hidden (show numC l = some (fixr (numv 10 (c :: t))) by rw [hll, numC_d hx]; unfold parseC; rw [if_pos ho])
        have hv := numv_bound10 (c :: t) hl ho.2
        generalize numv 10 (c :: t) = v at *
        have hw : IntKind.i32.wrap (v : Int) = (v : Int) := by simp [IntKind.wrap, IntKind.bits, IntKind.signed]; omega
        by_cases v0 : v = 0
        · subst v0
          clear h hl T ho hll hx hx0 hsz
          go_enter Tryd.func34, Tryd.ntmps34
          go_wp2_with (go_at_call 37; refine HP.out.mono ?_)
          rintro e w2 ⟨rfl, S⟩
          go_wp2
          go_ret2
          exact ⟨by rw [HA.out]; rfl, S⟩
        · have gv : ((v : Int) == 0) = false := by rw [beq_eq_false_iff_ne]; omega
          have HV := hidden (fun wx => validRune_any v hv wx)
          by_cases hd : v ≤ 1114111 ∧ ¬ (55296 ≤ v ∧ v ≤ 57343)
          · rw [decide_eq_true hd] at HV
            have hf : fixr v = v := by unfold fixr; rw [if_neg (by omega)]
            rw [hf] at HA
            clear h hl T ho hll hx hx0 hsz hd hf hv
            go_enter Tryd.func34, Tryd.ntmps34
            go_wp2_with (go_at_call 37; refine HP.out.mono ?_)
            rintro e w2 ⟨rfl, S⟩
            have HS := hidden S
            clear S
            go_wp2_with (go_at_call 38; refine (HV.out _).mono ?_; rintro e w' ⟨rfl, rfl⟩)
            go_wp2
            go_ret2
            exact ⟨by rw [HA.out]; rfl, HS.out⟩
          · rw [decide_eq_false hd] at HV
            have hf : fixr v = 65533 := by unfold fixr; rw [if_pos (by omega)]
            rw [hf] at HA
            clear h hl T ho hll hx hx0 hsz hd hf hv
            go_enter Tryd.func34, Tryd.ntmps34
            go_wp2_with (go_at_call 37; refine HP.out.mono ?_)
            rintro e w2 ⟨rfl, S⟩
            have HS := hidden S
            clear S
            go_wp2_with (go_at_call 38; refine (HV.out _).mono ?_; rintro e w' ⟨rfl, rfl⟩)
            go_wp2
            go_ret2
            exact ⟨by rw [HA.out]; rfl, HS.out⟩
      · have HP := hidden (num10_no s (c :: t) h hl ho w T)
        have HA := hidden (show numC l = none by rw [hll, numC_d hx]; unfold parseC; rw [if_neg ho])
        clear h hl T ho hll hx hx0 hsz
        go_enter Tryd.func34, Tryd.ntmps34
        go_wp2_with (go_at_call 37; refine HP.out.mono ?_)
        rintro e w2 ⟨N, rfl, S⟩
        go_wp2
        go_ret2
        exact ⟨by rw [HA.out]; rfl, S⟩

set_option maxHeartbeats 1000000 in
theorem spelt_any (s : ByteArray) (l : List UInt8) (h : s.data.toList = l) (hl : l.length ≤ 8) (w : World) (T : EW w) :
    Calls Tryd.prog 31 #[.string s] w fun e w' => e = .returned (spT (spC l)) ∧ Step (fun _ => False) w w' := by
  have HC := hidden (cut_any s l h (by omega) w)
  unfold cutT at HC
  cases l with
  | nil =>
    have HN := hidden (fun wx => named_any s [] h wx)
    rw [show nameC [] = none from rfl] at HN
    unfold spT at HN
    rw [decide_eq_false (by simp)] at HC
    rw [if_neg (by simp)] at HC
    have HS := hidden (Step.refl (fun _ => False) w)
    clear h hl T
    go_enter Tryd.func31, Tryd.ntmps31
    go_wp2_with (go_at_call 33; refine HC.out.mono ?_; rintro e w' ⟨rfl, rfl⟩)
    go_wp2_with (go_at_call 35; refine (HN.out _).mono ?_; rintro e w' ⟨rfl, rfl⟩)
    go_wp2
    go_ret2
    exact ⟨rfl, HS.out⟩
  | cons c t =>
    by_cases hc : c.toNat = 35
    · have hc2 : c = 35 := UInt8.toNat_inj.1 (by rw [hc]; rfl)
      rw [decide_eq_true (by simp [hc2]), if_pos rfl] at HC
      have HN := hidden (numbered_any (s.extract 1 s.size) t (ext_tail h) (by simp at hl; omega) w T)
      have HA := hidden (show spC (c :: t) = numC t from spC_hash hc)
      cases hn : numC t with
      | none =>
        rw [hn] at HN HA
        unfold spT at HN
        clear h hl T hc hc2 hn
        go_enter Tryd.func31, Tryd.ntmps31
        go_wp2_with (go_at_call 33; refine HC.out.mono ?_; rintro e w' ⟨rfl, rfl⟩)
        go_wp2_with (go_at_call 34; refine HN.out.mono ?_)
        rintro e w2 ⟨rfl, S⟩
        go_wp2
        go_ret2
        exact ⟨by rw [HA.out]; rfl, S⟩
      | some r =>
        rw [hn] at HN HA
        unfold spT at HN
        clear h hl T hc hc2 hn
        go_enter Tryd.func31, Tryd.ntmps31
        go_wp2_with (go_at_call 33; refine HC.out.mono ?_; rintro e w' ⟨rfl, rfl⟩)
        go_wp2_with (go_at_call 34; refine HN.out.mono ?_)
        rintro e w2 ⟨rfl, S⟩
        go_wp2
        go_ret2
        exact ⟨by rw [HA.out]; rfl, S⟩
    · have HN := hidden (fun wx => named_any s (c :: t) h wx)
      have HA := hidden (show spC (c :: t) = nameC (c :: t) from spC_name hc)
      rw [decide_eq_false (by simp; intro e; exact hc (by rw [e]; rfl)), if_neg (by simp)] at HC
      have HS := hidden (Step.refl (fun _ => False) w)
      cases hn : nameC (c :: t) with
      | none =>
        rw [hn] at HN HA
        unfold spT at HN
        clear h hl T hc hn
        go_enter Tryd.func31, Tryd.ntmps31
        go_wp2_with (go_at_call 33; refine HC.out.mono ?_; rintro e w' ⟨rfl, rfl⟩)
        go_wp2_with (go_at_call 35; refine (HN.out _).mono ?_; rintro e w' ⟨rfl, rfl⟩)
        go_wp2
        go_ret2
        exact ⟨by rw [HA.out]; rfl, HS.out⟩
      | some r =>
        rw [hn] at HN HA
        unfold spT at HN
        clear h hl T hc hn
        go_enter Tryd.func31, Tryd.ntmps31
        go_wp2_with (go_at_call 33; refine HC.out.mono ?_; rintro e w' ⟨rfl, rfl⟩)
        go_wp2_with (go_at_call 35; refine (HN.out _).mono ?_; rintro e w' ⟨rfl, rfl⟩)
        go_wp2
        go_ret2
        exact ⟨by rw [HA.out]; rfl, HS.out⟩

theorem nameC_ok {w : List UInt8} {r : Nat} (h : nameC w = some r) : okR r := by
  unfold nameC at h
  repeat' split at h
  all_goals first | (have := Option.some.inj h; unfold okR; omega) | (cases h)
theorem parseC_ok {b : Nat} {w : List UInt8} {r : Nat} (h : parseC b w = some r) : okR r := by
  unfold parseC at h
  split at h
  · rw [← Option.some.inj h]; exact fixr_ok _
  · cases h
theorem spC_ok {w : List UInt8} {r : Nat} (h : spC w = some r) : okR r := by
  cases w with
  | nil => exact nameC_ok h
  | cons c d =>
    by_cases hc : c.toNat = 35
    · rw [spC_hash hc] at h
      cases d with
      | nil => cases h
      | cons x d =>
        by_cases hx : x.toNat = 120 ∨ x.toNat = 88
        · rw [numC_x hx] at h; exact parseC_ok h
        · rw [numC_d hx] at h; exact parseC_ok h
    · rw [spC_name hc] at h; exact nameC_ok h

def atT (a : List UInt8 × Nat) : Value := .tuple #[str a.1, .int .i64 ((a.2 : Nat) : Int)]

set_option maxHeartbeats 2000000 in
theorem at_any (s : ByteArray) (l : List UInt8) (h : s.data.toList = l) (hl : l.length ≤ 100000) (w : World) (T : EW w) :
    Calls Tryd.prog 26 #[.string s] w fun e w' => e = .returned (atT (atC l)) ∧ Step (fun _ => False) w w' := by
  have hsz : s.size = l.length := by rw [← h]; rfl
  obtain ⟨m, hm⟩ : ∃ m, m = min s.size 10 := ⟨_, rfl⟩
  have hmi : min (s.size : Int) 10 = (m : Int) := by omega
  have hm0 : (0 : Int) ≤ (m : Int) := by omega
  have hm1 : (m : Int) ≤ (s.size : Int) := by omega
  have hx : (s.extract 0 m).data.toList = l.take 10 := by
    rw [hm, ← h]
    simp only [ByteArray.data_extract, Array.toList_extract, List.extract_eq_take_drop, List.drop_zero, Nat.sub_zero]
    rw [show s.size = s.data.toList.length from rfl]
    rcases Nat.le_total s.data.toList.length 10 with hh | hh
    · rw [Nat.min_eq_left hh, List.take_of_length_le (Nat.le_refl _), List.take_of_length_le hh]
    · rw [Nat.min_eq_right hh]
  have HI := hidden (strings_index (s.extract 0 m) _ hx w)
  rw [semi_index] at HI
  have hsb : s.size ≤ 100000 := by omega
  have HS := hidden (Step.refl (fun _ => False) w)
  by_cases hs : semi l < min l.length 10
  · rw [if_pos hs] at HI
    obtain ⟨k, hk⟩ : ∃ k, k = semi l := ⟨_, rfl⟩
    rw [← hk] at HI
    by_cases h1 : 1 ≤ k
    · have z1 : ¬ ((k : Int) < 1) := by omega
      have z2 : (1 : Int) ≤ (k : Int) := by omega
      have z3 : (k : Int) ≤ (s.size : Int) := by omega
      have hp0 : 0 < s.size := by omega
      have pz : (0 : Int) < (s.size : Int) := by omega
      have c0 : (s[0]'hp0).toNat = bN l 0 := by rw [getD_at s l h 0 hp0]; rfl
      by_cases hb : bN l 0 = 38
      · rw [hb] at c0
        have hW : wordOf l = some ((l.take k).drop 1) := by unfold wordOf; rw [← hk] at hs ⊢; rw [if_pos ⟨hb, h1, hs⟩]
        have hxe : (s.extract 1 k).data.toList = (l.take k).drop 1 := by
          rw [← h]; simp only [ByteArray.data_extract, Array.toList_extract, List.extract_eq_take_drop]
          rw [List.drop_take]
        have hwl : ((l.take k).drop 1).length + 1 = k := by rw [List.length_drop, List.length_take]; omega
        have hSp := spelt_any (s.extract 1 k) _ hxe (by omega) w T
        have hAt : atC l = ansC (spC ((l.take k).drop 1)) (k + 1) := by unfold atC; rw [hW]; dsimp only; rw [show ((l.take k).drop 1).length + 2 = k + 1 by omega]
        rw [hAt]
        cases hsp : spC ((l.take k).drop 1) with
        | none =>
          rw [hsp] at hSp
          unfold spT at hSp
          have HSp := hidden hSp
          clear h hl T hsz hm hx hs hk h1 hb hW hxe hwl hSp hAt hsp
          go_enter Tryd.func26, Tryd.ntmps26
          go_wp2_with (go_at_call 23; refine HI.out.mono ?_; rintro e w' ⟨rfl, rfl⟩)
          go_wp2_with (go_at_call 31; refine HSp.out.mono ?_)
          rintro e w2 ⟨rfl, S⟩
          go_wp2
          go_ret2
          exact ⟨rfl, S⟩
        | some r =>
          rw [hsp] at hSp
          unfold spT at hSp
          have HSp := hidden hSp
          have hcv : ∀ wx, (convert 21 9 (.int .i32 (r : Int))).run Tryd.prog wx = .ok (str (encodeRune (r : Int))) wx := fun wx => by
            rw [run_convert_int_string wx 21 9 .i32 (r : Int) (by rw [Tryd.underlying21]; rfl) Tryd.underlying9, utf8enc r (spC_ok hsp)]
          unfold ansC
          unfold str at hcv
          unfold atT str
          dsimp only
          generalize (⟨(encodeRune (r : Int)).toArray⟩ : ByteArray) = se at *
          have hk9 : (k : Int) ≤ 10 := by omega
          clear h hl T hsz hm hx hs hk h1 hb hW hxe hwl hSp hAt hsp
          go_enter Tryd.func26, Tryd.ntmps26
          go_wp2_with (go_at_call 23; refine HI.out.mono ?_; rintro e w' ⟨rfl, rfl⟩)
          go_wp2_with (go_at_call 31; refine HSp.out.mono ?_)
          rintro e w2 ⟨rfl, S⟩
          go_wp2
          go_ret2
          exact ⟨by simp, S⟩
      · have hA : atC l = ([], 0) := by unfold atC wordOf; rw [if_neg (fun hh => hb hh.1)]
        rw [hA]
        obtain ⟨x0, hx0⟩ : ∃ x0, x0 = bN l 0 := ⟨_, rfl⟩
        rw [← hx0] at c0 hb
        have g0 : ((x0 : Int) != 38) = true := by rw [bne_iff_ne]; omega
        clear h hl T hsz hm hx hs hk h1 hA hx0
        go_enter Tryd.func26, Tryd.ntmps26
        go_wp2_with (go_at_call 23; refine HI.out.mono ?_; rintro e w' ⟨rfl, rfl⟩)
        go_wp2
        go_ret2
        exact ⟨rfl, HS.out⟩
    · have z1 : (k : Int) < 1 := by omega
      have hA : atC l = ([], 0) := by unfold atC wordOf; rw [if_neg (fun hh => h1 (by rw [hk]; exact hh.2.1))]
      rw [hA]
      clear h hl T hsz hm hx hs hk h1 hA
      go_enter Tryd.func26, Tryd.ntmps26
      go_wp2_with (go_at_call 23; refine HI.out.mono ?_; rintro e w' ⟨rfl, rfl⟩)
      go_wp2
      go_ret2
      exact ⟨rfl, HS.out⟩
  · rw [if_neg hs] at HI
    have hA : atC l = ([], 0) := by unfold atC wordOf; rw [if_neg (fun hh => hs hh.2.2)]
    rw [hA]
    clear h hl T hsz hm hx hs hA
    go_enter Tryd.func26, Tryd.ntmps26
    go_wp2_with (go_at_call 23; refine HI.out.mono ?_; rintro e w' ⟨rfl, rfl⟩)
    go_wp2
    go_ret2
    exact ⟨rfl, HS.out⟩

end Go.Proofs.YtmegfcgnemfjnabDoor
