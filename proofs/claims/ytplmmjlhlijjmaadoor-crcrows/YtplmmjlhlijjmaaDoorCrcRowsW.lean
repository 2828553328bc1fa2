/-
  The walk of the law on many rows.
-/
import Derived.Test.YtplmmjlhlijjmaaDoorRowsOf
namespace Go.Proofs.YtplmmjlhlijjmaaDoor
open Go.RowKit

theorem Rds.cell {w : World} {ao : Option Addr} {n cap : Nat} {L : List (List Nat)} (h : Rds w (.slice ao n cap) L) (k : Nat) (hk : k < L.length) : ∃ b off, ao = some ⟨b, off, none⟩ ∧ ∃ u, w.cell? ⟨b, off + k, none⟩ = some u ∧ Rd w u (L.getD k []) := by
  obtain ⟨ao', c, e, h1, h2⟩ := h
  injection e with e1 e2 e3
  subst e1
  have hne : L ≠ [] := by intro e; subst e; simp at hk
  cases ao with
  | none => exact absurd (h1 rfl) hne
  | some a =>
    obtain ⟨b, off, rfl, hc⟩ := h2 a rfl hne
    exact ⟨b, off, rfl, hc k hk⟩

theorem Rds.step {S : Nat → Prop} {w w' : World} {v : Value} {L : List (List Nat)} (h : Rds w v L) (hs : Step S w w') (hS : ∀ k, ¬ S k) : Rds w' v L := by
  obtain ⟨ao, cap, rfl, h1, h2⟩ := h
  refine ⟨ao, cap, rfl, h1, fun a ha hne => ?_⟩
  obtain ⟨b, off, rfl, hc⟩ := h2 a ha hne
  refine ⟨b, off, rfl, fun k hk => ?_⟩
  obtain ⟨u, cu, ru⟩ := hc k hk
  exact ⟨u, hs.cell cu (hS _), ru.step hs (fun _ _ _ _ _ => hS _)⟩

theorem flat_succ (L : List (List Nat)) (k : Nat) (h : k < L.length) : (L.take (k + 1)).flatten = (L.take k).flatten ++ L.getD k [] := by
  have e : L.getD k [] = L[k] := by simp [List.getD, h]
  rw [List.take_succ_eq_append_getElem h, e, List.flatten_append, List.flatten_singleton]

theorem flat_len {L : List (List Nat)} {B : List Nat} (h : B ∈ L) : B.length ≤ L.flatten.length := by
  induction L with
  | nil => simp at h
  | cons C L ih =>
    simp only [List.flatten_cons, List.length_append]
    rcases List.mem_cons.1 h with e | e
    · subst e; omega
    · have := ih e; omega

/-- The row of all so far. -/
structure Alls (w wr : World) (s : Value) (m : Nat) (A : List Nat) : Prop where
  own : wr.ownsRow 0 5 1 s m (u8s A)
  new : ∀ g, s.ownBlock = some g → w.heap.size ≤ g
  step : Step (fun _ => False) w wr

theorem Alls.len {w wr : World} {s : Value} {m : Nat} {A : List Nat} (h : Alls w wr s m A) : A.length = m := by
  have := h.own.1; rw [u8s_length] at this; omega

set_option maxHeartbeats 2000000 in
theorem rows_any (ao : Option Addr) (cap : Nat) (L : List (List Nat)) (w : World) (T : Tab w) (hB : ∀ B ∈ L, ∀ x ∈ B, x < 256) (h : Rds w (.slice ao L.length cap) L) (hm : L.length ≤ 9223372036854775807) (hms : ∀ B ∈ L, B.length ≤ 140737488351232) :
    Calls Tryd.prog 8 #[.slice ao L.length cap] w fun e w' => e = .returned (.bool true) ∧ Step (fun _ => False) w w' := by
  obtain ⟨i0, hi, hz0, hz1, hz2⟩ := info_parts Tryd.info5
  have HT := hidden T
  have HB := hidden hB
  obtain ⟨n, hn⟩ : ∃ n, L.length = n := ⟨_, rfl⟩
  rw [hn] at h hm ⊢
  have Hn := hidden hn
  have HR := hidden h
  have Hms := hidden hms
  clear T hB h hn hms
  go_enter Tryd.func8, Tryd.ntmps8
  go_wp2
  go_loopw [3, 4] (fun s i wr => ∃ k m : Nat, k ≤ n ∧ i = .int .i64 k ∧ m ≤ 4000 ∧ (k = 0 ∨ n ≤ 4000) ∧ Alls w wr s m (L.take k).flatten) (fun _ i _ => n - (intOf i).toNat)
  case atStart => exact ⟨0, 0, Nat.zero_le _, rfl, Nat.zero_le _, .inl rfl, World.ownsRow_nil _ _ _ _, fun g hg => by simp [Value.ownBlock] at hg, Step.refl _ _⟩
  case round =>
    obtain ⟨k, m, hk, rfl, hm4, hkn, A⟩ := hrel
    obtain ⟨sa, sc, hs⟩ := own_slice A.own
    subst hs
    by_cases hlt : k < n
    · have hkL : k < L.length := by have := Hn.out; omega
      obtain ⟨b, off, hao, u, cu, ru⟩ := (HR.out.step A.step (fun _ h => h)).cell k hkL
      subst hao
      have k1 : (k : Int) < (n : Int) := by omega
      have HF := hidden (flat_succ L k hkL)
      obtain ⟨ua, uc, hu, hu0, _⟩ := id ru
      have Hu0 := hidden hu0
      rw [hu] at ru cu
      have hls := Hms.out _ (getD_mem hkL)
      have HRu := hidden ru
      have HA := hidden A
      clear hu hu0 A ru
      generalize L.getD k [] = Bk at *
      generalize hp : Bk.length = p at *
      have Hp := hidden hp
      clear hp
      by_cases h1 : 4000 < m + p
      · have hd : decide ((4000 : Int) < (m : Int) + (p : Int)) = true := by simp; omega
        go_wp2
        go_ret
        exact ⟨rfl, HA.out.step⟩
      · have hd : decide ((4000 : Int) < (m : Int) + (p : Int)) = false := by simp; omega
        by_cases h2 : 4000 < n
        · have hd2 : decide ((4000 : Int) < (n : Int)) = true := by simp; omega
          go_wp2
          go_ret
          exact ⟨rfl, HA.out.step⟩
        · have hd2 : decide ((4000 : Int) < (n : Int)) = false := by simp; omega
          cases ua with
          | none =>
            obtain ⟨hB0, hc0⟩ := Hu0.out rfl
            subst hc0
            have hp0 : p = 0 := by rw [← Hp.out, hB0]; rfl
            subst hp0
            rw [hB0, List.append_nil] at HF
            go_wp2_with (at_builtin; refine wpList_append_stop rfl (.tmp 25) (.tmp 29) 22 rfl 5 i0 1 Tryd.underlying22 hi _ _ _ rfl HA.out.own rfl ?_)
            unfold Hid
            go_wp2
            go_roundw
            case rel => exact ⟨k + 1, m, by omega, by go_num, hm4, .inr (by omega), by rw [HF.out]; exact HA.out⟩
            case measure => simp [intOf]; omega
          | some a =>
            go_wp2_with (at_builtin; refine wpList_append_at _ rfl (.tmp 25) (.tmp 29) 22 rfl 5 i0 (.int .u8 0) 1 1 Tryd.underlying22 hi hz0 hz1 hz2 rfl (by decide) _ _ _ rfl HA.out.own a p uc (u8s Bk) rfl ?c0 HRu.out.news (u8s_one _) ?c3 ?c4 ?_)
            case c0 => rw [u8s_length, Hp.out]; omega
            case c3 => unfold maxLen; omega
            case c4 => omega
            intro v1 w1 hown1 hgrow1 hnil1 hb1
            have HA1 := hidden (show Alls w w1 v1 (m + p) (L.take (k + 1)).flatten from
              ⟨by rw [HF.out, u8s_append]; exact hown1, fun g hg => by
                rcases hb1 with e | e
                · exact HA.out.new g (by rw [← e]; exact hg)
                · rw [e] at hg; have := Option.some.inj hg; have := HA.out.step.size; omega,
              HA.out.step.grown hgrow1 (fun g hg => .inr (HA.out.new g hg))⟩)
            clear hown1 hgrow1 hnil1 hb1
            go_wp2
            go_roundw
            case rel => exact ⟨k + 1, m + p, by omega, by go_num, by omega, .inr (by omega), HA1.out⟩
            case measure => simp [intOf]; omega
    · have hkL : L.take k = L := List.take_of_length_le (by have := Hn.out; omega)
      rw [hkL] at A
      have hA := A.len
      have HA := hidden A
      have Hlen := hidden (show ∀ B ∈ L, B.length ≤ 137438953600 from fun B hB => by have := flat_len hB; omega)
      have Hby := hidden (show ∀ x ∈ L.flatten, x < 256 from fun x hx => by
        obtain ⟨B, hB, hxB⟩ := List.mem_flatten.1 hx
        exact HB.out B hB x hxB)
      clear A hkL
      go_wp2_with fail
      refine Calls.mono (sum_any _ L _ HB.out (HT.out.step HA.out.step (fun h => h)) (HR.out.step HA.out.step (fun _ h => h)) (by have := Hn.out; omega) Hlen.out) ?_
      rintro e w2 ⟨rfl, q, rfl⟩
      go_wp2_with fail
      refine Calls.mono (sum_one (.slice sa m sc) L.flatten _ _ (by simp) Hby.out ?t2 ?r2 (by omega)) ?_
      case t2 => exact (HT.out.step HA.out.step (fun h => h) : Tab wr)
      case r2 => exact (Rd.of_own HA.out.own : Rd wr _ _)
      rintro e w2 ⟨rfl, q2, rfl⟩
      have HK := hidden (((HA.out.step.drewN q).alloc (.cells #[.slice sa m sc] 22)).drewN q2)
      generalize crcSum L.flatten = s1 at *
      go_wp2_with fail
      refine Calls.mono (sum_any _ [] _ (by simp) (HT.out.step HK.out (fun h => h)) ⟨none, 0, rfl, fun _ => rfl, fun a h => by cases h⟩ (by simp) (by simp)) ?_
      rintro e w2 ⟨rfl, q3, rfl⟩
      rw [show crcSum ([] : List (List Nat)).flatten = 0 from by decide]
      have HK2 := hidden (((HA.out.step.drewN q).alloc (.cells #[.slice sa m sc] 22)).drewN (q2 + q3))
      go_wp2_with fail
      refine Calls.mono (known_any _ (HT.out.step HK2.out (fun h => h))) ?_
      rintro e wk ⟨rfl, hk⟩
      have HKK := hidden (HK2.out.made hk)
      clear hk
      go_wp2
      go_ret
      exact ⟨rfl, HKK.out⟩

end Go.Proofs.YtplmmjlhlijjmaaDoor
