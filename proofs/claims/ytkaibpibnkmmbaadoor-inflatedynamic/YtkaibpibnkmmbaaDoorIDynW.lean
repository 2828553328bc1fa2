/-
  The law's lengths of two sorts.
-/
import Derived.Test.YtkaibpibnkmmbaaDoorIDynL
import Derived.Test.YtkaibpibnkmmbaaDoorHApp
import Derived.Test.YtkaibpibnkmmbaaDoorHArr
namespace Go.Proofs.YtkaibpibnkmmbaaDoor
open Go.RowKit
set_option maxRecDepth 100000
set_option linter.unusedVariables false

set_option maxHeartbeats 4000000 in
theorem rlens_any (v : Value) (C : List Int) (w : World) (h : Ri w v C) (hl : C.length ≤ 257) (hC : ∀ x ∈ C, 0 ≤ x) (h1 : 1 ≤ pn C C.length) :
    Calls Tryd.prog 4 #[v] w fun e w' => ∃ b, e = .returned (.slice (some ⟨b, 0, none⟩) C.length C.length) ∧ ∃ k S, Hid (Ri w' (.slice (some ⟨b, 0, none⟩) C.length C.length) (lnI C k S) ∧ w.heap.size ≤ b ∧ 1 ≤ k ∧ k ≤ 15 ∧ newErr (lnI C k S) = 0 ∧ Step (fun _ => False) w w') := by
  have HC := hidden hC
  have H1 := hidden h1
  obtain ⟨ao, cap, rfl, hcap, r1, r2⟩ := h
  have R1 := hidden r1
  have R2 := hidden r2
  obtain ⟨n, hn⟩ : ∃ n, n = C.length := ⟨_, rfl⟩
  have Hn := hidden hn
  rw [← hn] at hl hcap ⊢
  clear r1 r2 hn hC h1
  go_enter Tryd.func4, Tryd.ntmps4
  go_wp2
  go_loopw [3, 4] (fun c iv wr => ∃ i : Nat, i ≤ n ∧ iv = .int .i64 (i : Int) ∧ c = .int .i64 (pn C i : Int) ∧ Hid (Step (fun _ => False) w wr)) (fun _ iv _ => n - (intOf iv).toNat)
  case atStart => exact ⟨0, Nat.zero_le _, rfl, rfl, hidden (Step.refl _ _)⟩
  case round =>
    obtain ⟨i, hi, rfl, rfl, HS⟩ := hrel
    have hpl := pn_le C i
    by_cases hin : i < n
    · have hiC : i < C.length := by have := Hn.out; omega
      have i1 : (i : Int) < (n : Int) := by omega
      cases ao with
      | none => have := (R1.out rfl).1; subst this; simp at hiC
      | some a =>
        obtain ⟨ba, oa, rfl, ka⟩ := R2.out a rfl (by intro e; subst e; simp at hiC)
        have ca := HS.out.cell (ka i hiC) (fun h => h)
        have hx0 := HC.out (C.getD i 0) (by rw [getD_i C i hiC]; exact List.getElem_mem hiC)
        clear ka
        by_cases hz : C.getD i 0 = 0
        · have HP := hidden (show pn C (i + 1) = pn C i by simp only [pn]; rw [if_pos hz])
          rw [hz] at ca
          clear hz hx0
          generalize pn C i = q at *
          go_wp2
          go_roundw
          case rel => exact ⟨i + 1, by omega, by go_num, by rw [HP.out], HS.out⟩
          case measure => simp [intOf]; omega
        · have HP := hidden (show pn C (i + 1) = pn C i + 1 by simp only [pn]; rw [if_neg hz])
          have hx1 : 0 < C.getD i 0 := by omega
          clear hz hx0
          generalize pn C i = q at *
          generalize C.getD i 0 = x at *
          go_wp2
          go_roundw
          case rel => exact ⟨i + 1, by omega, by go_num, by rw [HP.out]; rfl, HS.out⟩
          case measure => simp [intOf]; omega
    · have e : i = n := by omega
      have HN1 := hidden (show 1 ≤ pn C i by rw [e, Hn.out]; exact H1.out)
      have HIN := hidden (show i = C.length by rw [e]; exact Hn.out)
      have i1 : ¬ (i : Int) < (n : Int) := by omega
      obtain ⟨N, hN⟩ : ∃ N, N = pn C i := ⟨_, rfl⟩
      have HN := hidden hN
      rw [← hN] at hpl ⊢
      clear hN e
      go_wp2
      go_loopw [5] (fun kv W => ∃ k : Nat, 1 ≤ k ∧ k ≤ 9 ∧ kv = .int .i64 (k : Int) ∧ Hid (Step (fun _ => False) w W ∧ (k = 1 ∨ 2 ^ (k - 1) < N))) (fun kv _ => 10 - (intOf kv).toNat)
      case atStart => exact ⟨1, by omega, by omega, rfl, hidden ⟨HS.out, .inl rfl⟩⟩
      case round =>
        obtain ⟨k, hk1, hk9, rfl, HK⟩ := hrel
        have e2 : ((2 ^ k : Nat) : Int) = (2 : Int) ^ k := by simp
        have p1 := ipow_pos k
        have p2 : (2 : Int) ^ k ≤ 512 := by
          have : (2 ^ k : Nat) ≤ 2 ^ 9 := Nat.pow_le_pow_right (by omega) hk9
          omega
        by_cases hlt : 2 ^ k < N
        · have hlt' : (2 : Int) ^ k < (N : Int) := by omega
          have hk8 : k ≤ 8 := by
            rcases Nat.lt_or_ge k 9 with h | h
            · omega
            · have : k = 9 := by omega
              subst this
              have : (2 : Nat) ^ 9 = 512 := rfl
              omega
          have HK2 := hidden (show k + 1 = 1 ∨ 2 ^ (k + 1 - 1) < N from .inr (by simpa using hlt))
          clear e2 hlt
          go_wp2
          go_roundw
          case rel => exact ⟨k + 1, by omega, by omega, by go_num, hidden ⟨HK.out.1, HK2.out⟩⟩
          case measure => simp [intOf]; omega
        · have hlt' : ¬ (2 : Int) ^ k < (N : Int) := by omega
          obtain ⟨S, hS⟩ : ∃ S, N + S = 2 ^ k := ⟨2 ^ k - N, by omega⟩
          have eS : (2 : Int) ^ k - (N : Int) = (S : Int) := by omega
          have hS2 : S ≤ 512 := by omega
          have HNEW := hidden (show newErr (lnI C k S) = 0 from lnI_new C k S (by have := Hn.out; omega) hk1 (by omega) (by rw [← HIN.out, ← HN.out]; exact hS) (by rw [← HIN.out, ← HN.out]; exact HK.out.2) (by rw [← HIN.out]; exact HN1.out))
          clear e2 hlt hS
          go_wp2_with (refine makeInts n _ rfl rfl rfl (by omega) ?_)
          intro w6 hs6 hz6 ha6
          have HS6 := hidden (HK.out.1.made hs6)
          have hwr := HK.out.1.size
          obtain ⟨lb, hlb⟩ : ∃ lb, lb = wr.heap.size := ⟨_, rfl⟩
          rw [← hlb] at ha6 ⊢
          have HA6 := hidden ha6
          have HLB := hidden (show w.heap.size ≤ lb by omega)
          clear hs6 ha6 hlb hz6 hwr
          go_wp2
          go_loopw [6, 8] (fun sv jv W => ∃ j : Nat, j ≤ n ∧ jv = .int .i64 (j : Int) ∧ sv = .int .i64 ((if 1 < k then S - min (pn C j) S else S : Nat) : Int) ∧ Hid (Af W lb n (fun q => if q < j then (lnK C k S q : Int) else 0) ∧ Step (fun _ => False) w W)) (fun _ jv _ => n - (intOf jv).toNat)
          case atStart => exact ⟨0, Nat.zero_le _, rfl, by simp [pn], HA6.out.congr (fun q _ => by simp), HS6.out⟩
          case round =>
            obtain ⟨j, hj, rfl, rfl, HJ⟩ := hrel
            by_cases hjn : j < n
            · have hjC : j < C.length := by have := Hn.out; omega
              have j1 : (j : Int) < (n : Int) := by omega
              cases ao with
              | none => have := (R1.out rfl).1; subst this; simp at hjC
              | some a =>
                obtain ⟨ba, oa, rfl, ka⟩ := R2.out a rfl (by intro e; subst e; simp at hjC)
                have ca := HJ.out.2.cell (ka j hjC) (fun h => h)
                have hx0 := HC.out (C.getD j 0) (by rw [getD_i C j hjC]; exact List.getElem_mem hjC)
                obtain ⟨cl, cz⟩ := HJ.out.1 j hjn
                simp only [Nat.lt_irrefl, if_false] at cl
                have hba : ba < w.heap.size := World.block_lt_of_cell? w _ (ka j hjC)
                clear ka
                by_cases hz : C.getD j 0 = 0
                · have HP := hidden (show pn C (j + 1) = pn C j by simp only [pn]; rw [if_pos hz])
                  have HV := hidden (show lnK C k S j = 0 by unfold lnK; rw [if_pos hz])
                  rw [hz] at ca
                  have b0 : ((0 : Int) == 0) = true := rfl
                  clear hz hx0
                  generalize hsv : (if 1 < k then S - min (pn C j) S else S : Nat) = sv at *
                  have HSV := hidden hsv
                  clear hsv
                  go_wp2
                  go_roundw
                  case rel => exact ⟨j + 1, by omega, by go_num, by rw [HP.out, HSV.out], HJ.out.1.congr (fun q hq => by
                    by_cases e : q < j
                    · rw [if_pos e, if_pos (by omega)]
                    · rw [if_neg e]
                      by_cases e2 : q = j
                      · subst e2; rw [if_pos (by omega), HV.out]; rfl
                      · rw [if_neg (by omega)]), HJ.out.2⟩
                  case measure => simp [intOf]; omega
                · have HP := hidden (show pn C (j + 1) = pn C j + 1 by simp only [pn]; rw [if_neg hz])
                  have bx : (C.getD j 0 == 0) = false := by rw [beq_eq_false_iff_ne]; exact hz
                  by_cases hsh : pn C j < S ∧ 1 < k
                  · have HV := hidden (show lnK C k S j = k - 1 by unfold lnK; rw [if_neg hz, if_pos hsh])
                    have k1 : (1 : Int) < (k : Int) := by omega
                    obtain ⟨sv, hsv⟩ : ∃ sv : Nat, (if 1 < k then S - min (pn C j) S else S : Nat) = sv + 1 := ⟨S - pn C j - 1, by rw [if_pos hsh.2]; omega⟩
                    have HSV := hidden (show (if 1 < k then S - min (pn C (j + 1)) S else S : Nat) = sv by rw [if_pos hsh.2] at hsv ⊢; rw [HP.out]; omega)
                    rw [hsv]
                    have s0 : (0 : Int) < ((sv + 1 : Nat) : Int) := by omega
                    have hsb : sv ≤ 512 := by rw [if_pos hsh.2] at hsv; omega
                    clear hz hx0 hsv hsh
                    generalize C.getD j 0 = x at *
                    have HF := hidden (show Af ((wr.setCell ⟨lb, j, none⟩ (.int .i64 (k : Int))).setCell ⟨lb, j, none⟩ (.int .i64 ((k : Int) - 1))) lb n (fun q => if q < j + 1 then (lnK C k S q : Int) else 0) by
                      refine ((HJ.out.1.set j (k : Int)).set j ((k : Int) - 1)).congr (fun q hq => ?_)
                      unfold upd
                      by_cases e : q = j
                      · subst e; rw [if_pos rfl, if_pos (by omega), HV.out]; omega
                      · rw [if_neg e, if_neg e]
                        show (if q < j then (lnK C k S q : Int) else 0) = if q < j + 1 then (lnK C k S q : Int) else 0
                        by_cases e2 : q < j
                        · rw [if_pos e2, if_pos (by omega)]
                        · rw [if_neg e2, if_neg (by omega)])
                    have HF2 := hidden (show Step (fun _ => False) w ((wr.setCell ⟨lb, j, none⟩ (.int .i64 (k : Int))).setCell ⟨lb, j, none⟩ (.int .i64 ((k : Int) - 1))) from (HJ.out.2.setCell _ _ (.inr HLB.out)).setCell _ _ (.inr HLB.out))
                    go_wp2
                    go_roundw
                    case rel => exact ⟨j + 1, by omega, by go_num, by rw [HSV.out], HF.out, HF2.out⟩
                    case measure => simp [intOf]; omega
                  · have HV := hidden (show lnK C k S j = k by unfold lnK; rw [if_neg hz, if_neg hsh])
                    obtain ⟨sv, hsv⟩ : ∃ sv : Nat, (if 1 < k then S - min (pn C j) S else S : Nat) = sv := ⟨_, rfl⟩
                    have HSV := hidden (show (if 1 < k then S - min (pn C (j + 1)) S else S : Nat) = sv by
                      rw [← hsv]
                      split
                      · rw [HP.out]; omega
                      · rfl)
                    have HF := hidden (show Af (wr.setCell ⟨lb, j, none⟩ (.int .i64 (k : Int))) lb n (fun q => if q < j + 1 then (lnK C k S q : Int) else 0) by
                      refine (HJ.out.1.set j (k : Int)).congr (fun q hq => ?_)
                      unfold upd
                      by_cases e : q = j
                      · subst e; rw [if_pos rfl, if_pos (by omega), HV.out]
                      · rw [if_neg e]
                        show (if q < j then (lnK C k S q : Int) else 0) = if q < j + 1 then (lnK C k S q : Int) else 0
                        by_cases e2 : q < j
                        · rw [if_pos e2, if_pos (by omega)]
                        · rw [if_neg e2, if_neg (by omega)])
                    have HF2 := hidden (show Step (fun _ => False) w (wr.setCell ⟨lb, j, none⟩ (.int .i64 (k : Int))) from HJ.out.2.setCell _ _ (.inr HLB.out))
                    rw [hsv]
                    by_cases hk2 : 1 < k
                    · have s0 : sv = 0 := by rw [if_pos hk2] at hsv; omega
                      subst s0
                      clear hz hx0 hsv hsh
                      generalize C.getD j 0 = x at *
                      go_wp2
                      go_roundw
                      case rel => exact ⟨j + 1, by omega, by go_num, by rw [HSV.out], HF.out, HF2.out⟩
                      case measure => simp [intOf]; omega
                    · have k1 : ¬ (1 : Int) < (k : Int) := by omega
                      have hsb : sv ≤ 512 := by rw [if_neg hk2] at hsv; omega
                      clear hz hx0 hsv hsh
                      generalize C.getD j 0 = x at *
                      by_cases s0 : sv = 0
                      · subst s0
                        go_wp2
                        go_roundw
                        case rel => exact ⟨j + 1, by omega, by go_num, by rw [HSV.out], HF.out, HF2.out⟩
                        case measure => simp [intOf]; omega
                      · have s1 : (0 : Int) < (sv : Int) := by omega
                        go_wp2
                        go_roundw
                        case rel => exact ⟨j + 1, by omega, by go_num, by rw [HSV.out], HF.out, HF2.out⟩
                        case measure => simp [intOf]; omega
            · have e : j = n := by omega
              have j1 : ¬ (j : Int) < (n : Int) := by omega
              have HFI := hidden (show Ri wr (.slice (some ⟨lb, 0, none⟩) n n) (lnI C k S) by
                refine HJ.out.1.ri (by rw [lnI_length, Hn.out]) (Nat.le_refl _) (fun q hq => ?_)
                rw [lnI_getD C k S q (by have := Hn.out; omega), if_pos (by omega)])
              clear e
              generalize (if 1 < k then S - min (pn C j) S else S : Nat) = sv at *
              go_wp2
              go_ret
              exact ⟨lb, rfl, k, S, hidden ⟨HFI.out, HLB.out, hk1, by omega, HNEW.out, HJ.out.2⟩⟩

end Go.Proofs.YtkaibpibnkmmbaaDoor
