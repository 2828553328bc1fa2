/-
  The page's Next.
-/
import Derived.Test.YtinncakendfklaaDoorHReadN
namespace Go.Proofs.YtinncakendfklaaDoor
open Go.RowKit
set_option maxRecDepth 100000
set_option linter.unusedVariables false

theorem RDec.s2 {w : World} {d : Nat} {L : List Int} {vc vl : Value} {code n : Nat} (h : RDec w d L vc vl code n) (x : Int) (code' : Nat) (hx : x = (code' : Int)) : RDec (w.setCell ⟨d, 2, none⟩ (.int .i64 x)) d L vc vl code' n := by
  subst hx
  exact ⟨oth h.c0 (by omega), oth h.c1 (by omega), sam h.c2, oth h.c3 (by omega), h.rc.far _ _ (fun p n c ne e => by have := h.nc p n c e ne; show p.block ≠ d; omega), h.rl.far _ _ (fun p n c ne e => by have := h.nl p n c e ne; show p.block ≠ d; omega),
    by rw [World.frozen?_setCell]; exact h.f2, by rw [World.frozen?_setCell]; exact h.f3, h.nc, h.nl⟩
theorem RDec.s3 {w : World} {d : Nat} {L : List Int} {vc vl : Value} {code n : Nat} (h : RDec w d L vc vl code n) (x : Int) (n' : Nat) (hx : x = (n' : Int)) : RDec (w.setCell ⟨d, 3, none⟩ (.int .i64 x)) d L vc vl code n' := by
  subst hx
  exact ⟨oth h.c0 (by omega), oth h.c1 (by omega), oth h.c2 (by omega), sam h.c3, h.rc.far _ _ (fun p n c ne e => by have := h.nc p n c e ne; show p.block ≠ d; omega), h.rl.far _ _ (fun p n c ne e => by have := h.nl p n c e ne; show p.block ≠ d; omega),
    by rw [World.frozen?_setCell]; exact h.f2, by rw [World.frozen?_setCell]; exact h.f3, h.nc, h.nl⟩
theorem RDec.drewN {w : World} {d : Nat} {L : List Int} {vc vl : Value} {code n : Nat} (h : RDec w d L vc vl code n) (q : Nat) : RDec (w.drewN q) d L vc vl code n := ⟨h.c0, h.c1, h.c2, h.c3, h.rc, h.rl, h.f2, h.f3, h.nc, h.nl⟩
theorem RDec.reset {w : World} {d : Nat} {L : List Int} {vc vl : Value} {code n : Nat} (h : RDec w d L vc vl code n) : RDec ((w.setCell ⟨d, 2, none⟩ (.int .i64 0)).setCell ⟨d, 3, none⟩ (.int .i64 0)) d L vc vl 0 0 := (h.s2 0 0 rfl).s3 0 0 rfl

set_option maxHeartbeats 1000000 in
theorem refNext_any (w : World) (d : Nat) (L : List Int) (vc vl : Value) (code n : Nat) (b : Int) (h : RDec w d L vc vl code n) (hn : n ≤ 14) (hc : code ≤ 100000) (hL : L.length ≤ 320) (hok : ∀ x ∈ L, 0 ≤ x ∧ x ≤ 15) :
    Calls Tryd.prog 65 #[.pointer (some ⟨d, 0, none⟩), .int .i64 b] w fun e w' => ∃ r c l, e = .returned (.int .i64 r) ∧ RNextR L (2 * code + bitOf b) (n + 1) r c l ∧ RDec w' d L vc vl c l ∧ Step (fun k => k = d) w w' := by
  have HF := hidden h
  have HOK := hidden hok
  obtain ⟨c0, c1, c2, c3, rc, rl, f2, f3, _, _⟩ := h
  obtain ⟨ac, kc, hvc, _⟩ := rc
  obtain ⟨al, kl, hvl, _⟩ := rl
  subst hvc
  subst hvl
  rw [codes_length] at c0 HF ⊢
  obtain ⟨m, hm⟩ : ∃ m, m = L.length := ⟨_, rfl⟩
  have Hm := hidden hm
  rw [← hm] at c0 c1 HF hL ⊢
  have hC0 : 2 * code + bitOf b ≤ 200001 := by unfold bitOf; split <;> omega
  obtain ⟨C, hC⟩ : ∃ C, C = 2 * code + bitOf b := ⟨_, rfl⟩
  obtain ⟨N, hN⟩ : ∃ N, N = n + 1 := ⟨_, rfl⟩
  have HC := hidden hC
  have HN := hidden hN
  rw [← hC, ← hN]
  have hCb : C ≤ 200001 := by omega
  have hN15 : N ≤ 15 := by omega
  clear hok hm hC hN
  by_cases hb : b = 0
  · subst hb
    have hbb : ((0 : Int) != 0) = false := rfl
    go_enter Tryd.func65, Tryd.ntmps65
    go_wp2
    obtain ⟨W1, hW1⟩ : ∃ W1, W1 = (w.setCell ⟨d, 2, none⟩ (.int .i64 ((code : Int) * 2))).setCell ⟨d, 3, none⟩ (.int .i64 ((n : Int) + 1)) := ⟨_, rfl⟩
    have hD1 : RDec W1 d L (.slice ac m kc) (.slice al m kl) C N := by rw [hW1]; exact (HF.out.s2 _ C (by rw [HC.out]; simp [bitOf]; omega)).s3 _ N (by rw [HN.out]; omega)
    have hS1 : Step (fun k => k = d) w W1 := by rw [hW1]; exact ((Step.refl (fun k => k = d) w).setCell ⟨d, 2, none⟩ _ (.inl rfl)).setCell ⟨d, 3, none⟩ _ (.inl rfl)
    rw [← hW1]
    clear hW1 c0 c1 c2 c3 f2 f3
    have HD := hidden hD1
    have hst := hS1
    have HS := hidden hst
    have c0 := hD1.c0
    have c1 := hD1.c1
    have c2 := hD1.c2
    have c3 := hD1.c3
    have f2 := hD1.f2
    have f3 := hD1.f3
    clear hD1 hS1 hst HF
    go_loopw [5, 6, 7] (fun g iv _ wr => ∃ i : Nat, i ≤ m ∧ iv = .int .i64 (i : Int) ∧ g = .bool (lg L C N i) ∧ (∃ q, wr = W1.drewN q) ∧ Hid (noHit L C N i)) (fun _ iv _ _ => m - (intOf iv).toNat)
    case atStart => exact ⟨0, Nat.zero_le _, rfl, rfl, ⟨0, rfl⟩, fun j hj => by omega⟩
    case round =>
      obtain ⟨i, hi, rfl, rfl, ⟨q, rfl⟩, hno⟩ := hrel
      by_cases him : i < m
      · have hiL : i < L.length := by have := Hm.out; omega
        obtain ⟨ba, oa, rfl, ka⟩ : ∃ ba oa, al = some ⟨ba, oa, none⟩ ∧ ∀ k, k < L.length → W1.cell? ⟨ba, oa + k, none⟩ = some (.int .i64 (L.getD k 0)) := by
          obtain ⟨ao, c, e, _, r1, r2⟩ := HD.out.rl
          injection e with e1
          cases al with
          | none => have := (r1 e1.symm).1; subst this; simp at hiL
          | some a => obtain ⟨b, o, rfl, hc⟩ := r2 a e1.symm (by intro e; subst e; simp at hiL); exact ⟨b, o, rfl, hc⟩
        obtain ⟨bc, oc, rfl, kcc⟩ : ∃ bc oc, ac = some ⟨bc, oc, none⟩ ∧ ∀ k, k < (codes L).length → W1.cell? ⟨bc, oc + k, none⟩ = some (.int .i64 ((codes L).getD k 0)) := by
          have hcl : (codes L).length = L.length := codes_length L
          obtain ⟨ao, c, e, _, r1, r2⟩ := HD.out.rc
          injection e with e1
          cases ac with
          | none => have := (r1 e1.symm).1; rw [this] at hcl; simp at hcl; omega
          | some a => obtain ⟨b, o, rfl, hc⟩ := r2 a e1.symm (by intro e; rw [e] at hcl; simp at hcl; omega); exact ⟨b, o, rfl, hc⟩
        have li := ka i hiL
        have ci := kcc i (by rw [codes_length]; exact hiL)
        rw [codes_getD L i hiL] at ci
        have hx := HOK.out (L.getD i 0) (by rw [getD_i L i hiL]; exact List.getElem_mem hiL)
        obtain ⟨x, ex⟩ := Int.eq_ofNat_of_zero_le hx.1
        have cnn := codeOf_nonneg L i
        have HLG := hidden (show lg L C N (i + 1) = (lg L C N i || (decide ((N : Int) < L.getD i 0) && decide (codeOf L i / 2 ^ ((L.getD i 0).toNat - N) = (C : Int)))) from rfl)
        have HNO := hidden (fun (h : ¬ (L.getD i 0 = (N : Int) ∧ codeOf L i = (C : Int))) => show noHit L C N (i + 1) from fun j hj => by
          by_cases e : j = i
          · rw [e]; exact h
          · exact hno.out j (by omega))
        have HIL := hidden hiL
        have HEX := hidden ex
        have x15 := hx.2
        rw [ex] at li x15 HLG HNO
        rw [Int.toNat_natCast] at HLG
        have i1 : (i : Int) < (m : Int) := by omega
        clear ka kcc hx ex hiL
        generalize hcv : codeOf L i = cv at *
        have HCV := hidden hcv
        clear hcv
        by_cases hxN : x = N
        · have bx : ((x : Int) == (N : Int)) = true := by simp [hxN]
          have bx2 : decide ((N : Int) < (x : Int)) = false := by simp; omega
          have bx3 : decide (N < x) = false := by simp; omega
          have bx4 : ¬ (N < x) := by omega
          have hxle : (x : Int) ≤ (N : Int) := by omega
          by_cases hc : cv = (C : Int)
          · have bc : (cv == (C : Int)) = true := by simp [hc]
            have HHIT := hidden (show RNextR L C N (i : Int) 0 0 from .inl ⟨i, HIL.out, by rw [HEX.out, hxN], by rw [HCV.out, hc], rfl, rfl, rfl⟩)
            have HEND := hidden (fun q => (HD.out.drewN q).reset)
            clear hc hxN
            go_wp2
            go_quiet (fail)
            go_wp2
            go_ret
            exact ⟨_, _, _, rfl, HHIT.out, HEND.out _, ((HS.out.drewN _).setCell ⟨d, 2, none⟩ _ (.inl rfl)).setCell ⟨d, 3, none⟩ _ (.inl rfl)⟩
          · have bc : (cv == (C : Int)) = false := by rw [beq_eq_false_iff_ne]; exact hc
            have HN1 := hidden (HNO.out (by rintro ⟨_, h⟩; exact hc h))
            have HL1 := hidden (show lg L C N (i + 1) = lg L C N i by rw [HLG.out, decide_eq_false (by omega)]; simp)
            clear hc hxN
            cases hlg : lg L C N i with
            | true =>
              have HLL := hidden hlg
              clear hlg
              go_wp2
              go_quiet (fail)
              go_wp2
              go_quiet (fail)
              go_wp2
              go_roundw
              case rel => exact ⟨i + 1, by omega, by go_num, by rw [HL1.out, HLL.out], ⟨_, rfl⟩, HN1.out⟩
              case measure => simp [intOf]; omega
            | false =>
              have HLL := hidden hlg
              clear hlg
              go_wp2
              go_quiet (fail)
              go_wp2
              go_quiet (fail)
              go_wp2
              go_roundw
              case rel => exact ⟨i + 1, by omega, by go_num, by rw [HL1.out, HLL.out], ⟨_, rfl⟩, HN1.out⟩
              case measure => simp [intOf]; omega
        · have bx : ((x : Int) == (N : Int)) = false := by rw [beq_eq_false_iff_ne]; omega
          have HN1 := hidden (HNO.out (by rintro ⟨h, _⟩; omega))
          cases hlg : lg L C N i with
          | true =>
              have HL1 := hidden (show lg L C N (i + 1) = true by rw [HLG.out, hlg]; rfl)
              clear hlg
              go_wp2
              go_quiet (fail)
              go_wp2
              go_quiet (fail)
              go_wp2
              go_roundw
              case rel => exact ⟨i + 1, by omega, by go_num, by rw [HL1.out], ⟨_, rfl⟩, HN1.out⟩
              case measure => simp [intOf]; omega
          | false =>
            by_cases hlt : N < x
            · have bl : decide (N < x) = true := by simpa using hlt
              have hsub : (x : Int) - (N : Int) = ((x - N : Nat) : Int) := by omega
              have HL1 := hidden (show lg L C N (i + 1) = decide (cv / 2 ^ (x - N) = (C : Int)) by rw [HLG.out, hlg, decide_eq_true (by omega)]; simp)
              clear hlg
              go_wp2
              go_quiet (fail)
              go_wp2
              go_quiet (fail)
              go_wp2
              go_roundw
              case rel => exact ⟨i + 1, by omega, by go_num, by rw [HL1.out]; rfl, ⟨_, rfl⟩, HN1.out⟩
              case measure => simp [intOf]; omega
            · have bl : decide (N < x) = false := by simpa using hlt
              have HL1 := hidden (show lg L C N (i + 1) = false by rw [HLG.out, hlg, decide_eq_false (by omega)]; rfl)
              clear hlg
              go_wp2
              go_quiet (fail)
              go_wp2
              go_quiet (fail)
              go_wp2
              go_roundw
              case rel => exact ⟨i + 1, by omega, by go_num, by rw [HL1.out], ⟨_, rfl⟩, HN1.out⟩
              case measure => simp [intOf]; omega
      · have hLm : i = m := by omega
        subst hLm
        have bim : ¬ ((i : Int) < (i : Int)) := by omega
        have HHM := Hm
        cases hlg : lg L C N i with
        | true =>
          have HHIT := hidden (show RNextR L C N (-1) C N from .inr (.inl ⟨by rw [← HHM.out]; exact hno.out, by rw [← HHM.out]; exact hlg, rfl, rfl, rfl⟩))
          clear hlg
          go_wp2
          go_ret
          exact ⟨_, rfl, _, _, HHIT.out, HD.out.drewN _, HS.out.drewN _⟩
        | false =>
          have HHIT := hidden (show RNextR L C N (-2) 0 0 from .inr (.inr ⟨by rw [← HHM.out]; exact hno.out, by rw [← HHM.out]; exact hlg, rfl, rfl, rfl⟩))
          have HEND := hidden (fun q => (HD.out.drewN q).reset)
          clear hlg
          go_wp2
          go_ret
          exact ⟨_, rfl, _, _, HHIT.out, HEND.out _, ((HS.out.drewN _).setCell ⟨d, 2, none⟩ _ (.inl rfl)).setCell ⟨d, 3, none⟩ _ (.inl rfl)⟩
  · have hbb : (b != 0) = true := by simpa using hb
    have HB := hidden hb
    clear hb
    go_enter Tryd.func65, Tryd.ntmps65
    go_wp2
    obtain ⟨W1, hW1⟩ : ∃ W1, W1 = ((w.setCell ⟨d, 2, none⟩ (.int .i64 ((code : Int) * 2))).setCell ⟨d, 2, none⟩ (.int .i64 ((code : Int) * 2 + 1))).setCell ⟨d, 3, none⟩ (.int .i64 ((n : Int) + 1)) := ⟨_, rfl⟩
    have hD1 : RDec W1 d L (.slice ac m kc) (.slice al m kl) C N := by rw [hW1]; exact ((HF.out.s2 _ (2 * code) (by omega)).s2 _ C (by rw [HC.out]; simp [bitOf, HB.out]; omega)).s3 _ N (by rw [HN.out]; omega)
    have hS1 : Step (fun k => k = d) w W1 := by rw [hW1]; exact (((Step.refl (fun k => k = d) w).setCell ⟨d, 2, none⟩ _ (.inl rfl)).setCell ⟨d, 2, none⟩ _ (.inl rfl)).setCell ⟨d, 3, none⟩ _ (.inl rfl)
    rw [← hW1]
    clear hW1 c0 c1 c2 c3 f2 f3
    have HD := hidden hD1
    have hst := hS1
    have HS := hidden hst
    have c0 := hD1.c0
    have c1 := hD1.c1
    have c2 := hD1.c2
    have c3 := hD1.c3
    have f2 := hD1.f2
    have f3 := hD1.f3
    clear hD1 hS1 hst HF
    go_loopw [5, 6, 7] (fun g iv _ wr => ∃ i : Nat, i ≤ m ∧ iv = .int .i64 (i : Int) ∧ g = .bool (lg L C N i) ∧ (∃ q, wr = W1.drewN q) ∧ Hid (noHit L C N i)) (fun _ iv _ _ => m - (intOf iv).toNat)
    case atStart => exact ⟨0, Nat.zero_le _, rfl, rfl, ⟨0, rfl⟩, fun j hj => by omega⟩
    case round =>
      obtain ⟨i, hi, rfl, rfl, ⟨q, rfl⟩, hno⟩ := hrel
      by_cases him : i < m
      · have hiL : i < L.length := by have := Hm.out; omega
        obtain ⟨ba, oa, rfl, ka⟩ : ∃ ba oa, al = some ⟨ba, oa, none⟩ ∧ ∀ k, k < L.length → W1.cell? ⟨ba, oa + k, none⟩ = some (.int .i64 (L.getD k 0)) := by
          obtain ⟨ao, c, e, _, r1, r2⟩ := HD.out.rl
          injection e with e1
          cases al with
          | none => have := (r1 e1.symm).1; subst this; simp at hiL
          | some a => obtain ⟨b, o, rfl, hc⟩ := r2 a e1.symm (by intro e; subst e; simp at hiL); exact ⟨b, o, rfl, hc⟩
        obtain ⟨bc, oc, rfl, kcc⟩ : ∃ bc oc, ac = some ⟨bc, oc, none⟩ ∧ ∀ k, k < (codes L).length → W1.cell? ⟨bc, oc + k, none⟩ = some (.int .i64 ((codes L).getD k 0)) := by
          have hcl : (codes L).length = L.length := codes_length L
          obtain ⟨ao, c, e, _, r1, r2⟩ := HD.out.rc
          injection e with e1
          cases ac with
          | none => have := (r1 e1.symm).1; rw [this] at hcl; simp at hcl; omega
          | some a => obtain ⟨b, o, rfl, hc⟩ := r2 a e1.symm (by intro e; rw [e] at hcl; simp at hcl; omega); exact ⟨b, o, rfl, hc⟩
        have li := ka i hiL
        have ci := kcc i (by rw [codes_length]; exact hiL)
        rw [codes_getD L i hiL] at ci
        have hx := HOK.out (L.getD i 0) (by rw [getD_i L i hiL]; exact List.getElem_mem hiL)
        obtain ⟨x, ex⟩ := Int.eq_ofNat_of_zero_le hx.1
        have cnn := codeOf_nonneg L i
        have HLG := hidden (show lg L C N (i + 1) = (lg L C N i || (decide ((N : Int) < L.getD i 0) && decide (codeOf L i / 2 ^ ((L.getD i 0).toNat - N) = (C : Int)))) from rfl)
        have HNO := hidden (fun (h : ¬ (L.getD i 0 = (N : Int) ∧ codeOf L i = (C : Int))) => show noHit L C N (i + 1) from fun j hj => by
          by_cases e : j = i
          · rw [e]; exact h
          · exact hno.out j (by omega))
        have HIL := hidden hiL
        have HEX := hidden ex
        have x15 := hx.2
        rw [ex] at li x15 HLG HNO
        rw [Int.toNat_natCast] at HLG
        have i1 : (i : Int) < (m : Int) := by omega
        clear ka kcc hx ex hiL
        generalize hcv : codeOf L i = cv at *
        have HCV := hidden hcv
        clear hcv
        by_cases hxN : x = N
        · have bx : ((x : Int) == (N : Int)) = true := by simp [hxN]
          have bx2 : decide ((N : Int) < (x : Int)) = false := by simp; omega
          have bx3 : decide (N < x) = false := by simp; omega
          have bx4 : ¬ (N < x) := by omega
          have hxle : (x : Int) ≤ (N : Int) := by omega
          by_cases hc : cv = (C : Int)
          · have bc : (cv == (C : Int)) = true := by simp [hc]
            have HHIT := hidden (show RNextR L C N (i : Int) 0 0 from .inl ⟨i, HIL.out, by rw [HEX.out, hxN], by rw [HCV.out, hc], rfl, rfl, rfl⟩)
            have HEND := hidden (fun q => (HD.out.drewN q).reset)
            clear hc hxN
            go_wp2
            go_quiet (fail)
            go_wp2
            go_ret
            exact ⟨_, _, _, rfl, HHIT.out, HEND.out _, ((HS.out.drewN _).setCell ⟨d, 2, none⟩ _ (.inl rfl)).setCell ⟨d, 3, none⟩ _ (.inl rfl)⟩
          · have bc : (cv == (C : Int)) = false := by rw [beq_eq_false_iff_ne]; exact hc
            have HN1 := hidden (HNO.out (by rintro ⟨_, h⟩; exact hc h))
            have HL1 := hidden (show lg L C N (i + 1) = lg L C N i by rw [HLG.out, decide_eq_false (by omega)]; simp)
            clear hc hxN
            cases hlg : lg L C N i with
            | true =>
              have HLL := hidden hlg
              clear hlg
              go_wp2
              go_quiet (fail)
              go_wp2
              go_quiet (fail)
              go_wp2
              go_roundw
              case rel => exact ⟨i + 1, by omega, by go_num, by rw [HL1.out, HLL.out], ⟨_, rfl⟩, HN1.out⟩
              case measure => simp [intOf]; omega
            | false =>
              have HLL := hidden hlg
              clear hlg
              go_wp2
              go_quiet (fail)
              go_wp2
              go_quiet (fail)
              go_wp2
              go_roundw
              case rel => exact ⟨i + 1, by omega, by go_num, by rw [HL1.out, HLL.out], ⟨_, rfl⟩, HN1.out⟩
              case measure => simp [intOf]; omega
        · have bx : ((x : Int) == (N : Int)) = false := by rw [beq_eq_false_iff_ne]; omega
          have HN1 := hidden (HNO.out (by rintro ⟨h, _⟩; omega))
          cases hlg : lg L C N i with
          | true =>
              have HL1 := hidden (show lg L C N (i + 1) = true by rw [HLG.out, hlg]; rfl)
              clear hlg
              go_wp2
              go_quiet (fail)
              go_wp2
              go_quiet (fail)
              go_wp2
              go_roundw
              case rel => exact ⟨i + 1, by omega, by go_num, by rw [HL1.out], ⟨_, rfl⟩, HN1.out⟩
              case measure => simp [intOf]; omega
          | false =>
            by_cases hlt : N < x
            · have bl : decide (N < x) = true := by simpa using hlt
              have hsub : (x : Int) - (N : Int) = ((x - N : Nat) : Int) := by omega
              have HL1 := hidden (show lg L C N (i + 1) = decide (cv / 2 ^ (x - N) = (C : Int)) by rw [HLG.out, hlg, decide_eq_true (by omega)]; simp)
              clear hlg
              go_wp2
              go_quiet (fail)
              go_wp2
              go_quiet (fail)
              go_wp2
              go_roundw
              case rel => exact ⟨i + 1, by omega, by go_num, by rw [HL1.out]; rfl, ⟨_, rfl⟩, HN1.out⟩
              case measure => simp [intOf]; omega
            · have bl : decide (N < x) = false := by simpa using hlt
              have HL1 := hidden (show lg L C N (i + 1) = false by rw [HLG.out, hlg, decide_eq_false (by omega)]; rfl)
              clear hlg
              go_wp2
              go_quiet (fail)
              go_wp2
              go_quiet (fail)
              go_wp2
              go_roundw
              case rel => exact ⟨i + 1, by omega, by go_num, by rw [HL1.out], ⟨_, rfl⟩, HN1.out⟩
              case measure => simp [intOf]; omega
      · have hLm : i = m := by omega
        subst hLm
        have bim : ¬ ((i : Int) < (i : Int)) := by omega
        have HHM := Hm
        cases hlg : lg L C N i with
        | true =>
          have HHIT := hidden (show RNextR L C N (-1) C N from .inr (.inl ⟨by rw [← HHM.out]; exact hno.out, by rw [← HHM.out]; exact hlg, rfl, rfl, rfl⟩))
          clear hlg
          go_wp2
          go_ret
          exact ⟨_, rfl, _, _, HHIT.out, HD.out.drewN _, HS.out.drewN _⟩
        | false =>
          have HHIT := hidden (show RNextR L C N (-2) 0 0 from .inr (.inr ⟨by rw [← HHM.out]; exact hno.out, by rw [← HHM.out]; exact hlg, rfl, rfl, rfl⟩))
          have HEND := hidden (fun q => (HD.out.drewN q).reset)
          clear hlg
          go_wp2
          go_ret
          exact ⟨_, rfl, _, _, HHIT.out, HEND.out _, ((HS.out.drewN _).setCell ⟨d, 2, none⟩ _ (.inl rfl)).setCell ⟨d, 3, none⟩ _ (.inl rfl)⟩


end Go.Proofs.YtinncakendfklaaDoor
