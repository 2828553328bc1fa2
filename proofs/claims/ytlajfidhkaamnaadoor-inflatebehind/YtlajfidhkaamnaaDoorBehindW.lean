/-
  The walk of the law on what stands behind a stream.
-/
import Derived.Test.YtlajfidhkaamnaaDoorILaw
import Derived.Test.YtlajfidhkaamnaaDoorAppRd
namespace Go.Proofs.YtlajfidhkaamnaaDoor
open Go.RowKit
set_option maxRecDepth 100000
set_option linter.unusedVariables false

/-- Bytes of a Writer of the page and others behind them read as a stream. -/
theorem read_behind (w : World) (P R : List Nat) (hP : ∀ c ∈ P, c < 256) (hR : ∀ y ∈ R, y < 256) (v : Value) (ps : List (Nat × Nat)) (hps : ps = laidP P 0 1) (G : Nat) (hG : (pcL ps + 7) / 8 = G) (hv : Rd w v (bytesOf (pcN ps) G ++ R)) (hl : P.length + R.length ≤ 3000) :
    Calls Tryd.prog 12 #[v, .int .i64 3000] w fun e w' => ∃ ao c, e = .returned (.tuple #[.slice ao P.length c, .int .i64 (G : Int), .int .i64 0]) ∧ Hid (Rd w' (.slice ao P.length c) P ∧ Step (fun _ => False) w w') := by
  subst hG
  subst hps
  have hL := laidP_len P 0 1
  have hT := laidT_len 0 1 (.inl rfl)
  rw [if_pos rfl] at hT
  have h9 := lits_len P
  rw [bytes_behind _ _ R (pcN_lt8 (laidP_ok P 0 1)) hR] at hv
  refine (bytes_any v _ _ 3000 0 _ w hv (by omega) (by omega) (by omega) (blk_laid P 0 1 0 [] hP (.inl rfl) (by omega) (by omega) (Bt.behind (laidP_ok P 0 1) _ _ (by omega)) (by omega) (by simp) 0)).mono fun e w' ⟨hs, h2⟩ => ?_
  rw [List.nil_append] at h2
  unfold laidR at h2
  rw [if_neg (by omega), if_pos rfl] at h2
  obtain ⟨v', he, hr, _⟩ := h2
  obtain ⟨ao, c, rfl, _⟩ := id hr
  rw [Nat.zero_add] at he
  exact ⟨ao, c, he, hr, hs⟩

set_option maxHeartbeats 4000000 in
theorem behind_in (aa ab : Option Addr) (ca cb : Nat) (A B : List Nat) (w : World) (hA : ∀ x ∈ A, x < 256) (hB : ∀ x ∈ B, x < 256) (ra : Rd w (.slice aa A.length ca) A) (rb : Rd w (.slice ab B.length cb) B) (hl : A.length + B.length ≤ 3000) :
    Calls Tryd.prog 8 #[.slice aa A.length ca, .slice ab B.length cb] w fun e w' => e = .returned (.bool true) ∧ Step (fun _ => False) w w' := by
  obtain ⟨ps, hps⟩ : ∃ ps, ps = laidP A 0 1 := ⟨_, rfl⟩
  obtain ⟨G, hG⟩ : ∃ G, (pcL ps + 7) / 8 = G := ⟨_, rfl⟩
  have HL := hidden (laid_any _ A 0 1 w ra hA (by omega) (.inl rfl) (by omega) (by omega) ps hps)
  rw [hG] at HL
  have HRB := hidden (fun W v hv => read_behind W A B hA hB v ps hps G hG hv hl)
  have hGb : G ≤ 10000 := by
    rw [← hG, hps, laidP_len, laidT_len 0 1 (.inl rfl), if_pos rfl]
    have := lits_len A
    omega
  have HSM := hidden (fun W ao c hx => same_eq (.slice ao A.length c) (.slice aa A.length ca) A W hx)
  have HRa := hidden ra
  have HRb := hidden rb
  obtain ⟨m, hm⟩ : ∃ m, A.length = m := ⟨_, rfl⟩
  obtain ⟨n, hn⟩ : ∃ n, B.length = n := ⟨_, rfl⟩
  rw [hm] at HL HRB HSM HRa
  rw [hn] at HRb
  rw [hm, hn] at hl ⊢
  have Hm := hidden hm
  have Hn := hidden hn
  clear hA hB ra rb hm hn hps hG
  go_enter Tryd.func8, Tryd.ntmps8
  go_wp2_with fail
  refine HL.out.mono ?_
  rintro e w1 ⟨ao1, c1, rfl, W1⟩
  have hown := hidden (show (w1.alloc (.cells #[] 5)).ownsRow 0 5 1 (.slice (some ⟨w1.heap.size, 0, none⟩) 0 0) 0 (u8s []) by
    have := World.ownsRow_lit (base := 0) (e := 5) (size := 1) w1 #[] 0 (Nat.zero_le _) (Nat.zero_le _) rfl
    simpa [u8s] using this)
  have HR1 := hidden ((Rd.of_own W1.out.1).step ((Step.refl (fun _ => False) w1).alloc (.cells #[] 5)) (fun _ _ _ _ _ h => h))
  go_wp2_with (at_builtin; refine append_bytes rfl (.tmp 18) (.tmp 19) rfl _ _ _ rfl hown.out _ _ rfl HR1.out ?b1 ?_)
  case b1 => rw [bytesOf_length]; omega
  intro v2 w2 ho2 hg2 hb2
  rw [bytesOf_length] at ho2
  have hn2 : ∀ g, v2.ownBlock = some g → w1.heap.size ≤ g := by
    intro g hg
    rcases hb2 with e | e
    · rw [e] at hg; simp [Value.ownBlock] at hg; omega
    · rw [e] at hg; have := Option.some.inj hg; simp at *; omega
  have S2 : Step (fun _ => False) w1 w2 := ((Step.refl _ _).alloc _).grown hg2 (fun k hk => .inr (by simp [Value.ownBlock] at hk; omega))
  have HO2 := hidden ho2
  have HN2 := hidden hn2
  have HS2 := hidden S2
  have HRb2 := hidden (HRb.out.step (W1.out.2.1.made S2) (fun _ _ _ _ _ h => h))
  clear ho2 hg2 hb2 hn2 S2
  go_wp2_with (at_builtin; refine append_bytes rfl (.tmp 20) (.tmp 21) rfl _ _ _ rfl HO2.out _ B rfl HRb2.out ?b2 ?_)
  case b2 => have := Hn.out; omega
  intro v3 w3 ho3 hg3 hb3
  have HRD := hidden (Rd.of_own ho3)
  obtain ⟨va, vc, hv3⟩ := own_slice ho3
  subst hv3
  have HS3 := hidden (W1.out.2.1.made (HS2.out.grown hg3 (fun k hk => .inr (HN2.out k hk))))
  clear ho3 hg3 hb3
  go_wp2_with fail
  refine (HRB.out _ _ HRD.out).mono ?_
  rintro e w4 ⟨ao4, c4, rfl, W4⟩
  have HC := hidden (HSM.out w4 ao4 c4 W4.out.1 (HRa.out.step (HS3.out.made W4.out.2) (fun _ _ _ _ _ h => h)) (by have := Hm.out; omega))
  go_wp2_with fail
  refine HC.out.mono ?_
  rintro e w5 ⟨rfl, W5⟩
  have HS5 : Hid (Step (fun _ => False) w w5) := hidden ((HS3.out.made W4.out.2).made W5.out)
  go_wp2_with fail
  refine (known_any w5).mono ?_
  rintro e w6 ⟨rfl, hk⟩
  have HS6 := hidden (HS5.out.made hk)
  clear hk
  go_wp2
  go_ret
  exact ⟨rfl, HS6.out⟩

set_option maxHeartbeats 1000000 in
theorem behind_out (aa ab : Option Addr) (m n ca cb : Nat) (w : World) (hm : m ≤ 140737488351232) (hn : n ≤ 140737488351232) (hl : 3000 < m + n) :
    Calls Tryd.prog 8 #[.slice aa m ca, .slice ab n cb] w fun e w' => e = .returned (.bool true) ∧ Step (fun _ => False) w w' := by
  have hd : (3000 : Int) < (m : Int) + (n : Int) := by omega
  go_enter Tryd.func8, Tryd.ntmps8
  go_wp2
  go_ret
  exact ⟨rfl, Step.refl _ _⟩

end Go.Proofs.YtlajfidhkaamnaaDoor
