/-
  The walk of the law on blocks of unlike kinds.
-/
import Derived.Test.YtlajfidhkaamnabDoorIStoN
import Derived.Test.YtlajfidhkaamnabDoorILaw
namespace Go.Proofs.YtlajfidhkaamnabDoor
open Go.RowKit
set_option maxRecDepth 100000
set_option linter.unusedVariables false

theorem numOf_bytesOf : ∀ (m N : Nat), N < 2 ^ (8 * m) → numOf (bytesOf N m) = N
  | 0, N, h => by simp at h; subst h; rfl
  | m + 1, N, h => by
    have e := bytesOf_cons (N % 256) (N / 256) m (Nat.mod_lt _ (by omega))
    rw [Nat.mod_add_div] at e
    rw [e, numOf_cons, numOf_bytesOf m (N / 256) (by
      rw [show 8 * (m + 1) = 8 + 8 * m by omega, Nat.pow_add] at h
      exact Nat.div_lt_of_lt_mul h)]
    omega

/-- The bytes of a stored block that is not the last one. -/
def storedC (P : List Nat) : List Nat := (storedB P).set 0 0

theorem storedC_eq (P : List Nat) (h : P.length ≤ 60000) : storedC P = 0 :: (P.length % 256) :: (P.length / 256) :: ((65535 - P.length) % 256) :: ((65535 - P.length) / 256) :: P := by
  unfold storedC
  rw [storedB_eq P h]
  rfl
theorem storedC_length (P : List Nat) : (storedC P).length = P.length + 5 := by unfold storedC; rw [List.length_set, storedB_length]
theorem storedC_by (P : List Nat) (h : P.length ≤ 60000) (hP : ∀ y ∈ P, y < 256) : ∀ y ∈ storedC P, y < 256 := by
  intro y hy
  rcases List.mem_or_eq_of_mem_set hy with h2 | h2
  · exact storedB_by P h hP y h2
  · omega

/-- A stored block and one by the fixed codes. -/
theorem two_blks {most : Int} (P R : List Nat) (far : Nat) (hP : ∀ y ∈ P, y < 256) (hR : ∀ y ∈ R, y < 256) (hl : P.length + R.length ≤ 3000) (hf1 : 1 ≤ far) (hf2 : far ≤ 4) (hmo : (P.length : Int) ≤ most) (ps : List (Nat × Nat)) (hps : ps = laidP R 3 far) (G : Nat) (hG : (pcL ps + 7) / 8 = G) :
    Blks (numOf (storedC P ++ bytesOf (pcN ps) G)) (P.length + 5 + G) most 1 0 [] (laidR (P ++ R) 3 far most (8 * (P.length + 5) + pcL ps)) := by
  have hok : pcOk ps := by rw [hps]; exact laidP_ok R 3 far
  have hN : numOf (storedC P ++ bytesOf (pcN ps) G) = numOf (storedC P) + pcN ps * 2 ^ (8 * (P.length + 5)) := by
    rw [numOf_append, storedC_length, numOf_bytesOf G (pcN ps) (by rw [← hG]; exact pcN_lt8 hok)]
  have hlt := numOf_lt (storedC P) (storedC_by P (by omega) hP)
  rw [storedC_length] at hlt
  obtain ⟨q1, q2, q3⟩ := sto_blk (M := numOf (storedC P ++ bytesOf (pcN ps) G)) (m := P.length + 5 + G) (h := 0) (a := P.length % 256) (b := P.length / 256) (c := (65535 - P.length) % 256) (d := (65535 - P.length) / 256) (most := most) (R := P ++ bytesOf (pcN ps) G) (by rw [storedC_eq P (by omega)]; rfl) (by rw [List.length_append, bytesOf_length]; omega) (by omega) (by omega) (by omega) (by omega) (by omega) (by
    intro y hy
    rcases List.mem_append.1 hy with h | h
    · exact hP y h
    · exact bytesOf_lt _ _ y h)
  have hsto : stoR (P.length % 256 + 256 * (P.length / 256)) ((65535 - P.length) % 256 + 256 * ((65535 - P.length) / 256)) (P ++ bytesOf (pcN ps) G) most = .ok (8 * (P.length + 5), P) := by
    unfold stoR
    rw [if_pos (by omega), show P.length % 256 + 256 * (P.length / 256) = P.length by omega, if_pos hmo, if_pos (by rw [List.length_append]; omega), List.take_left' rfl, show 40 + 8 * P.length = 8 * (P.length + 5) by omega]
  rw [hsto] at q3
  refine Blks.more (by omega) q2 q3 ?_
  rw [hps]
  refine blk_laid R 3 far (8 * (P.length + 5)) P hR (.inr ⟨by omega, by omega⟩) hf1 hf2 ?_ (by rw [← hps]; omega) hmo 0
  intro j hj _
  rw [← hps] at hj ⊢
  rw [hN, Nat.add_comm, Nat.mul_comm, Nat.testBit_two_pow_mul_add _ hlt, if_neg (by omega), Nat.add_sub_cancel_left]

theorem two_read (w : World) (P R : List Nat) (far : Nat) (hP : ∀ y ∈ P, y < 256) (hR : ∀ y ∈ R, y < 256) (hl : P.length + R.length ≤ 3000) (hf1 : 1 ≤ far) (hf2 : far ≤ 4) (ps : List (Nat × Nat)) (hps : ps = laidP R 3 far) (G : Nat) (hG : (pcL ps + 7) / 8 = G) (v : Value) (hv : Rd w v (storedC P ++ bytesOf (pcN ps) G)) :
    Calls Tryd.prog 8 #[v, .int .i64 6000] w (BytesE w (laidR (P ++ R) 3 far 6000 (8 * (P.length + 5) + pcL ps))) := by
  have hlen : (storedC P ++ bytesOf (pcN ps) G).length = P.length + 5 + G := by rw [List.length_append, storedC_length, bytesOf_length]
  have h9 := lits_len R
  have hL := laidP_len R 3 far
  rw [laidT_len 3 far (.inr ⟨by omega, by omega⟩), if_neg (by omega), ← hps] at hL
  refine bytes_any v (numOf (storedC P ++ bytesOf (pcN ps) G)) (P.length + 5 + G) 6000 1 _ w ?_ (by omega) (by omega) (by omega) (two_blks P R far hP hR hl hf1 hf2 (by omega) ps hps G hG)
  have := bytesOf_numOf (storedC P ++ bytesOf (pcN ps) G) (by
    intro y hy
    rcases List.mem_append.1 hy with h | h
    · exact storedC_by P (by omega) hP y h
    · exact bytesOf_lt _ _ y h)
  rw [hlen] at this
  rw [this]
  exact hv

theorem two_ok (w : World) (P R : List Nat) (far : Nat) (hP : ∀ y ∈ P, y < 256) (hR : ∀ y ∈ R, y < 256) (hl : P.length + R.length ≤ 3000) (hf1 : 1 ≤ far) (hf2 : far ≤ 4) (ps : List (Nat × Nat)) (hps : ps = laidP R 3 far) (G : Nat) (hG : (pcL ps + 7) / 8 = G) (v : Value) (hv : Rd w v (storedC P ++ bytesOf (pcN ps) G)) (hfit : far ≤ P.length + R.length) (m z : Nat) (hm : P.length = m) (hz : z = P.length + R.length + 3) :
    Calls Tryd.prog 8 #[v, .int .i64 6000] w fun e w' => ∃ ao c, e = .returned (.tuple #[.slice ao z c, .int .i64 ((m : Int) + 5 + (G : Int)), .int .i64 0]) ∧ Hid (Rd w' (.slice ao z c) (copyP (P ++ R) far 3) ∧ Step (fun _ => False) w w') := by
  subst hm
  refine (two_read w P R far hP hR hl hf1 hf2 ps hps G hG v hv).mono fun e w' ⟨hs, h2⟩ => ?_
  have hR2 : laidR (P ++ R) 3 far 6000 (8 * (P.length + 5) + pcL ps) = .ok (8 * (P.length + 5) + pcL ps, copyP (P ++ R) far 3) := by
    unfold laidR
    have : (P ++ R).length = P.length + R.length := List.length_append
    rw [if_neg (by omega), if_neg (by omega), if_neg (by omega), if_pos (by omega)]
  rw [hR2] at h2
  obtain ⟨v', he, hr, _⟩ := h2
  obtain ⟨ao, c, hv', h3⟩ := id hr
  have hlen : (copyP (P ++ R) far 3).length = z := by rw [copyP_length, List.length_append, hz]
  rw [hlen] at hv'
  subst hv'
  refine ⟨ao, c, ?_, hr, hs⟩
  rw [he, show (((8 * (P.length + 5) + pcL ps + 7) / 8 : Nat) : Int) = (P.length : Int) + 5 + (G : Int) by omega]

theorem two_far (w : World) (P R : List Nat) (far : Nat) (hP : ∀ y ∈ P, y < 256) (hR : ∀ y ∈ R, y < 256) (hl : P.length + R.length ≤ 3000) (hf1 : 1 ≤ far) (hf2 : far ≤ 4) (ps : List (Nat × Nat)) (hps : ps = laidP R 3 far) (G : Nat) (hG : (pcL ps + 7) / 8 = G) (v : Value) (hv : Rd w v (storedC P ++ bytesOf (pcN ps) G)) (hfit : P.length + R.length < far) :
    Calls Tryd.prog 8 #[v, .int .i64 6000] w fun e w' => e = .returned (.tuple #[.slice none 0 0, .int .i64 0, .int .i64 22]) ∧ Hid (Step (fun _ => False) w w') := by
  refine (two_read w P R far hP hR hl hf1 hf2 ps hps G hG v hv).mono fun e w' ⟨hs, h2⟩ => ?_
  have hR2 : laidR (P ++ R) 3 far 6000 (8 * (P.length + 5) + pcL ps) = .error 22 := by
    unfold laidR
    have : (P ++ R).length = P.length + R.length := List.length_append
    rw [if_neg (by omega), if_neg (by omega), if_pos (by omega)]
  rw [hR2] at h2
  exact ⟨h2.2, hs⟩

/-- One byte of a row of one's own is written over. -/
theorem own_set0 {w : World} {ao : Option Addr} {n cap : Nat} {B : List Nat} (h : w.ownsRow 0 5 1 (.slice ao n cap) n (u8s B)) (hl : B.length = n) (i : Nat) (hi : i < n) (x : Nat) :
    ∃ g, ao = some ⟨g, 0, none⟩ ∧ w.cell? ⟨g, i, none⟩ = some (.int .u8 ((B.getD i 0 : Nat) : Int)) ∧ w.frozen? ⟨g, i, none⟩ = false ∧ Rd (w.setCell ⟨g, i, none⟩ (.int .u8 (x : Int))) (.slice ao n cap) (B.set i x) := by
  rcases h.2 with ⟨e1, e2⟩ | ⟨g, c, cur, e1, _⟩
  · omega
  · injection e1 with e2
    subst e2
    have hat : ∀ k, k < n → w.cell? ⟨g, k, none⟩ = some (.int .u8 ((B.getD k 0 : Nat) : Int)) := fun k hk => by
      have := h.cellAt k (by omega)
      rw [this, u8s_get?]
      simp [List.getD, show k < B.length by omega]
    refine ⟨g, rfl, hat i hi, h.frozenAt _, some ⟨g, 0, none⟩, cap, by rw [List.length_set, hl], fun h => (by cases h), fun a ha _ => ⟨g, 0, (Option.some.inj ha).symm, fun k hk => ?_⟩⟩
    rw [List.length_set, hl] at hk
    rw [Nat.zero_add]
    by_cases e : i = k
    · subst e
      rw [World.cell?_setCell_same _ _ _ (hat i hi)]
      simp [List.getD, show i < B.length by omega]
    · rw [World.cell?_setCell_other _ _ _ _ (by intro e2; injection e2 with _ e3; exact e e3), hat k hk]
      simp [List.getD, List.getElem?_set_ne e]


set_option maxHeartbeats 8000000 in
theorem blocks_in (aa ab : Option Addr) (ca cb : Nat) (A B : List Nat) (far : Nat) (w : World) (hA : ∀ x ∈ A, x < 256) (hB : ∀ x ∈ B, x < 256) (ra : Rd w (.slice aa A.length ca) A) (rb : Rd w (.slice ab B.length cb) B) (hca : A.length ≤ ca) (hl : A.length + B.length ≤ 3000) (hf1 : 1 ≤ far) (hf2 : far ≤ 4) :
    Calls Tryd.prog 3 #[.slice aa A.length ca, .slice ab B.length cb, .int .i64 far] w fun e w' => e = .returned (.bool true) ∧ Step (fun _ => False) w w' := by
  obtain ⟨ps, hps⟩ : ∃ ps, ps = laidP B 3 far := ⟨_, rfl⟩
  obtain ⟨G, hG⟩ : ∃ G, (pcL ps + 7) / 8 = G := ⟨_, rfl⟩
  have hGb : G ≤ 10000 := by
    rw [← hG, hps, laidP_len, laidT_len 3 far (.inr ⟨by omega, by omega⟩), if_neg (by omega)]
    have := lits_len B
    omega
  have HST := hidden (rstored_any aa ca A w ra (by omega) hca)
  have HL : Hid (∀ W, Step (fun _ => False) w W → Calls Tryd.prog 7 #[.slice ab B.length cb, .int .i64 3, .int .i64 far] W fun e w' => ∃ ao c, e = .returned (.slice ao G c) ∧ Hid (Rd w' (.slice ao G c) (bytesOf (pcN ps) G) ∧ Step (fun _ => False) W w')) := hidden (fun W hW => by
    have := laid_any _ B 3 far W (rb.step hW (fun _ _ _ _ _ h => h)) hB (by omega) (.inr ⟨by omega, by omega⟩) hf1 hf2 ps hps
    rw [hG] at this
    exact this.mono fun e w' ⟨ao, c, he, h⟩ => ⟨ao, c, he, hidden ⟨Rd.of_own h.out.1, h.out.2.1⟩⟩)
  obtain ⟨m, hm⟩ : ∃ m, A.length = m := ⟨_, rfl⟩
  obtain ⟨n, hn⟩ : ∃ n, B.length = n := ⟨_, rfl⟩
  have HOK := hidden (fun W v z hv hfit hz => two_ok W A B far hA hB hl hf1 hf2 ps hps G hG v hv hfit m z hm hz)
  have HFAR := hidden (fun W v hv hfit => two_far W A B far hA hB hl hf1 hf2 ps hps G hG v hv hfit)
  have HBY : Hid (∀ k y, y ∈ copyP (A ++ B) far k → y < 256) := hidden (fun k => by
    induction k with
    | zero =>
      intro y hy
      rcases List.mem_append.1 hy with h | h
      · exact hA y h
      · exact hB y h
    | succ k ih =>
      intro y hy
      rcases List.mem_append.1 hy with h | h
      · exact ih y h
      · simp only [List.mem_singleton] at h
        rw [h, List.getD_eq_getElem?_getD]
        cases hq : (copyP (A ++ B) far k)[(copyP (A ++ B) far k).length - far]? with
        | none => simp
        | some q => exact ih q (List.mem_of_getElem? hq))
  have HSL : Hid ((storedB A).length = m + 5) := hidden (by rw [storedB_length, hm])
  have HCL : Hid ((storedC A).length = m + 5) := hidden (by rw [storedC_length, hm])
  have HRa := hidden ra
  have HRb := hidden rb
  rw [hm] at HST HOK HFAR HRa hl hca ⊢
  rw [hn] at HL HOK HFAR HRb hl ⊢
  have Hm := hidden hm
  have Hn := hidden hn
  clear hA hB ra rb hm hn hps hG
  go_enter Tryd.func3, Tryd.ntmps3
  go_wp2_with fail
  refine HST.out.mono ?_
  rintro e w1 ⟨a1, c1, rfl, W1⟩
  obtain ⟨g1, e1, cc, ff, hset⟩ := own_set0 W1.out.1 HSL.out 0 (by omega) 0
  subst e1
  have HSET : Hid (Rd (w1.setCell ⟨g1, 0, none⟩ (.int .u8 0)) (.slice (some ⟨g1, 0, none⟩) (m + 5) c1) (storedC A)) := hidden hset
  have hg1 : Hid (w.heap.size ≤ g1) := hidden (W1.out.2.2 g1 rfl)
  have HS1 : Hid (Step (fun _ => False) w (w1.setCell ⟨g1, 0, none⟩ (.int .u8 0))) := hidden (W1.out.2.1.setCell _ _ (.inr hg1.out))
  generalize (storedB A).getD 0 0 = x0 at *
  have HCC := hidden (And.intro cc ff)
  clear hset
  have m5 : (0 : Int) < (m : Int) + 5 := by omega
  have hsz : (w1.setCell ⟨g1, 0, none⟩ (.int .u8 0)).heap.size = w1.heap.size := by simp [World.setCell]
  have Hsz := hidden hsz
  clear hsz
  have hown := hidden (show ((w1.setCell ⟨g1, 0, none⟩ (.int .u8 0)).alloc (.cells #[] 5)).ownsRow 0 5 1 (.slice (some ⟨w1.heap.size, 0, none⟩) 0 0) 0 (u8s []) by
    rw [← Hsz.out]
    have := World.ownsRow_lit (base := 0) (e := 5) (size := 1) (w1.setCell ⟨g1, 0, none⟩ (.int .u8 0)) #[] 0 (Nat.zero_le _) (Nat.zero_le _) rfl
    simpa [u8s] using this)
  have HRs := hidden (HSET.out.step ((Step.refl (fun _ => False) (w1.setCell ⟨g1, 0, none⟩ (.int .u8 0))).alloc (.cells #[] 5)) (fun _ _ _ _ _ h => h))
  have HSa := hidden (HS1.out.alloc (.cells #[] 5))
  go_wp2_with (at_builtin; refine append_bytes rfl (.tmp 33) (.tmp 34) rfl _ _ _ rfl hown.out _ _ rfl HRs.out ?b1 ?_)
  case b1 => rw [HCL.out]; omega
  intro v2 w2 ho2 hg2 hb2
  have hX2 := grown_new (w := w) (w2 := w2) (v := .slice (some ⟨w1.heap.size, 0, none⟩) 0 0) (v' := v2) HSa.out (fun g hg => by have := W1.out.2.1.size; simp [Value.ownBlock] at hg; omega) (by simpa using hg2) (by
    rcases hb2 with h | h
    · exact .inl (by simpa using h)
    · exact .inr (h.trans (congrArg some (by rw [show ((w1.setCell ⟨g1, 0, none⟩ (.int .u8 0)).alloc (.cells #[] 5)).heap.size = (w1.setCell ⟨g1, 0, none⟩ (.int .u8 0)).heap.size + 1 from Array.size_push _, Hsz.out]))))
  have hl2 : (storedC A).length = m + 5 := HCL.out
  simp only [hl2] at ho2
  obtain ⟨a2, c2, hv2⟩ := own_slice ho2
  subst hv2
  have HO2 := hidden ho2
  have HX2 := hidden hX2
  clear ho2 hg2 hb2 hX2 hl2 cc ff
  go_wp2_with fail
  refine (HL.out w2 HX2.out.1).mono ?_
  rintro e w3 ⟨a3, c3, rfl, W3⟩
  have HO3 := hidden (owns_step HO2.out W3.out.2 (fun _ _ h => h))
  go_wp2_with (at_builtin; refine append_bytes rfl (.tmp 35) (.tmp 38) rfl _ _ _ rfl HO3.out _ _ rfl W3.out.1 ?b2 ?_)
  case b2 => rw [bytesOf_length]; omega
  intro v4 w4 ho4 hg4 hb4
  have HX4 := hidden (grown_new (HX2.out.1.made W3.out.2) HX2.out.2 hg4 hb4)
  have hl4 : (bytesOf (pcN ps) G).length = G := bytesOf_length _ _
  rw [hl4] at ho4
  obtain ⟨a4, c4, hv4⟩ := own_slice ho4
  subst hv4
  have HR4 := hidden (Rd.of_own ho4)
  clear ho4 hg4 hb4 hl4
  by_cases hfit : far ≤ m + n
  · obtain ⟨z, hz⟩ : ∃ z, z = m + n + 3 := ⟨_, rfl⟩
    have HZ := hidden hz
    have HB4 := hidden (HOK.out w4 _ z HR4.out hfit hz)
    clear hz
    go_wp2_with fail
    refine HB4.out.mono ?_
    rintro e w5 ⟨a5, c5, rfl, W5⟩
    have HS5 := hidden (HX4.out.1.made W5.out.2)
    have hown5 := hidden (show (w5.alloc (.cells #[] 5)).ownsRow 0 5 1 (.slice (some ⟨w5.heap.size, 0, none⟩) 0 0) 0 (u8s []) by
      have := World.ownsRow_lit (base := 0) (e := 5) (size := 1) w5 #[] 0 (Nat.zero_le _) (Nat.zero_le _) rfl
      simpa [u8s] using this)
    have HRa5 := hidden (HRa.out.step (HS5.out.alloc (.cells #[] 5)) (fun _ _ _ _ _ h => h))
    go_wp2_with (at_builtin; refine append_bytes rfl (.tmp 46) (.tmp 47) rfl _ _ _ rfl hown5.out _ A rfl HRa5.out ?b3 ?_)
    case b3 => have := Hm.out; omega
    intro v6 w6 ho6 hg6 hb6
    have hX6 := grown_new (w := w5) ((Step.refl (fun _ => False) w5).alloc (.cells #[] 5)) (fun g hg => by simp [Value.ownBlock] at hg; omega) hg6 (hb6.imp id (fun h => h.trans (congrArg some (Array.size_push _).symm)))
    obtain ⟨a6, c6, hv6⟩ := own_slice ho6
    subst hv6
    have HO6 := hidden ho6
    have HX6 := hidden hX6
    have HRb6 := hidden (HRb.out.step (HS5.out.made hX6.1) (fun _ _ _ _ _ h => h))
    clear ho6 hg6 hb6 hX6
    go_wp2_with (at_builtin; refine append_bytes rfl (.tmp 48) (.tmp 49) rfl _ _ _ rfl HO6.out _ B rfl HRb6.out ?b4 ?_)
    case b4 => have := Hm.out; have := Hn.out; omega
    intro v7 w7 ho7 hg7 hb7
    have HX7 := hidden (grown_new HX6.out.1 HX6.out.2 hg7 hb7)
    obtain ⟨a7, c7, hv7⟩ := own_slice ho7
    subst hv7
    have HO7 := hidden ho7
    clear ho7 hg7 hb7
    obtain ⟨M0, hM0⟩ : ∃ M0, M0 = m + n := ⟨_, rfl⟩
    have HM0 := hidden hM0
    have hlM : A.length + B.length = M0 := by rw [Hm.out, Hn.out, hM0]
    rw [hlM] at HX7 HO7 ⊢
    have hM1 : M0 ≤ 3000 := by omega
    have hfi : (far : Int) ≤ (M0 : Int) := by omega
    have hfi2 : far ≤ M0 := by omega
    have hfn : ¬ M0 < far := by omega
    have HZ2 : Hid (z = M0 + 3) := hidden (by rw [HZ.out, hM0])
    clear hM0 hlM hfit
    go_wp2
    go_loopw [12, 13] (fun u i wr => ∃ (k z cq : Nat) (aq : Option Addr), i = .int .i64 (k : Int) ∧ k ≤ 3 ∧ u = .slice aq z cq ∧ Hid (z = M0 + k ∧ wr.ownsRow 0 5 1 (.slice aq z cq) z (u8s (copyP (A ++ B) far k)) ∧ Step (fun _ => False) w5 wr ∧ (∀ j, (Value.slice aq z cq).ownBlock = some j → w5.heap.size ≤ j))) (fun _ i _ => 3 - (intOf i).toNat)
    case atStart => exact ⟨0, M0, c7, a7, rfl, by omega, rfl, rfl, HO7.out, HX7.out.1, HX7.out.2⟩
    case round =>
      obtain ⟨k, zz, cq, aq, rfl, hk, rfl, HH⟩ := hrel
      by_cases hlt : k < 3
      · have hzk : zz = M0 + k := HH.out.1
        have hrd := Rd.of_own HH.out.2.1
        have hcl : (copyP (A ++ B) far k).length = zz := by rw [copyP_length, List.length_append, Hm.out, Hn.out, hzk, HM0.out]
        have hne : copyP (A ++ B) far k ≠ [] := by intro e; rw [e] at hcl; simp at hcl; omega
        obtain ⟨ar, cr, er, h1r, h2r⟩ := hrd
        injection er with er1 er2 er3
        subst er1
        cases aq with
        | none => exact absurd (h1r rfl).1 hne
        | some a =>
          obtain ⟨bq, oq, rfl, hcell⟩ := h2r a rfl hne
          obtain ⟨j, hj⟩ : ∃ j, j = zz - far := ⟨_, rfl⟩
          have cx := hcell j (by omega)
          have hji : (zz : Int) - (far : Int) = (j : Int) := by omega
          have hx256 : Hid ((copyP (A ++ B) far k).getD j 0 < 256) := hidden (HBY.out k _ (by
            have hjl : j < (copyP (A ++ B) far k).length := by omega
            simp [List.getD, hjl]))
          have hnx : Hid (copyP (A ++ B) far (k + 1) = copyP (A ++ B) far k ++ [(copyP (A ++ B) far k).getD j 0]) := hidden (by rw [hj, ← hcl]; rfl)
          generalize (copyP (A ++ B) far k).getD j 0 = x at *
          have j0 : (0 : Int) ≤ (j : Int) := by omega
          have j1 : (j : Int) < (zz : Int) := by omega
          have HO := hidden (HH.out.2.1.alloc (.cells #[.int .u8 (x : Int)] 5))
          have HRX := hidden (Rd.lit' wr x)
          have HHH := hidden HH.out
          have hzb : zz ≤ 4000 := by omega
          have hzA : M0 + k ≤ zz := by omega
          have hzB : zz ≤ M0 + k := by omega
          clear HH hcell h1r h2r hne hcl er2 er3 hj hzk
          go_wp2_with (at_builtin; refine append_bytes rfl (.tmp 64) (.tmp 72) rfl _ _ _ rfl HO.out _ [x] rfl HRX.out ?d1 ?_)
          case d1 => show zz + 1 ≤ 137438953600; omega
          intro v8 w8 ho8 hg8 hb8
          have HG8 := hidden (And.intro ho8 (And.intro hg8 hb8))
          obtain ⟨a8, c8, hv8⟩ := own_slice ho8
          subst hv8
          clear ho8 hg8 hb8
          go_wp2
          go_roundw
          case rel =>
            obtain ⟨y1, y2, y3, y4⟩ := HHH.out
            obtain ⟨x1, x2, x3⟩ := HG8.out
            have hal : (wr.alloc (.cells #[.int .u8 (x : Int)] 5)).heap.size = wr.heap.size + 1 := Array.size_push _
            have z1 := y3.size
            refine ⟨k + 1, zz + 1, c8, a8, by go_num, by omega, rfl, by omega, by rw [hnx.out]; exact x1, (y3.alloc _).grown x2 (fun q hq => .inr (y4 q hq)), fun q hq => ?_⟩
            rcases x3 with e | e
            · exact y4 q (by rw [← e]; exact hq)
            · have e2 := e.symm.trans hq; have := Option.some.inj e2; omega
          case measure => simp [intOf]; omega
      · have hk3 : k = 3 := by omega
        subst hk3
        have hzz : zz = z := by rw [HH.out.1, HZ2.out]
        subst hzz
        have HWT := hidden (Rd.of_own HH.out.2.1)
        have HS8 := hidden HH.out.2.2.1
        have HCL2 : Hid ((copyP (A ++ B) far 3).length ≤ 100000) := hidden (by rw [copyP_length, List.length_append, Hm.out, Hn.out]; omega)
        have HC := hidden (same_eq (.slice a5 zz c5) (.slice aq zz cq) (copyP (A ++ B) far 3) wr (W5.out.1.step HS8.out (fun _ _ _ _ _ h => h)) HWT.out HCL2.out)
        have HS9 := hidden (HS5.out.made HS8.out)
        clear HH
        go_wp2_with fail
        refine HC.out.mono ?_
        rintro e w9 ⟨rfl, W9⟩
        go_wp2_with fail
        refine (known_any w9).mono ?_
        rintro e w10 ⟨rfl, hk10⟩
        have HS10 := hidden ((HS9.out.made W9.out).made hk10)
        clear hk10
        go_wp2
        go_ret
        exact ⟨rfl, HS10.out⟩
  · have HB4 := hidden (HFAR.out w4 _ HR4.out (by omega))
    go_wp2_with fail
    refine HB4.out.mono ?_
    rintro e w5 ⟨rfl, W5⟩
    have HS5 := hidden (HX4.out.1.made W5.out)
    have hown5 := hidden (show (w5.alloc (.cells #[] 5)).ownsRow 0 5 1 (.slice (some ⟨w5.heap.size, 0, none⟩) 0 0) 0 (u8s []) by
      have := World.ownsRow_lit (base := 0) (e := 5) (size := 1) w5 #[] 0 (Nat.zero_le _) (Nat.zero_le _) rfl
      simpa [u8s] using this)
    have HRa5 := hidden (HRa.out.step (HS5.out.alloc (.cells #[] 5)) (fun _ _ _ _ _ h => h))
    go_wp2_with (at_builtin; refine append_bytes rfl (.tmp 46) (.tmp 47) rfl _ _ _ rfl hown5.out _ A rfl HRa5.out ?b3 ?_)
    case b3 => have := Hm.out; omega
    intro v6 w6 ho6 hg6 hb6
    have hX6 := grown_new (w := w5) ((Step.refl (fun _ => False) w5).alloc (.cells #[] 5)) (fun g hg => by simp [Value.ownBlock] at hg; omega) hg6 (hb6.imp id (fun h => h.trans (congrArg some (Array.size_push _).symm)))
    obtain ⟨a6, c6, hv6⟩ := own_slice ho6
    subst hv6
    have HO6 := hidden ho6
    have HX6 := hidden hX6
    have HRb6 := hidden (HRb.out.step (HS5.out.made hX6.1) (fun _ _ _ _ _ h => h))
    clear ho6 hg6 hb6 hX6
    go_wp2_with (at_builtin; refine append_bytes rfl (.tmp 48) (.tmp 49) rfl _ _ _ rfl HO6.out _ B rfl HRb6.out ?b4 ?_)
    case b4 => have := Hm.out; have := Hn.out; omega
    intro v7 w7 ho7 hg7 hb7
    have HX7 := hidden (grown_new HX6.out.1 HX6.out.2 hg7 hb7)
    obtain ⟨a7, c7, hv7⟩ := own_slice ho7
    subst hv7
    have HO7 := hidden ho7
    clear ho7 hg7 hb7
    obtain ⟨M0, hM0⟩ : ∃ M0, M0 = m + n := ⟨_, rfl⟩
    have HM0 := hidden hM0
    have hlM : A.length + B.length = M0 := by rw [Hm.out, Hn.out, hM0]
    rw [hlM] at HX7 HO7 ⊢
    have hM1 : M0 ≤ 3000 := by omega
    have hfi : (M0 : Int) < (far : Int) := by omega
    clear hM0 hlM hfit
    have HS7 := hidden (HS5.out.made HX7.out.1)
    go_wp2_with fail
    refine (known_any w7).mono ?_
    rintro e w10 ⟨rfl, hk10⟩
    have HS10 := hidden (HS7.out.made hk10)
    clear hk10
    go_wp2
    go_ret
    exact ⟨rfl, HS10.out⟩

set_option maxHeartbeats 2000000 in
theorem blocks_out (aa ab : Option Addr) (m n ca cb : Nat) (far : Int) (w : World) (hm : m ≤ 140737488351232) (hn : n ≤ 140737488351232) (h : 3000 < m + n ∨ far < 1 ∨ 4 < far) :
    Calls Tryd.prog 3 #[.slice aa m ca, .slice ab n cb, .int .i64 far] w fun e w' => e = .returned (.bool true) ∧ Step (fun _ => False) w w' := by
  by_cases g1 : (3000 : Int) < (m : Int) + (n : Int)
  · clear h
    go_enter Tryd.func3, Tryd.ntmps3
    go_wp2_with fail
    refine (known_any w).mono ?_
    rintro e w1 ⟨rfl, h1⟩
    have H1 := hidden h1
    clear h1
    go_wp2
    go_ret
    exact ⟨rfl, H1.out⟩
  · by_cases g2 : far < 1
    · clear h
      go_enter Tryd.func3, Tryd.ntmps3
      go_wp2_with fail
      refine (known_any w).mono ?_
      rintro e w1 ⟨rfl, h1⟩
      have H1 := hidden h1
      clear h1
      go_wp2
      go_ret
      exact ⟨rfl, H1.out⟩
    · have g3 : 4 < far := by omega
      clear h
      go_enter Tryd.func3, Tryd.ntmps3
      go_wp2_with fail
      refine (known_any w).mono ?_
      rintro e w1 ⟨rfl, h1⟩
      have H1 := hidden h1
      clear h1
      go_wp2
      go_ret
      exact ⟨rfl, H1.out⟩

end Go.Proofs.YtlajfidhkaamnabDoor
