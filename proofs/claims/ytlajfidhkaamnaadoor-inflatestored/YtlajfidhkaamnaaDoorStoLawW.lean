/-
  The walk of the law on bytes as they are.
-/
import Derived.Test.YtlajfidhkaamnaaDoorIStoN
import Derived.Test.YtlajfidhkaamnaaDoorCutsW
import Derived.Test.YtlajfidhkaamnaaDoorILaw
namespace Go.Proofs.YtlajfidhkaamnaaDoor
open Go.RowKit
set_option maxRecDepth 100000
set_option linter.unusedVariables false

theorem u8_xor_nat (a b : Nat) (ha : a < 256) (hb : b < 256) : bits .xor .u8 (a : Int) (b : Int) = ((a ^^^ b : Nat) : Int) := by
  show IntKind.u8.wrap ((BitVec.ofInt 8 (a : Int) ^^^ BitVec.ofInt 8 (b : Int)).toNat : Int) = _
  have e : ∀ x : Nat, x < 256 → (BitVec.ofInt 8 (x : Int)).toNat = x := fun x hx => by simp; omega
  rw [BitVec.toNat_xor, e a ha, e b hb]
  have := Nat.xor_lt_two_pow (n := 8) ha hb
  simp [IntKind.wrap, IntKind.bits, IntKind.signed]
  omega

/-- One byte of a row of one's own is written over. -/
theorem own_set {w : World} {ao : Option Addr} {n cap : Nat} {B : List Nat} (h : w.ownsRow 0 5 1 (.slice ao n cap) n (u8s B)) (hl : B.length = n) (i : Nat) (hi : i < n) (x : Nat) :
    ∃ g, ao = some ⟨g, 0, none⟩ ∧ w.cell? ⟨g, i, none⟩ = some (.int .u8 ((B.getD i 0 : Nat) : Int)) ∧ w.frozen? ⟨g, i, none⟩ = false ∧ Rd (w.setCell ⟨g, i, none⟩ (.int .u8 (x : Int))) (.slice ao n cap) (B.set i x) := by
  rcases h.2 with ⟨e1, e2⟩ | ⟨g, c, cur, e1, _⟩
  · omega
  · injection e1 with e2
    subst e2
    have hat : ∀ k, k < n → w.cell? ⟨g, k, none⟩ = some (.int .u8 ((B.getD k 0 : Nat) : Int)) := fun k hk => by
      have := h.cellAt k (by omega)
      rw [this, u8s_get?]
      simp [List.getD, show k < B.length by omega]
    refine ⟨g, rfl, hat i hi, h.frozenAt _, some ⟨g, 0, none⟩, cap, by rw [List.length_set, hl], fun h => (by cases h), fun a ha _ => ⟨g, 0, (Option.some.inj ha).symm, fun k hk => ?_⟩⟩
    rw [List.length_set, hl] at hk
    rw [Nat.zero_add]
    by_cases e : i = k
    · subst e
      rw [World.cell?_setCell_same _ _ _ (hat i hi)]
      simp [List.getD, show i < B.length by omega]
    · rw [World.cell?_setCell_other _ _ _ _ (by intro e2; injection e2 with _ e3; exact e e3), hat k hk]
      simp [List.getD, List.getElem?_set_ne e]

theorem sto_read (w : World) (P B : List Nat) (v : Value) (most : Int) (r : Except Nat (Nat × List Nat)) (hB : ∀ y ∈ B, y < 256) (hl : B.length ≤ 100000) (hv : Rd w v B) (h0 : 0 ≤ most) (h1 : most ≤ 9223372036854775807) (hr : Blks (numOf B) B.length most 0 0 [] r) :
    Calls Tryd.prog 12 #[v, .int .i64 most] w (BytesE w r) := by
  refine bytes_any v (numOf B) B.length most 0 r w ?_ (by omega) h0 h1 hr
  rw [bytesOf_numOf B hB]
  exact hv

theorem sto_ok (w : World) (P : List Nat) (v : Value) (most : Int) (n : Nat) (hP : ∀ y ∈ P, y < 256) (hn : P.length = n) (hl : n ≤ 3000) (hv : Rd w v (storedB P)) (h0 : (n : Int) ≤ most) (h1 : most ≤ 9223372036854775807) :
    Calls Tryd.prog 12 #[v, .int .i64 most] w fun e w' => ∃ ao c, e = .returned (.tuple #[.slice ao n c, .int .i64 ((n : Int) + 5), .int .i64 0]) ∧ Hid (Rd w' (.slice ao n c) P ∧ Step (fun _ => False) w w') := by
  subst hn
  have hb := stored_blks (m := (storedB P).length) (most := most) P (by omega) hP (storedB_length P)
  rw [if_pos h0] at hb
  refine (sto_read w P (storedB P) v most _ (storedB_by P (by omega) hP) (by rw [storedB_length]; omega) hv (by omega) h1 hb).mono fun e w' ⟨hs, v', he, hr, _⟩ => ?_
  obtain ⟨ao, c, rfl, _⟩ := id hr
  refine ⟨ao, c, ?_, hr, hs⟩
  rw [he, show ((((40 + 8 * P.length + 7) / 8 : Nat)) : Int) = (P.length : Int) + 5 by omega]

theorem sto_long (w : World) (P : List Nat) (v : Value) (most : Int) (hP : ∀ y ∈ P, y < 256) (hl : P.length ≤ 3000) (hv : Rd w v (storedB P)) (h0 : 0 ≤ most) (h1 : most < (P.length : Int)) :
    Calls Tryd.prog 12 #[v, .int .i64 most] w fun e w' => e = .returned (.tuple #[.slice none 0 0, .int .i64 0, .int .i64 5]) ∧ Hid (Step (fun _ => False) w w') := by
  have hb := stored_blks (m := (storedB P).length) (most := most) P (by omega) hP (storedB_length P)
  rw [if_neg (by omega)] at hb
  exact (sto_read w P (storedB P) v most _ (storedB_by P (by omega) hP) (by rw [storedB_length]; omega) hv h0 (by omega) hb).mono fun e w' ⟨hs, _, he⟩ => ⟨he, hs⟩

theorem sto_turned (w : World) (P : List Nat) (v : Value) (most : Int) (q x : Nat) (hP : ∀ y ∈ P, y < 256) (hl : P.length ≤ 3000) (hq : q < 4) (hx : x < 256) (hne : x ≠ (storedB P).getD (1 + q) 0) (hv : Rd w v ((storedB P).set (1 + q) x)) (h0 : 0 ≤ most) (h1 : most ≤ 9223372036854775807) :
    Calls Tryd.prog 12 #[v, .int .i64 most] w fun e w' => e = .returned (.tuple #[.slice none 0 0, .int .i64 0, .int .i64 3]) ∧ Hid (Step (fun _ => False) w w') := by
  have hl2 : ((storedB P).set (1 + q) x).length = P.length + 5 := by rw [List.length_set, storedB_length]
  have hb := turned_blks (most := most) (M := numOf ((storedB P).set (1 + q) x)) (m := ((storedB P).set (1 + q) x).length) P (by omega) hP hq hx hne rfl hl2
  refine (sto_read w P ((storedB P).set (1 + q) x) v most _ (fun y hy => ?_) (by omega) hv h0 h1 hb).mono fun e w' ⟨hs, _, he⟩ => ⟨he, hs⟩
  rcases List.mem_or_eq_of_mem_set hy with h | h
  · exact storedB_by P (by omega) hP y h
  · rw [h]; exact hx

set_option maxHeartbeats 4000000 in
theorem stored_in (aa : Option Addr) (ca : Nat) (A : List Nat) (longest at_ : Int) (by_ : Nat) (w : World) (hA : ∀ x ∈ A, x < 256) (ra : Rd w (.slice aa A.length ca) A) (hl : A.length ≤ 3000) (hca : A.length ≤ ca) (h0 : 0 ≤ longest) (h1 : longest ≤ 9223372036854775807) (hb : by_ < 256) :
    Calls Tryd.prog 4 #[.slice aa A.length ca, .int .i64 longest, .int .i64 at_, .int .u8 by_] w fun e w' => e = .returned (.bool true) ∧ Step (fun _ => False) w w' := by
  have HST := hidden (rstored_any aa ca A w ra (by omega) hca)
  have hbl := hidden (storedB_length A)
  have HRa := hidden ra
  obtain ⟨m, hm⟩ : ∃ m, A.length = m := ⟨_, rfl⟩
  have HOK := hidden (fun W v hv h => sto_ok W A v longest m hA hm (by omega) hv h h1)
  have HLO := hidden (fun W v hv h => sto_long W A v longest hA hl hv h0 h)
  have HTU := hidden (fun W v q x hq hx hne hv => sto_turned W A v longest q x hA hl hq hx hne hv h0 h1)
  have HBY := hidden (storedB_by A (by omega) hA)
  obtain ⟨q, hq, hqb⟩ := i64_and_low at_ 2 (by omega)
  have hqb' : bits .and .i64 at_ 3 = (q : Int) := hqb
  have hq4 : q < 4 := hq
  rw [hm] at HST HLO HRa hl hca hbl ⊢
  have Hm := hidden hm
  clear hA ra hm hq hqb
  by_cases g : longest < (m : Int)
  · go_enter Tryd.func4, Tryd.ntmps4
    go_wp2_with fail
    refine HST.out.mono ?_
    rintro e w1 ⟨a1, c1, rfl, W1⟩
    have HB := hidden (HLO.out w1 _ (Rd.of_own W1.out.1) g)
    go_wp2_with fail
    refine HB.out.mono ?_
    rintro e w2 ⟨rfl, W2⟩
    have HS2 := hidden (W1.out.2.1.made W2.out)
    go_wp2_with fail
    refine (known_any w2).mono ?_
    rintro e w3 ⟨rfl, hk3⟩
    have HS3 := hidden (HS2.out.made hk3)
    clear hk3
    go_wp2
    go_ret
    exact ⟨rfl, HS3.out⟩
  · have g' : (m : Int) ≤ longest := by omega
    go_enter Tryd.func4, Tryd.ntmps4
    go_wp2_with fail
    refine HST.out.mono ?_
    rintro e w1 ⟨a1, c1, rfl, W1⟩
    have HB := hidden (HOK.out w1 _ (Rd.of_own W1.out.1) g')
    go_wp2_with fail
    refine HB.out.mono ?_
    rintro e w2 ⟨a2, c2, rfl, W2⟩
    have hown := hidden (show (w2.alloc (.cells #[] 5)).ownsRow 0 5 1 (.slice (some ⟨w2.heap.size, 0, none⟩) 0 0) 0 (u8s []) by
      have := World.ownsRow_lit (base := 0) (e := 5) (size := 1) w2 #[] 0 (Nat.zero_le _) (Nat.zero_le _) rfl
      simpa [u8s] using this)
    have HRb := hidden ((Rd.of_own W1.out.1).step (W2.out.2.alloc (.cells #[] 5)) (fun _ _ _ _ _ h => h))
    go_wp2_with (at_builtin; refine append_bytes rfl (.tmp 51) (.tmp 52) rfl _ _ _ rfl hown.out _ _ rfl HRb.out ?b1 ?_)
    case b1 => rw [hbl.out]; omega
    intro v3 w3 ho3 hg3 hb3
    have hX3 := grown_new (w := w2) ((Step.refl (fun _ => False) w2).alloc (.cells #[] 5)) (fun g hg => by simp [Value.ownBlock] at hg; omega) hg3 (hb3.imp id (fun h => h.trans (congrArg some (Array.size_push _).symm)))
    have hl3 : (storedB A).length = m + 5 := hbl.out
    rw [hl3] at ho3
    obtain ⟨a3, c3, hv3⟩ := own_slice ho3
    subst hv3
    have HO3 := hidden ho3
    have HX3 := hidden hX3
    obtain ⟨x0, hx0⟩ : ∃ x0, (storedB A).getD (1 + q) 0 = x0 := ⟨_, rfl⟩
    have hx0b : x0 < 256 := by
      rw [← hx0]
      refine HBY.out _ ?_
      have : 1 + q < (storedB A).length := by omega
      simp [List.getD, this]
    obtain ⟨g3, e3, cc, ff, hset⟩ := own_set ho3 hl3 (1 + q) (by omega) (x0 ^^^ by_)
    subst e3
    rw [hx0] at cc
    have hxor := u8_xor_nat x0 by_ hx0b hb
    have HSET := hidden hset
    have HX0 := hidden hx0
    have i0 : (1 : Int) + (q : Int) = ((1 + q : Nat) : Int) := by omega
    obtain ⟨j, hj⟩ : ∃ j, j = 1 + q := ⟨_, rfl⟩
    have HJ := hidden hj
    rw [← hj] at cc ff i0 HSET
    have jm : (j : Int) < (m : Int) + 5 := by omega
    have jm2 : j < m + 5 := by omega
    obtain ⟨y, hy⟩ : ∃ y, y = x0 ^^^ by_ := ⟨_, rfl⟩
    have HY := hidden hy
    have hy256 : Hid (y < 256) := hidden (by rw [hy]; exact Nat.xor_lt_two_pow (n := 8) hx0b hb)
    rw [← hy] at hxor HSET
    have hng3 : Hid (w2.heap.size ≤ g3) := hidden (hX3.2 g3 rfl)
    clear ho3 hg3 hb3 hX3 hset hx0 hj hy hl3 g
    go_wp2_with fail
    obtain ⟨W3, hW3⟩ : ∃ W, W = w3.setCell ⟨g3, j, none⟩ (.int .u8 (y : Int)) := ⟨_, rfl⟩
    rw [← hW3]
    have HS23 : Hid (Step (fun _ => False) w2 W3) := hidden (by rw [hW3]; exact HX3.out.1.setCell _ _ (.inr hng3.out))
    have HS3 := hidden ((W1.out.2.1.made W2.out.2).made HS23.out)
    have HSET3 : Hid (Rd W3 (.slice (some ⟨g3, 0, none⟩) (m + 5) c3) ((storedB A).set j y)) := hidden (by rw [hW3]; exact HSET.out)
    clear hW3 HSET
    by_cases gb : by_ = 0
    · have hyx : y = x0 := by rw [HY.out, gb, Nat.xor_zero]
      have HR3 : Hid (Rd W3 (.slice (some ⟨g3, 0, none⟩) (m + 5) c3) (storedB A)) := hidden (by
        have h := HSET3.out
        have hjl : j < (storedB A).length := by rw [hbl.out]; exact jm2
        have e : (storedB A)[j] = y := by
          rw [hyx, ← HX0.out, ← HJ.out]
          simp [List.getD, hjl]
        rw [← e, List.set_getElem_self] at h
        exact h)
      have b0 : ((by_ : Int) == 0) = true := by rw [gb]; rfl
      have HB4 := hidden (HOK.out W3 _ HR3.out g')
      clear gb hyx
      refine HB4.out.mono ?_
      rintro e w4 ⟨a4, c4, rfl, W4⟩
      have HS4 := hidden (HS3.out.made W4.out.2)
      have HC := hidden (same_eq (.slice a2 m c2) (.slice aa m ca) A w4 (W2.out.1.step (HS23.out.made W4.out.2) (fun _ _ _ _ _ h => h)) (HRa.out.step HS4.out (fun _ _ _ _ _ h => h)) (by have := Hm.out; omega))
      go_wp2_with fail
      refine HC.out.mono ?_
      rintro e w5 ⟨rfl, W5⟩
      have HS5 := hidden (HS4.out.made W5.out)
      go_wp2_with fail
      refine (known_any w5).mono ?_
      rintro e w6 ⟨rfl, hk6⟩
      have HS6 := hidden (HS5.out.made hk6)
      clear hk6
      go_wp2
      go_ret
      exact ⟨rfl, HS6.out⟩
    · have b0 : ((by_ : Int) == 0) = false := by rw [beq_eq_false_iff_ne]; omega
      have hne : Hid (y ≠ (storedB A).getD (1 + q) 0) := hidden (by
        rw [HX0.out, HY.out]
        intro e
        have h2 : x0 ^^^ (x0 ^^^ by_) = x0 ^^^ x0 := by rw [e]
        rw [← Nat.xor_assoc, Nat.xor_self, Nat.zero_xor] at h2
        exact gb h2)
      have HB4 := hidden (HTU.out W3 _ q y hq4 hy256.out hne.out (by have := HSET3.out; rw [HJ.out] at this; exact this))
      clear gb
      refine HB4.out.mono ?_
      rintro e w4 ⟨rfl, W4⟩
      have HS4 := hidden (HS3.out.made W4.out)
      have HC := hidden (same_eq (.slice a2 m c2) (.slice aa m ca) A w4 (W2.out.1.step (HS23.out.made W4.out) (fun _ _ _ _ _ h => h)) (HRa.out.step HS4.out (fun _ _ _ _ _ h => h)) (by have := Hm.out; omega))
      go_wp2_with fail
      refine HC.out.mono ?_
      rintro e w5 ⟨rfl, W5⟩
      have HS5 := hidden (HS4.out.made W5.out)
      go_wp2_with fail
      refine (known_any w5).mono ?_
      rintro e w6 ⟨rfl, hk6⟩
      have HS6 := hidden (HS5.out.made hk6)
      clear hk6
      go_wp2
      go_ret
      exact ⟨rfl, HS6.out⟩

set_option maxHeartbeats 1000000 in
theorem stored_out (aa : Option Addr) (m ca : Nat) (longest at_ by_ : Int) (w : World) (hm : m ≤ 140737488351232) (hl : 3000 < m ∨ longest < 0) :
    Calls Tryd.prog 4 #[.slice aa m ca, .int .i64 longest, .int .i64 at_, .int .u8 by_] w fun e w' => e = .returned (.bool true) ∧ Step (fun _ => False) w w' := by
  by_cases g : (3000 : Int) < (m : Int)
  · clear hl
    go_enter Tryd.func4, Tryd.ntmps4
    go_wp2
    go_ret
    exact ⟨rfl, Step.refl _ _⟩
  · have g2 : longest < 0 := by omega
    clear hl
    go_enter Tryd.func4, Tryd.ntmps4
    go_wp2
    go_ret
    exact ⟨rfl, Step.refl _ _⟩

end Go.Proofs.YtlajfidhkaamnaaDoor
