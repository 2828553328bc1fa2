/-
  The walk of the law on writers.
-/
import Derived.Test.YtelengfdbhambaaWritesR
import Derived.Test.YtelengfdbhambaaRoomM
import Derived.Test.YtelengfdbhambaaHeavy
import Derived.Test.YtelengfdbhambaaActsM
import Derived.Deep.RegionHeld3
namespace Go.Proofs.Ytelengfdbhambaa
open Go.RowKit

theorem ActsS.acts {w : World} {al : Option Addr} {ll : Nat} (h : ActsS w al ll) : Acts w al ll := by
  intro hl
  obtain ⟨b, off, e, hc⟩ := h hl
  refine ⟨b, off, e, fun i hi => ?_⟩
  obtain ⟨k, x, n, vB, vC, B, C, A⟩ := hc i hi
  obtain ⟨aB, cB, eB, _⟩ := A.rB
  obtain ⟨aC, cC, eC, _⟩ := A.rC
  exact ⟨k, x, n, aB, aC, _, cB, _, cC, A.c0, A.c1, A.c2, by rw [← eB]; exact A.c3, by rw [← eC]; exact A.c4⟩

/-- The script that is played, as the walk wants it: each step's cells, its rows, none longer than 2000. -/
def Script (w : World) (al : Option Addr) (ll : Nat) : Prop :=
  0 < ll → ∃ b off, al = some ⟨b, off, none⟩ ∧ ∀ i, i < ll → i < 200 → ∃ (k x n : Int) (aB aC : Option Addr) (cB cC : Nat) (B C : List Nat),
    Act1 w b (off + i * 5) k x n (.slice aB B.length cB) (.slice aC C.length cC) B C ∧ B.length ≤ 2000 ∧ C.length ≤ 2000

theorem ActsS.script {w : World} {al : Option Addr} {ll : Nat} (h : ActsS w al ll) (hl : Light w al ll) : Script w al ll := by
  intro hll
  obtain ⟨b, off, e, hc⟩ := h hll
  refine ⟨b, off, e, fun i hi hi2 => ?_⟩
  obtain ⟨k, x, n, vB, vC, B, C, A⟩ := hc i hi
  obtain ⟨aB, cB, eB, _⟩ := A.rB
  obtain ⟨aC, cC, eC, _⟩ := A.rC
  rw [eB, eC] at A
  have := hl b off e i hi hi2 _ _ _ _ _ _ A.c3 A.c4
  exact ⟨k, x, n, aB, aC, cB, cC, B, C, A, this.1, this.2⟩

theorem lightmax {w : World} {al : Option Addr} {ll : Nat} (h : ActsS w al ll) : ∀ b off, al = some ⟨b, off, none⟩ → ∀ i, i < ll → ∀ j a l c, w.cell? ⟨b, off + i * 5 + j, none⟩ = some (.slice a l c) → (j = 3 ∨ j = 4) → l ≤ 9223372036854775807 := by
  intro b off e i hi j a l c hc hj
  obtain ⟨b', off', e', hcl⟩ := h (by omega)
  rw [e] at e'
  injection e' with e'
  injection e' with e1 e2
  subst e1 e2
  obtain ⟨k, x, n, vB, vC, B, C, A⟩ := hcl i hi
  obtain ⟨aB, cB, eB, _⟩ := A.rB
  obtain ⟨aC, cC, eC, _⟩ := A.rC
  have l1 := A.lB
  have l2 := A.lC
  rcases hj with rfl | rfl
  · have h3 := A.c3
    rw [hc, eB] at h3
    injection h3 with h3
    injection h3 with _ h3
    omega
  · have h4 := A.c4
    rw [hc, eC] at h4
    injection h4 with h4
    injection h4 with _ h4
    omega

set_option maxRecDepth 100000 in
set_option maxHeartbeats 2000000 in
theorem writes_any (al : Option Addr) (ll cl : Nat) (w : World) (hA : ActsS w al ll) (hll : ll ≤ 9223372036854775807) :
    Calls Try.prog 3 #[.slice al ll cl] w fun e w' => e = .returned (.bool true) ∧ Below w.heap.size w w' := by
  have HA := hidden hA
  have HV := hidden (heavy_any al ll cl w hA.acts hll (lightmax hA))
  clear hA
  go_enter Try.func3, Try.ntmps3
  go_wp2_with fail
  refine HV.out.mono ?_
  rintro e w1 ⟨hb, rfl, hbl, q1, rfl⟩
  cases hb with
  | true =>
    go_wp2
    go_ret
    exact ⟨rfl, ((Step.refl (fun _ => False) w).drewN q1).below _ (Nat.le_refl _) (fun _ h => h.elim)⟩
  | false =>
    have HSc := hidden (HA.out.script (hbl rfl))
    clear hbl HV HA
    go_wp2_with fail
    refine (new_ok _).mono ?_
    rintro e w2 ⟨rfl, W2, S2⟩
    have HB : Hid (Both w (w2.alloc (.cells #[.slice none 0 0] 29)) w.heap.size w2.heap.size (.slice none 0 0) (.slice none 0 0) 0 0 0 0) := by
      have S1 : Step (fun _ => False) w w2 := ((Step.refl (fun _ => False) w).drewN q1).made S2
      have SA : Step (fun _ => False) w2 (w2.alloc (.cells #[.slice none 0 0] 29)) := (Step.refl _ _).alloc _
      have hlt : w.heap.size < w2.heap.size := World.block_lt_of_cell? w2 _ W2.out
      exact ⟨wr_step W2 SA (fun h => h) (fun _ _ h => h), ⟨by simp, by simp, World.ownsRow_nil _ _ _ _, by simp [Value.ownBlock], by simp⟩, S1.made SA, Nat.le_refl _, by omega,
        fun k hk => by simp [Value.ownBlock] at hk, fun k hk => by simp [Value.ownBlock] at hk, by omega, by simp [Value.ownBlock], by simp [Value.ownBlock], fun k hk => by simp [Value.ownBlock] at hk⟩
    clear W2 S2
    go_wp2_with fail
    generalize (w2.alloc (.cells #[.slice none 0 0] 29)) = w3 at HB ⊢
    generalize w2.heap.size = b2 at HB ⊢
    generalize hba : w.heap.size = b1 at HB ⊢
    have Hba := hidden hba
    clear hba
    go_loopw [5] (fun i wr => ∃ k N L : Nat, ∃ sa sb, k ≤ ll ∧ k ≤ 200 ∧ L ≤ 32100 * k ∧ i = .int .i64 k ∧ Both w wr b1 b2 sa sb N L N L) (fun i _ => 200 - (intOf i).toNat)
    case atStart => exact ⟨0, 0, 0, _, _, Nat.zero_le _, Nat.zero_le _, by omega, rfl, HB.out⟩
    case round =>
      obtain ⟨k, N, L, sa, sb, hk, hk2, hL, rfl, P⟩ := hrel
      have HP := hidden P
      have hL2 : L ≤ 100000000 := by omega
      by_cases hlt : k < ll ∧ k < 200
      · obtain ⟨g1, g2⟩ := hlt
        obtain ⟨bl, ol, rfl, hcl⟩ := HSc.out (by omega)
        obtain ⟨kd, x, n, aB, aC, cB, cC, B, C, A1, lB, lC⟩ := hcl k g1 g2
        have HA1 := hidden A1
        have c1 := P.st.cell A1.c0 (fun h => h)
        have c2 := P.st.cell A1.c1 (fun h => h)
        have c3 := P.st.cell A1.c2 (fun h => h)
        have c4 := P.st.cell A1.c3 (fun h => h)
        have c5 := P.st.cell A1.c4 (fun h => h)
        have hblw := World.block_lt_of_cell? wr _ c1
        have HPa := hidden (P.alloc (.cells #[.int .i64 kd, .int .i64 x, .int .i64 n, .slice aB B.length cB, .slice aC C.length cC] 31))
        have k1 : (k : Int) < (ll : Int) := by omega
        have k2 : (k : Int) < 200 := by omega
        have htail : Hid (∀ (w5 : World) (N' L' : Nat) (sa' sb' : Value), Both w w5 b1 b2 sa' sb' N' L' N' L' → L' ≤ L + 32000 → ∃ k' N'' L'' : Nat, ∃ sa'' sb'', k' ≤ ll ∧ k' ≤ 200 ∧ L'' ≤ 32100 * k' ∧ Value.int IntKind.i64 ((k : Int) + 1) = .int .i64 (k' : Int) ∧ Both w w5 b1 b2 sa'' sb'' N'' L'' N'' L'') :=
          fun w5 N' L' sa' sb' P5 h => ⟨k + 1, N', L', sa', sb', by omega, by omega, by omega, by go_num, P5⟩
        generalize hlB : B.length = nB at *
        generalize hlC : C.length = nC at *
        have HlB := hidden hlB
        have HlC := hidden hlC
        clear hcl P A1 hlB hlC
        by_cases hk3 : kd = 3
        · subst hk3
          go_wp2_with fail
          refine (align_any b1 sa N L _ HPa.out.A).mono ?_
          rintro en w4 ⟨rfl, h4⟩
          obtain ⟨s4, P4⟩ := HPa.out.onA h4
          have HP4 := hidden P4
          clear P4 h4
          go_wp2_with fail
          refine (xalign_w b2 sb N L _ HP4.out.B (by omega)).mono ?_
          rintro en w5 ⟨rfl, h5⟩
          obtain ⟨s5, P5⟩ := HP4.out.onB h5
          have HP5 := hidden P5
          have HL5 := hidden (show up8 L ≤ L + 32000 by unfold up8; omega)
          clear P5 h5 HP4
          generalize up8 L = L5 at HP5 HL5
          have hL5 := HL5.out
          go_wp2_with fail
          refine (bytes_any b1 _ N L5 _ HP5.out.A (by omega)).mono ?_
          rintro en w6 ⟨v6, rfl, O6, S6, F6⟩
          have HP6 := hidden (HP5.out.made S6)
          have HO6 := hidden O6
          clear O6 S6 F6 HP5
          go_wp2_with fail
          refine (xbytes_any b2 _ N L5 _ HP6.out.B (by omega)).mono ?_
          rintro en w7 ⟨v7, rfl, O7, S7, F7⟩
          have HP7 := hidden (HP6.out.made S7)
          have HO6' := hidden (owns_step HO6.out S7 (fun _ _ h => h))
          have HO7 := hidden O7
          clear O7 S7 F7 HP6 HO6
          go_wp2_with fail
          refine (same_any _ _ _ _ _ (Rd.of_own HO6'.out) (Rd.of_own HO7.out) (by rw [bytesOf_length]; omega)).mono ?_
          rintro en w8 ⟨he, q8, hw8⟩
          rw [decide_eq_true rfl] at he
          subst he
          have HP8 := hidden (HP7.out.drewN q8)
          rw [← hw8] at HP8
          clear hw8 HP7 HO6' HO7
          go_wp2_with fail
          refine (bytes_any b1 _ N L5 _ HP8.out.A (by omega)).mono ?_
          rintro en w9 ⟨v9, rfl, O9, S9, F9⟩
          have HP9 := hidden (HP8.out.made S9)
          have HO9 := hidden O9
          have HF9 := hidden F9
          clear O9 S9 F9
          go_wp2_with fail
          refine (spoil_any v9 _ _ _ HO9.out (by omega)).mono ?_
          rintro en w10 ⟨rfl, S10⟩
          have HP10 := hidden (HP9.out.off S10 (fun i hi => by
            rcases HF9.out with e | e
            · rw [e] at hi; cases hi
            · rw [e] at hi
              have hi' := Option.some.inj hi
              refine ⟨fun ho => ?_, by have := HP8.out.st.size; omega⟩
              have := (HP8.out.lt i ho).2
              omega))
          clear S10 HP9 HO9 HF9 HP8
          go_wp2
          go_roundw
          case rel => exact htail.out _ _ _ _ _ HP10.out HL5.out
          case measure => simp [intOf]; omega
        · have hnb : Hid (¬ Own2 b1 b2 sa sb wr.heap.size) := fun h => by have := (HP.out.lt _ h).2; omega
          by_cases hk1 : kd = 1
          · subst hk1
            obtain ⟨r, N5, L5, hLe, G1, G2⟩ := put_two w b1 b2 sa sb N L hL2 x n
            have HC1 : Hid (∀ w2, Both w w2 b1 b2 sa sb N L N L → w2.cell? ⟨wr.heap.size, 1, none⟩ = some (.int .i64 x) → w2.cell? ⟨wr.heap.size, 2, none⟩ = some (.int .i64 n) → Calls Try.prog 11 #[.pointer (some ⟨b1, 0, none⟩), .int .i64 x, .int .i64 n] w2 fun e w' => e = .returned (.int .i64 r) ∧ Hid (∃ s, Both w w' b1 b2 s sb N5 L5 N L) ∧ w'.cell? ⟨wr.heap.size, 1, none⟩ = some (.int .i64 x) ∧ w'.cell? ⟨wr.heap.size, 2, none⟩ = some (.int .i64 n)) := by
              intro w2 hB h1 h2
              refine (G1 w2 hB).mono ?_
              rintro e w' ⟨rfl, s, hB', hS⟩
              exact ⟨rfl, ⟨s, hB'⟩, hS.cell h1 (fun h => hnb.out (.inl h)), hS.cell h2 (fun h => hnb.out (.inl h))⟩
            have HC2 : Hid (∀ w2, Hid (∃ s, Both w w2 b1 b2 s sb N5 L5 N L) → w2.cell? ⟨wr.heap.size, 1, none⟩ = some (.int .i64 x) → w2.cell? ⟨wr.heap.size, 2, none⟩ = some (.int .i64 n) → Calls Try.prog 12 #[.pointer (some ⟨b2, 0, none⟩), .int .i64 x, .int .i64 n] w2 fun e w' => e = .returned (.int .i64 r) ∧ Hid (∃ s s', Both w w' b1 b2 s s' N5 L5 N5 L5) ∧ w'.cell? ⟨wr.heap.size, 1, none⟩ = some (.int .i64 x) ∧ w'.cell? ⟨wr.heap.size, 2, none⟩ = some (.int .i64 n)) := by
              intro w2 hB h1 h2
              obtain ⟨s, hB⟩ := hB.out
              refine (G2 w2 s hB).mono ?_
              rintro e w' ⟨rfl, s', hB', hS⟩
              exact ⟨rfl, ⟨s, s', hB'⟩, hS.cell h1 (fun h => hnb.out (.inr h)), hS.cell h2 (fun h => hnb.out (.inr h))⟩
            have HLe := hidden hLe
            clear G1 G2 hLe
            go_wp2_with fail
            have HPd := hidden HPa.out.drew
            have ca1 : (wr.alloc (.cells #[.int .i64 1, .int .i64 x, .int .i64 n, .slice aB nB cB, .slice aC nC cC] 31)).cell? ⟨wr.heap.size, 1, none⟩ = some (.int .i64 x) := by simp
            have ca2 : (wr.alloc (.cells #[.int .i64 1, .int .i64 x, .int .i64 n, .slice aB nB cB, .slice aC nC cC] 31)).cell? ⟨wr.heap.size, 2, none⟩ = some (.int .i64 n) := by simp
            generalize (wr.alloc (.cells #[.int .i64 1, .int .i64 x, .int .i64 n, .slice aB nB cB, .slice aC nC cC] 31)) = wa at HPd ca1 ca2 ⊢
            generalize wr.heap.size = sx at HC1 HC2 ca1 ca2 ⊢
            clear c1 c2 c3 c4 c5 hblw
            go_region_held3 (fun w' => w'.cell? ⟨sx, 1, none⟩ = some (.int .i64 x) ∧ w'.cell? ⟨sx, 2, none⟩ = some (.int .i64 n)) (go_keep) (first | (go_at_call 11; refine (HC1.out _ HPd.out ?_ ?_).mono ?_; (simp [*]); (simp [*]); rintro e w' ⟨rfl, hB', hc1, hc2⟩) | (go_at_call 12; refine (HC2.out _ hB' ?_ ?_).mono ?_; (simp [*]); (simp [*]); rintro e w'' ⟨rfl, hB'', hc1', hc2'⟩))
            obtain ⟨s5, s5', P5⟩ := hB''.out
            have HP5 := hidden P5
            have HL5 := hidden (show L5 ≤ L + 32000 by have := HLe.out; omega)
            have hL5 : L5 ≤ 7000000 := by have := HLe.out; omega
            clear P5 hB'' hB' hc1 hc2 hc1' hc2' ca1 ca2 HC1 HC2 HPd
            go_wp2_with fail
            refine (bytes_any b1 _ N5 L5 _ HP5.out.A (by omega)).mono ?_
            rintro en w6 ⟨v6, rfl, O6, S6, F6⟩
            have HP6 := hidden (HP5.out.made S6)
            have HO6 := hidden O6
            clear O6 S6 F6 HP5
            go_wp2_with fail
            refine (xbytes_any b2 _ N5 L5 _ HP6.out.B (by omega)).mono ?_
            rintro en w7 ⟨v7, rfl, O7, S7, F7⟩
            have HP7 := hidden (HP6.out.made S7)
            have HO6' := hidden (owns_step HO6.out S7 (fun _ _ h => h))
            have HO7 := hidden O7
            clear O7 S7 F7 HP6 HO6
            go_wp2_with fail
            refine (same_any _ _ _ _ _ (Rd.of_own HO6'.out) (Rd.of_own HO7.out) (by rw [bytesOf_length]; omega)).mono ?_
            rintro en w8 ⟨he, q8, hw8⟩
            rw [decide_eq_true rfl] at he
            subst he
            have HP8 := hidden (HP7.out.drewN q8)
            rw [← hw8] at HP8
            clear hw8 HP7 HO6' HO7
            go_wp2_with fail
            refine (bytes_any b1 _ N5 L5 _ HP8.out.A (by omega)).mono ?_
            rintro en w9 ⟨v9, rfl, O9, S9, F9⟩
            have HP9 := hidden (HP8.out.made S9)
            have HO9 := hidden O9
            have HF9 := hidden F9
            clear O9 S9 F9
            go_wp2_with fail
            refine (spoil_any v9 _ _ _ HO9.out (by omega)).mono ?_
            rintro en w10 ⟨rfl, S10⟩
            have HP10 := hidden (HP9.out.off S10 (fun i hi => by
              rcases HF9.out with e | e
              · rw [e] at hi; cases hi
              · rw [e] at hi
                have hi' := Option.some.inj hi
                refine ⟨fun ho => ?_, by have := HP8.out.st.size; omega⟩
                have := (HP8.out.lt i ho).2
                omega))
            clear S10 HP9 HO9 HF9 HP8
            go_wp2
            go_roundw
            case rel => exact htail.out _ _ _ _ _ HP10.out HL5.out
            case measure => simp [intOf]; omega
          · by_cases hkk2 : kd = 2
            · subst hkk2
              obtain ⟨r, N5, L5, hLe, G1, G2⟩ := code_two w b1 b2 sa sb N L hL2 x n
              have HC1 : Hid (∀ w2, Both w w2 b1 b2 sa sb N L N L → w2.cell? ⟨wr.heap.size, 1, none⟩ = some (.int .i64 x) → w2.cell? ⟨wr.heap.size, 2, none⟩ = some (.int .i64 n) → Calls Try.prog 13 #[.pointer (some ⟨b1, 0, none⟩), .int .i64 x, .int .i64 n] w2 fun e w' => e = .returned (.int .i64 r) ∧ Hid (∃ s, Both w w' b1 b2 s sb N5 L5 N L) ∧ w'.cell? ⟨wr.heap.size, 1, none⟩ = some (.int .i64 x) ∧ w'.cell? ⟨wr.heap.size, 2, none⟩ = some (.int .i64 n)) := by
                intro w2 hB h1 h2
                refine (G1 w2 hB).mono ?_
                rintro e w' ⟨rfl, s, hB', hS⟩
                exact ⟨rfl, ⟨s, hB'⟩, hS.cell h1 (fun h => hnb.out (.inl h)), hS.cell h2 (fun h => hnb.out (.inl h))⟩
              have HC2 : Hid (∀ w2, Hid (∃ s, Both w w2 b1 b2 s sb N5 L5 N L) → w2.cell? ⟨wr.heap.size, 1, none⟩ = some (.int .i64 x) → w2.cell? ⟨wr.heap.size, 2, none⟩ = some (.int .i64 n) → Calls Try.prog 14 #[.pointer (some ⟨b2, 0, none⟩), .int .i64 x, .int .i64 n] w2 fun e w' => e = .returned (.int .i64 r) ∧ Hid (∃ s s', Both w w' b1 b2 s s' N5 L5 N5 L5) ∧ w'.cell? ⟨wr.heap.size, 1, none⟩ = some (.int .i64 x) ∧ w'.cell? ⟨wr.heap.size, 2, none⟩ = some (.int .i64 n)) := by
                intro w2 hB h1 h2
                obtain ⟨s, hB⟩ := hB.out
                refine (G2 w2 s hB).mono ?_
                rintro e w' ⟨rfl, s', hB', hS⟩
                exact ⟨rfl, ⟨s, s', hB'⟩, hS.cell h1 (fun h => hnb.out (.inr h)), hS.cell h2 (fun h => hnb.out (.inr h))⟩
              have HLe := hidden hLe
              clear G1 G2 hLe
              go_wp2_with fail
              have HPd := hidden HPa.out.drew
              have ca1 : (wr.alloc (.cells #[.int .i64 2, .int .i64 x, .int .i64 n, .slice aB nB cB, .slice aC nC cC] 31)).cell? ⟨wr.heap.size, 1, none⟩ = some (.int .i64 x) := by simp
              have ca2 : (wr.alloc (.cells #[.int .i64 2, .int .i64 x, .int .i64 n, .slice aB nB cB, .slice aC nC cC] 31)).cell? ⟨wr.heap.size, 2, none⟩ = some (.int .i64 n) := by simp
              generalize (wr.alloc (.cells #[.int .i64 2, .int .i64 x, .int .i64 n, .slice aB nB cB, .slice aC nC cC] 31)) = wa at HPd ca1 ca2 ⊢
              generalize wr.heap.size = sx at HC1 HC2 ca1 ca2 ⊢
              clear c1 c2 c3 c4 c5 hblw
              go_region_held3 (fun w' => w'.cell? ⟨sx, 1, none⟩ = some (.int .i64 x) ∧ w'.cell? ⟨sx, 2, none⟩ = some (.int .i64 n)) (go_keep) (first | (go_at_call 13; refine (HC1.out _ HPd.out ?_ ?_).mono ?_; (simp [*]); (simp [*]); rintro e w' ⟨rfl, hB', hc1, hc2⟩) | (go_at_call 14; refine (HC2.out _ hB' ?_ ?_).mono ?_; (simp [*]); (simp [*]); rintro e w'' ⟨rfl, hB'', hc1', hc2'⟩))
              obtain ⟨s5, s5', P5⟩ := hB''.out
              have HP5 := hidden P5
              have HL5 := hidden (show L5 ≤ L + 32000 by have := HLe.out; omega)
              have hL5 : L5 ≤ 7000000 := by have := HLe.out; omega
              clear P5 hB'' hB' hc1 hc2 hc1' hc2' ca1 ca2 HC1 HC2 HPd
              go_wp2_with fail
              refine (bytes_any b1 _ N5 L5 _ HP5.out.A (by omega)).mono ?_
              rintro en w6 ⟨v6, rfl, O6, S6, F6⟩
              have HP6 := hidden (HP5.out.made S6)
              have HO6 := hidden O6
              clear O6 S6 F6 HP5
              go_wp2_with fail
              refine (xbytes_any b2 _ N5 L5 _ HP6.out.B (by omega)).mono ?_
              rintro en w7 ⟨v7, rfl, O7, S7, F7⟩
              have HP7 := hidden (HP6.out.made S7)
              have HO6' := hidden (owns_step HO6.out S7 (fun _ _ h => h))
              have HO7 := hidden O7
              clear O7 S7 F7 HP6 HO6
              go_wp2_with fail
              refine (same_any _ _ _ _ _ (Rd.of_own HO6'.out) (Rd.of_own HO7.out) (by rw [bytesOf_length]; omega)).mono ?_
              rintro en w8 ⟨he, q8, hw8⟩
              rw [decide_eq_true rfl] at he
              subst he
              have HP8 := hidden (HP7.out.drewN q8)
              rw [← hw8] at HP8
              clear hw8 HP7 HO6' HO7
              go_wp2_with fail
              refine (bytes_any b1 _ N5 L5 _ HP8.out.A (by omega)).mono ?_
              rintro en w9 ⟨v9, rfl, O9, S9, F9⟩
              have HP9 := hidden (HP8.out.made S9)
              have HO9 := hidden O9
              have HF9 := hidden F9
              clear O9 S9 F9
              go_wp2_with fail
              refine (spoil_any v9 _ _ _ HO9.out (by omega)).mono ?_
              rintro en w10 ⟨rfl, S10⟩
              have HP10 := hidden (HP9.out.off S10 (fun i hi => by
                rcases HF9.out with e | e
                · rw [e] at hi; cases hi
                · rw [e] at hi
                  have hi' := Option.some.inj hi
                  refine ⟨fun ho => ?_, by have := HP8.out.st.size; omega⟩
                  have := (HP8.out.lt i ho).2
                  omega))
              clear S10 HP9 HO9 HF9 HP8
              go_wp2
              go_roundw
              case rel => exact htail.out _ _ _ _ _ HP10.out HL5.out
              case measure => simp [intOf]; omega
            · by_cases hkk4 : kd = 4
              · subst hkk4
                have hrB := HA1.out.rB.step HPa.out.st (fun _ _ _ _ _ h => h)
                have HRm := hidden (roomy_any _ B _ hrB (by have := HlB.out; omega))
                have hb3 : Hid ((wr.alloc (.cells #[.int .i64 4, .int .i64 x, .int .i64 n, .slice aB nB cB, .slice aC nC cC] 31)).cell? ⟨wr.heap.size, 3, none⟩ = some (.slice aB nB cB)) := by show _ = _; simp
                have hb4 : Hid ((wr.alloc (.cells #[.int .i64 4, .int .i64 x, .int .i64 n, .slice aB nB cB, .slice aC nC cC] 31)).cell? ⟨wr.heap.size, 4, none⟩ = some (.slice aC nC cC)) := by show _ = _; simp
                clear hrB
                go_wp2_with fail
                refine HRm.out.mono ?_
                rintro en w4 ⟨g, cp, he, Y4, hg4, S4⟩
                rw [HlB.out] at he
                subst he
                have hcp : nB + 2 ≤ cp := by have := Y4.room; have := HlB.out; omega
                have hcp2 : (nB : Int) ≤ (cp : Int) := by omega
                have hcp3 : (0 : Int) ≤ (nB : Int) := by omega
                have st4 : Step (fun _ => False) w w4 := HPa.out.st.made S4
                have hown4 : ∀ i, Own2 b1 b2 sa sb i → i < w4.heap.size := fun i h => by have := (HP.out.lt i h).2; have := S4.size; simp at this; omega
                have HH : Hid (Hold w w4 w4.heap.size b1 b2 sa sb N L N L g cp B C (.slice aB nB cB) (.slice aC nC cC)) := by
                  refine ⟨HPa.out.made S4, Y4, HA1.out.rB.step st4 (fun _ _ _ _ _ h => h), HA1.out.rC.step st4 (fun _ _ _ _ _ h => h), ⟨?_, (Y4.own.lt g rfl).2, fun h => ?_⟩, HA1.out.rB.lt', HA1.out.rC.lt', HA1.out.bB, HA1.out.bC⟩
                  · have := HPa.out.st.size; omega
                  · have h1 := (HP.out.lt g h).2
                    simp at hg4
                    omega
                have d3 := S4.cell hb3.out (fun h => h)
                have d4 := S4.cell hb4.out (fun h => h)
                obtain ⟨r, N5, L5, hLe, C1, C2⟩ := raw_hold w w4.heap.size b1 b2 sa sb N L hL2 g cp B C (.slice aB nB cB) (.slice aC nC cC) (by have := HlB.out; omega) (by have := HlC.out; omega) wr.heap.size hnb.out hown4 (.slice aB nB cB) (.slice aC nC cC)
                rw [HlB.out] at C1
                have HC1 := hidden C1
                have HC2 := hidden C2
                have HC3 : Hid (∀ w2, Hid (∃ s s', Hold w w2 w4.heap.size b1 b2 s s' N5 L5 N5 L5 g cp B C (.slice aB nB cB) (.slice aC nC cC)) → w2.cell? ⟨wr.heap.size, 3, none⟩ = some (.slice aB nB cB) → w2.cell? ⟨wr.heap.size, 4, none⟩ = some (.slice aC nC cC) →
                    Calls Try.prog 20 #[.slice (some ⟨g, 0, none⟩) (nB + 1) cp, .slice aB nB cB] w2 fun e w' => e = .returned (.bool true) ∧ Hid (∃ s s', Hold w w' w4.heap.size b1 b2 s s' N5 L5 N5 L5 g cp B C (.slice aB nB cB) (.slice aC nC cC)) ∧ w'.cell? ⟨wr.heap.size, 3, none⟩ = some (.slice aB nB cB) ∧ w'.cell? ⟨wr.heap.size, 4, none⟩ = some (.slice aC nC cC)) := by
                  intro w2 h2 e3 e4
                  obtain ⟨s, s', H2⟩ := h2.out
                  have R := stands_any g cp _ B w2 H2.Y H2.rB (by have := HlB.out; omega)
                  rw [HlB.out] at R
                  refine R.mono ?_
                  rintro e w' ⟨rfl, q, rfl⟩
                  exact ⟨rfl, ⟨s, s', H2.made ((Step.refl _ _).drewN q)⟩, e3, e4⟩
                have HLe := hidden hLe
                have hsx : wr.heap.size < w4.heap.size := by have := S4.size; simp at this; omega
                clear C1 C2 hLe Y4 hg4 S4 st4 hown4 HRm hb3 hb4 c1 c2 c3 c4 c5 hblw HPa
                generalize wr.heap.size = sx at HC1 HC2 HC3 d3 d4 hsx ⊢
                go_wp2_with fail
                go_region_held3 (fun w' => w'.cell? ⟨sx, 3, none⟩ = some (.slice aB nB cB) ∧ w'.cell? ⟨sx, 4, none⟩ = some (.slice aC nC cC)) (go_keep) (first | (go_at_call 18; refine (HC1.out _ _ ?_ ?_ ?_ ?_ ?_ ?_).mono ?_; (first | exact (HH.out.alloc _).drew | exact ((HH.out.alloc _).alloc _).drew | exact HH.out.drew.alloc _ | exact (HH.out.drew.alloc _).alloc _); (simp); (simp); (simp); (simp [*]); (simp [*]); rintro e w' ⟨rfl, hH', hc3, hc4, hrule, hsz⟩) | (go_at_call 20; refine (HC3.out _ hH2 hc32 hc42).mono ?_; rintro e wz ⟨rfl, hH3, hc33, hc43⟩) | (go_at_call 19; refine (HC2.out _ _ ?_ ?_ ?_ ?_ ?_ ?_).mono ?_; (first | exact hH' | (obtain ⟨s1, h1⟩ := hH'.out; exact ⟨s1, h1.alloc _⟩)); (first | exact hc3 | exact hc4 | exact two_new0 _ _ _ _ | exact two_new1 _ _ _ _ | exact (hrule _ _ (Nat.le_succ _) (two_sz1 _ _ _)).trans (two_b0 _ _ _ _ _) | exact (hrule _ _ (Nat.le_succ _) (two_sz1 _ _ _)).trans (two_b1 _ _ _ _ _) | exact (hrule _ _ (Nat.le_refl _) (two_sz0 _ _ _)).trans (two_c0 _ _ _ _ _) | exact (hrule _ _ (Nat.le_refl _) (two_sz0 _ _ _)).trans (two_c1 _ _ _ _ _) | exact ((Step.refl (fun _ => False) _).alloc _).cell hc3 (fun h => h) | exact ((Step.refl (fun _ => False) _).alloc _).cell hc4 (fun h => h) | (simp; done) | (simp [*]; done) | (simp at hsz; omega)); (first | exact hc3 | exact hc4 | exact two_new0 _ _ _ _ | exact two_new1 _ _ _ _ | exact (hrule _ _ (Nat.le_succ _) (two_sz1 _ _ _)).trans (two_b0 _ _ _ _ _) | exact (hrule _ _ (Nat.le_succ _) (two_sz1 _ _ _)).trans (two_b1 _ _ _ _ _) | exact (hrule _ _ (Nat.le_refl _) (two_sz0 _ _ _)).trans (two_c0 _ _ _ _ _) | exact (hrule _ _ (Nat.le_refl _) (two_sz0 _ _ _)).trans (two_c1 _ _ _ _ _) | exact ((Step.refl (fun _ => False) _).alloc _).cell hc3 (fun h => h) | exact ((Step.refl (fun _ => False) _).alloc _).cell hc4 (fun h => h) | (simp; done) | (simp [*]; done) | (simp at hsz; omega)); (first | exact hc3 | exact hc4 | exact two_new0 _ _ _ _ | exact two_new1 _ _ _ _ | exact (hrule _ _ (Nat.le_succ _) (two_sz1 _ _ _)).trans (two_b0 _ _ _ _ _) | exact (hrule _ _ (Nat.le_succ _) (two_sz1 _ _ _)).trans (two_b1 _ _ _ _ _) | exact (hrule _ _ (Nat.le_refl _) (two_sz0 _ _ _)).trans (two_c0 _ _ _ _ _) | exact (hrule _ _ (Nat.le_refl _) (two_sz0 _ _ _)).trans (two_c1 _ _ _ _ _) | exact ((Step.refl (fun _ => False) _).alloc _).cell hc3 (fun h => h) | exact ((Step.refl (fun _ => False) _).alloc _).cell hc4 (fun h => h) | (simp; done) | (simp [*]; done) | (simp at hsz; omega)); (first | exact hc3 | exact hc4 | exact two_new0 _ _ _ _ | exact two_new1 _ _ _ _ | exact (hrule _ _ (Nat.le_succ _) (two_sz1 _ _ _)).trans (two_b0 _ _ _ _ _) | exact (hrule _ _ (Nat.le_succ _) (two_sz1 _ _ _)).trans (two_b1 _ _ _ _ _) | exact (hrule _ _ (Nat.le_refl _) (two_sz0 _ _ _)).trans (two_c0 _ _ _ _ _) | exact (hrule _ _ (Nat.le_refl _) (two_sz0 _ _ _)).trans (two_c1 _ _ _ _ _) | exact ((Step.refl (fun _ => False) _).alloc _).cell hc3 (fun h => h) | exact ((Step.refl (fun _ => False) _).alloc _).cell hc4 (fun h => h) | (simp; done) | (simp [*]; done) | (simp at hsz; omega)); (first | exact hc3 | exact hc4 | exact two_new0 _ _ _ _ | exact two_new1 _ _ _ _ | exact (hrule _ _ (Nat.le_succ _) (two_sz1 _ _ _)).trans (two_b0 _ _ _ _ _) | exact (hrule _ _ (Nat.le_succ _) (two_sz1 _ _ _)).trans (two_b1 _ _ _ _ _) | exact (hrule _ _ (Nat.le_refl _) (two_sz0 _ _ _)).trans (two_c0 _ _ _ _ _) | exact (hrule _ _ (Nat.le_refl _) (two_sz0 _ _ _)).trans (two_c1 _ _ _ _ _) | exact ((Step.refl (fun _ => False) _).alloc _).cell hc3 (fun h => h) | exact ((Step.refl (fun _ => False) _).alloc _).cell hc4 (fun h => h) | (simp; done) | (simp [*]; done) | (simp at hsz; omega)); rintro e wy ⟨rfl, hH2, hc32, hc42⟩))
                all_goals
                  obtain ⟨s5, s5', HH5⟩ := hH3.out
                  obtain ⟨xs5, O5⟩ := HH5.Y.short
                  rw [HlB.out] at O5
                  have HO5 := hidden O5
                  have HHH := hidden HH5
                  have HL5 := hidden (show L5 ≤ L + 32000 from HLe.out)
                  have hL5 : L5 ≤ 7000000 := by have := HLe.out; omega
                  clear HH5 O5 hH3 hH2 hH' hc3 hc4 hc32 hc42 hc33 hc43 hrule hsz HC1 HC2 HC3 HH
                  go_wp2_with fail
                  refine (spoil_any _ _ _ _ HO5.out (by omega)).mono ?_
                  rintro en wv ⟨rfl, Sv⟩
                  have HP5 := hidden (HHH.out.P.off Sv (fun i hi => by
                    simp [Value.ownBlock] at hi
                    subst hi
                    exact ⟨HHH.out.hg.2.2, HHH.out.hg.1⟩))
                  clear Sv HHH HO5
                  go_wp2_with fail
                  refine (bytes_any b1 _ N5 L5 _ HP5.out.A (by omega)).mono ?_
                  rintro en w6 ⟨v6, rfl, O6, S6, F6⟩
                  have HP6 := hidden (HP5.out.made S6)
                  have HO6 := hidden O6
                  clear O6 S6 F6 HP5
                  go_wp2_with fail
                  refine (xbytes_any b2 _ N5 L5 _ HP6.out.B (by omega)).mono ?_
                  rintro en w7 ⟨v7, rfl, O7, S7, F7⟩
                  have HP7 := hidden (HP6.out.made S7)
                  have HO6' := hidden (owns_step HO6.out S7 (fun _ _ h => h))
                  have HO7 := hidden O7
                  clear O7 S7 F7 HP6 HO6
                  go_wp2_with fail
                  refine (same_any _ _ _ _ _ (Rd.of_own HO6'.out) (Rd.of_own HO7.out) (by rw [bytesOf_length]; omega)).mono ?_
                  rintro en w8 ⟨he, q8, hw8⟩
                  rw [decide_eq_true rfl] at he
                  subst he
                  have HP8 := hidden (HP7.out.drewN q8)
                  rw [← hw8] at HP8
                  clear hw8 HP7 HO6' HO7
                  go_wp2_with fail
                  refine (bytes_any b1 _ N5 L5 _ HP8.out.A (by omega)).mono ?_
                  rintro en w9 ⟨v9, rfl, O9, S9, F9⟩
                  have HP9 := hidden (HP8.out.made S9)
                  have HO9 := hidden O9
                  have HF9 := hidden F9
                  clear O9 S9 F9
                  go_wp2_with fail
                  refine (spoil_any v9 _ _ _ HO9.out (by omega)).mono ?_
                  rintro en w10 ⟨rfl, S10⟩
                  have HP10 := hidden (HP9.out.off S10 (fun i hi => by
                    rcases HF9.out with e | e
                    · rw [e] at hi; cases hi
                    · rw [e] at hi
                      have hi' := Option.some.inj hi
                      refine ⟨fun ho => ?_, by have := HP8.out.st.size; omega⟩
                      have := (HP8.out.lt i ho).2
                      omega))
                  clear S10 HP9 HO9 HF9 HP8
                  go_wp2
                  go_roundw
                  case rel => exact htail.out _ _ _ _ _ HP10.out HL5.out
                  case measure => simp [intOf]; omega
              · have d1 : (kd == 1) = false := by simp [hk1]
                have d2 : (kd == 2) = false := by simp [hkk2]
                have d3 : (kd == 3) = false := by simp [hk3]
                have d4 : (kd == 4) = false := by simp [hkk4]
                have HP5 := hidden HPa.out
                have HL5 := hidden (show L ≤ L + 32000 by omega)
                have hL5 : L ≤ 7000000 := by omega
                clear hk1 hkk2 hk3 hkk4 HPa
                go_wp2_with fail
                refine (bytes_any b1 _ N L _ HP5.out.A (by omega)).mono ?_
                rintro en w6 ⟨v6, rfl, O6, S6, F6⟩
                have HP6 := hidden (HP5.out.made S6)
                have HO6 := hidden O6
                clear O6 S6 F6 HP5
                go_wp2_with fail
                refine (xbytes_any b2 _ N L _ HP6.out.B (by omega)).mono ?_
                rintro en w7 ⟨v7, rfl, O7, S7, F7⟩
                have HP7 := hidden (HP6.out.made S7)
                have HO6' := hidden (owns_step HO6.out S7 (fun _ _ h => h))
                have HO7 := hidden O7
                clear O7 S7 F7 HP6 HO6
                go_wp2_with fail
                refine (same_any _ _ _ _ _ (Rd.of_own HO6'.out) (Rd.of_own HO7.out) (by rw [bytesOf_length]; omega)).mono ?_
                rintro en w8 ⟨he, q8, hw8⟩
                rw [decide_eq_true rfl] at he
                subst he
                have HP8 := hidden (HP7.out.drewN q8)
                rw [← hw8] at HP8
                clear hw8 HP7 HO6' HO7
                go_wp2_with fail
                refine (bytes_any b1 _ N L _ HP8.out.A (by omega)).mono ?_
                rintro en w9 ⟨v9, rfl, O9, S9, F9⟩
                have HP9 := hidden (HP8.out.made S9)
                have HO9 := hidden O9
                have HF9 := hidden F9
                clear O9 S9 F9
                go_wp2_with fail
                refine (spoil_any v9 _ _ _ HO9.out (by omega)).mono ?_
                rintro en w10 ⟨rfl, S10⟩
                have HP10 := hidden (HP9.out.off S10 (fun i hi => by
                  rcases HF9.out with e | e
                  · rw [e] at hi; cases hi
                  · rw [e] at hi
                    have hi' := Option.some.inj hi
                    refine ⟨fun ho => ?_, by have := HP8.out.st.size; omega⟩
                    have := (HP8.out.lt i ho).2
                    omega))
                clear S10 HP9 HO9 HF9 HP8
                go_wp2
                go_roundw
                case rel => exact htail.out _ _ _ _ _ HP10.out HL5.out
                case measure => simp [intOf]; omega
      · have hor : ¬ ((k : Int) < (ll : Int)) ∨ ((k : Int) < (ll : Int) ∧ ¬ ((k : Int) < 200)) := by omega
        clear hlt P
        rcases hor with hq | ⟨hq, hq2⟩
        all_goals
          go_wp2_with fail
          refine (bytes_any b1 _ N L _ HP.out.A (by omega)).mono ?_
          rintro en w6 ⟨v6, rfl, O6, S6, F6⟩
          have HP6 := hidden (HP.out.made S6)
          have HO6 := hidden O6
          clear O6 S6 F6
          go_wp2_with fail
          refine (xbytes_any b2 _ N L _ HP6.out.B (by omega)).mono ?_
          rintro en w7 ⟨v7, rfl, O7, S7, F7⟩
          have HP7 := hidden (HP6.out.made S7)
          have HO6' := hidden (owns_step HO6.out S7 (fun _ _ h => h))
          have HO7 := hidden O7
          clear O7 S7 F7 HP6 HO6
          go_wp2_with fail
          refine (same_any _ _ _ _ _ (Rd.of_own HO6'.out) (Rd.of_own HO7.out) (by rw [bytesOf_length]; omega)).mono ?_
          rintro en w8 ⟨he, q8, hw8⟩
          rw [decide_eq_true rfl] at he
          subst he
          have HP8 := hidden (HP7.out.drewN q8)
          rw [← hw8] at HP8
          clear hw8 HP7 HO6' HO7
          go_wp2_with (go_at_call 25; refine (known_any _).mono ?_; rintro e w' ⟨rfl, hs⟩; have HK := hidden hs; clear hs)
          go_ret
          exact ⟨rfl, (HP8.out.st.made HK.out).below _ (Nat.le_refl _) (fun _ h => h.elim)⟩

end Go.Proofs.Ytelengfdbhambaa
