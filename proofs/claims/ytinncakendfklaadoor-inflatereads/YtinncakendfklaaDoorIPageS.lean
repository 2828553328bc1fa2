/-
  The page's own stream, its rows hidden: get, lay, stored.
-/
import Derived.Test.YtinncakendfklaaDoorIPage
import Derived.Test.YtinncakendfklaaDoorIStored
namespace Go.Proofs.YtinncakendfklaaDoor
open Go.RowKit
set_option maxRecDepth 100000
set_option linter.unusedVariables false

/-- The page's stream, in blocks of Z. -/
def PS (w : World) (Z : Nat → Prop) (p b : Nat) (r : Value) (M m t : Nat) (O : List Nat) (most : Int) (e : Nat) : Prop :=
  ∃ v, Sx w p b r v M m t O most e ∧ Z p ∧ Z b ∧ (∀ k, v.ownBlock = some k → Z k) ∧ (∀ a n c, r = .slice (some a) n c → bytesOf M m ≠ [] → ¬ Z a.block)

/-- What a step of it leaves. -/
def Pn (w w' : World) (Z : Nat → Prop) (p b : Nat) (r : Value) (M m t : Nat) (O : List Nat) (most : Int) (e : Nat) : Prop := PS w' Z p b r M m t O most e ∧ Step Z w w'

theorem pg_ok (Z : Nat → Prop) (p b : Nat) (r : Value) (M m t : Nat) (O : List Nat) (most : Int) (n : Nat) (w : World) (h : PS w Z p b r M m t O most 0) (hm : m ≤ 1000000) (hn : n ≤ 24) (hs : t + n ≤ 8 * m) :
    Calls Tryd.prog 32 #[.pointer (some ⟨p, 0, none⟩), .int .i64 n] w fun e w' => e = .returned (.int .i64 ((M / 2 ^ t % 2 ^ n : Nat) : Int)) ∧ Hid (Pn w w' Z p b r M m (t + n) O most 0) := by
  obtain ⟨v, h1, h2, h3, h4, h5⟩ := h
  exact (pget_ok p b r v M m t O most n w h1 (by omega) hn hs).mono fun e w' ⟨he, hq⟩ => ⟨he, hidden ⟨⟨v, hq.out.1, h2, h3, h4, h5⟩, hq.out.2.mono (fun i hi => by rcases hi with e | e <;> (rw [e]; assumption))⟩⟩
theorem pg_short (Z : Nat → Prop) (p b : Nat) (r : Value) (M m t : Nat) (O : List Nat) (most : Int) (n : Nat) (w : World) (h : PS w Z p b r M m t O most 0) (hm : m ≤ 1000000) (hn : n ≤ 24) (hs : 8 * m < t + n) :
    Calls Tryd.prog 32 #[.pointer (some ⟨p, 0, none⟩), .int .i64 n] w fun e w' => e = .returned (.int .i64 0) ∧ Hid (Pn w w' Z p b r M m t O most 2) := by
  obtain ⟨v, h1, h2, h3, h4, h5⟩ := h
  exact (pget_short p b r v M m t O most n w h1 (by omega) hn hs).mono fun e w' ⟨he, hq⟩ => ⟨he, hidden ⟨⟨v, hq.out.1, h2, h3, h4, h5⟩, hq.out.2.mono (fun i hi => by rcases hi with e | e <;> (rw [e]; assumption))⟩⟩

/-- Bytes went behind those that came out. -/
theorem Sx.appended {w w1 : World} {p b : Nat} {r v v1 : Value} {M m t : Nat} {O C : List Nat} {most : Int} {e : Nat} (h : Sx w p b r v M m t O most e) (hown : w1.ownsRow 0 5 1 v1 (O.length + C.length) (u8s (O ++ C))) (St : Step (fun k => v.ownBlock = some k) w w1) (hv : v1.ownBlock = v.ownBlock ∨ ∃ k, v1.ownBlock = some k ∧ w.heap.size ≤ k) (hC : ∀ y ∈ C, y < 256) :
    w1.cell? ⟨p, 1, none⟩ = some v ∧ w1.frozen? ⟨p, 1, none⟩ = false ∧ Sx (w1.setCell ⟨p, 1, none⟩ v1) p b r v1 M m t (O ++ C) most e := by
  have hpw : p < w.heap.size := World.block_lt_of_cell? w _ h.ci
  have hbw : b < w.heap.size := World.block_lt_of_cell? w _ h.rx.ins
  have h1 : Sx w1 p b r v M m t O most e ∨ True := .inr trivial
  have c1 := St.cell h.co h.vp
  have f1 := (St.frozen (p := ⟨p, 1, none⟩) hpw h.vp).trans h.f1
  have hvp : v1.ownBlock ≠ some p := by
    rcases hv with e | ⟨k, e, hk⟩
    · rw [e]; exact h.vp
    · rw [e]; intro e2; have := Option.some.inj e2; omega
  have hvb : v1.ownBlock ≠ some b := by
    rcases hv with e | ⟨k, e, hk⟩
    · rw [e]; exact h.vb
    · rw [e]; intro e2; have := Option.some.inj e2; omega
  have S2 : Step (fun k => k = p) w1 (w1.setCell ⟨p, 1, none⟩ v1) := (Step.refl (fun k => k = p) w1).setCell ⟨p, 1, none⟩ v1 (.inl rfl)
  have hne : ∀ j u', j ≠ 1 → w1.cell? ⟨p, j, none⟩ = some u' → (w1.setCell ⟨p, 1, none⟩ v1).cell? ⟨p, j, none⟩ = some u' := fun j u' hj hu => by
    rw [World.cell?_setCell_other (a := ⟨p, 1, none⟩) (b := ⟨p, j, none⟩) _ _ (by intro e; injection e with _ e2; exact hj e2.symm)]; exact hu
  refine ⟨c1, f1, ⟨hne 0 _ (by omega) (St.cell h.ci h.vp), ?_, World.cell?_setCell_same _ _ _ c1, hne 2 _ (by omega) (St.cell h.cm h.vp), hne 3 _ (by omega) (St.cell h.ce h.vp), ?_, ?_, ?_, h.pb, hvp, hvb, ?_, ?_⟩⟩
  · exact (h.rx.step St h.vb (fun a n c hr hn hq => (h.rp a n c hr hn).2 hq)).step S2 (fun e => h.pb e.symm) (fun a n c hr hn e => (h.rp a n c hr hn).1 e)
  · rw [World.frozen?_setCell]; exact f1
  · rw [World.frozen?_setCell]; exact (St.frozen (p := ⟨p, 3, none⟩) hpw h.vp).trans h.f3
  · rw [List.length_append]
    exact owns_step hown S2 (fun k hk e => hvp (by rw [hk, e]))
  · intro a n c hr hn
    refine ⟨(h.rp a n c hr hn).1, ?_⟩
    rcases hv with e | ⟨k, e, hk⟩
    · rw [e]; exact (h.rp a n c hr hn).2
    · rw [e]; intro e2
      have e3 := Option.some.inj e2
      obtain ⟨ao, cap, er, _, h2⟩ := h.rx.rd
      rw [hr] at er
      injection er with er1
      obtain ⟨ba, off, hb2, hc2⟩ := h2 a er1.symm hn
      have hl : 0 < (bytesOf M m).length := by cases hh : bytesOf M m with | nil => exact absurd hh hn | cons => simp
      have := World.block_lt_of_cell? w _ (hc2 0 hl)
      rw [hb2] at e3
      have e4 : k = ba := e3
      have : ba < w.heap.size := this
      omega
  · intro y hy
    rcases List.mem_append.1 hy with e | e
    · exact h.by_ y e
    · exact hC y e

/-- What lay leaves. -/
def LayQ (w w' : World) (Z : Nat → Prop) (p b : Nat) (r : Value) (M m t : Nat) (O : List Nat) (most : Int) (c : Nat) : Prop := if 1 ≤ most - (O.length : Int) then Pn w w' Z p b r M m t (O ++ [c]) most 0 else Pn w w' Z p b r M m t O most 5

set_option maxHeartbeats 2000000 in
theorem lay_p (Z : Nat → Prop) (p b : Nat) (r : Value) (M m t : Nat) (O : List Nat) (most : Int) (c : Nat) (w : World) (h : PS w Z p b r M m t O most 0) (hB : ∀ k, w.heap.size ≤ k → Z k) (hc : c < 256) (hO : O.length ≤ 10000000000) (h0 : 0 ≤ most) (h1 : most ≤ 9223372036854775807) :
    Calls Tryd.prog 54 #[.pointer (some ⟨p, 0, none⟩), .int .u8 c] w fun e w' => e = .returned (.tuple #[]) ∧ Hid (LayQ w w' Z p b r M m t O most c) := by
  obtain ⟨v, hx, h2, h3, h4, h5⟩ := h
  obtain ⟨ao, cap, hs⟩ := own_slice hx.ow
  have co := hx.co
  have cm := hx.cm
  have ce := hx.ce
  have f3 := hx.f3
  rw [hs] at co
  have H := hidden hx
  obtain ⟨L, hL⟩ : ∃ L, L = O.length := ⟨_, rfl⟩
  have HL := hidden hL
  rw [← hL] at co hO hs
  have HV := hidden hs
  clear hx hs hL
  by_cases g : 1 ≤ most - (L : Int)
  · have g2 : ¬ most ≤ (L : Int) := by omega
    have HO : Hid (∀ q, ((w.drewN q).alloc (.cells #[.int .u8 (c : Int)] 5)).ownsRow 0 5 1 (.slice ao L cap) L (u8s O)) := hidden (fun q => by have := (H.out.drewN q).ow.alloc (.cells #[.int .u8 (c : Int)] 5); rw [HV.out, ← HL.out] at this; exact this)
    have HR := hidden (fun q => Rd.lit (w.drewN q) c)
    go_enter Tryd.func54, Tryd.ntmps54
    go_wp2
    go_quiet (fail)
    go_wp2_with (at_builtin; refine append_bytes rfl (.tmp 21) (.tmp 23) rfl _ _ _ rfl (HO.out _) _ [c] rfl (HR.out _) ?d1 ?_)
    case d1 => show L + 1 ≤ 137438953600; omega
    intro v2 w2 ho2 hg2 hb2
    have St : Step (fun k => v.ownBlock = some k) w w2 := (((Step.refl _ w).drewN _).alloc _).grown hg2 (fun k hk => .inl (by rw [HV.out]; exact hk))
    have hv2 : v2.ownBlock = v.ownBlock ∨ ∃ k, v2.ownBlock = some k ∧ w.heap.size ≤ k := by
      rcases hb2 with e | e
      · exact .inl (by rw [e, HV.out])
      · exact .inr ⟨_, e, by simp⟩
    have HA := hidden (H.out.appended (C := [c]) (by rw [← HL.out]; exact ho2) St hv2 (fun y hy => by rw [List.mem_singleton.1 hy]; exact hc))
    have HST := hidden (And.intro St hv2)
    obtain ⟨a2, c2, hvv⟩ := own_slice ho2
    subst hvv
    have c6 := HA.out.1
    have f6 := HA.out.2.1
    rw [HV.out] at c6
    clear ho2 hg2 hb2 St hv2
    go_wp2
    go_end0
    refine ⟨rfl, ?_⟩
    have hQ : ∀ w', Pn w w' Z p b r M m t (O ++ [c]) most 0 → Hid (LayQ w w' Z p b r M m t O most c) := fun w' h => by unfold LayQ; rw [← HL.out, if_pos g]; exact h
    refine hQ _ ⟨⟨_, HA.out.2.2, h2, h3, fun k hk => ?_, h5⟩, (HST.out.1.mono (fun k hk => h4 k hk)).setCell _ _ (.inl h2)⟩
    rcases HST.out.2 with e | ⟨j, e, hj⟩
    · exact h4 k (by rw [← e]; exact hk)
    · rw [e] at hk; have := Option.some.inj hk; exact hB k (by omega)
  · have g2 : most ≤ (L : Int) := by omega
    go_enter Tryd.func54, Tryd.ntmps54
    go_wp2
    go_quiet (fail)
    go_wp2
    refine bodyPost_ret (results_none rfl _ _ _) rfl ?_
    refine ⟨rfl, ?_⟩
    have hQ : ∀ w', Pn w w' Z p b r M m t O most 5 → Hid (LayQ w w' Z p b r M m t O most c) := fun w' h => by unfold LayQ; rw [← HL.out, if_neg (by omega)]; exact h
    exact hQ _ ⟨⟨v, (H.out.drewN _).err 5, h2, h3, h4, h5⟩, ((Step.refl _ w).drewN _).setCell _ _ (.inl h2)⟩

end Go.Proofs.YtinncakendfklaaDoor
