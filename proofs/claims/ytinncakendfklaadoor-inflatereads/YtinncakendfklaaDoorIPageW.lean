/-
  The page's own stream: the symbols of a block.
-/
import Derived.Test.YtinncakendfklaaDoorIPageV
import Derived.BigRegion
namespace Go.Proofs.YtinncakendfklaaDoor
open Go.RowKit
set_option maxRecDepth 100000
set_option linter.unusedVariables false

/-- Two decoders of the page beside a stream. -/
structure PBs (Z : Nat → Prop) (r : Value) (d1 : Nat) (L : List Int) (c1 l1 : Value) (d2 : Nat) (D : List Int) (c2 l2 : Value) : Prop where
  a : PB Z r d1 L c1 l1
  b : PB Z r d2 D c2 l2
  ne : d1 ≠ d2
  c12 : ∀ a n c, c1 = .slice (some a) n c → codes L ≠ [] → a.block ≠ d2
  l12 : ∀ a n c, l1 = .slice (some a) n c → L ≠ [] → a.block ≠ d2
  c21 : ∀ a n c, c2 = .slice (some a) n c → codes D ≠ [] → a.block ≠ d1
  l21 : ∀ a n c, l2 = .slice (some a) n c → D ≠ [] → a.block ≠ d1

/-- A stream with its two decoders. -/
def PD (w : World) (Z : Nat → Prop) (p b : Nat) (r : Value) (M m t : Nat) (O : List Nat) (most : Int) (d1 : Nat) (L : List Int) (c1 l1 : Value) (d2 : Nat) (D : List Int) (c2 l2 : Value) : Prop :=
  PS w Z p b r M m t O most 0 ∧ RDec w d1 L c1 l1 0 0 ∧ RDec w d2 D c2 l2 0 0

/-- The blocks that symbols write. -/
def Zd (Z : Nat → Prop) (d1 d2 k : Nat) : Prop := Z k ∨ k = d1 ∨ k = d2

theorem PD.sym1 {Z : Nat → Prop} {p b : Nat} {r : Value} {M m t : Nat} {O : List Nat} {most : Int} {d1 : Nat} {L : List Int} {c1 l1 : Value} {d2 : Nat} {D : List Int} {c2 l2 : Value} {w : World} (h : PD w Z p b r M m t O most d1 L c1 l1 d2 D c2 l2) (hb : PBs Z r d1 L c1 l1 d2 D c2 l2) (hm : m ≤ 1000000) (hL : newErr L = 0) :
    Calls Tryd.prog 53 #[.pointer (some ⟨p, 0, none⟩), .pointer (some ⟨d1, 0, none⟩)] w fun e w' => Hid (Step (Zd Z d1 d2) w w') ∧
      match symV L M m t with
      | .error y => e = .returned (.int .i64 (-1)) ∧ Hid (0 < y ∧ ∃ t', PS w' Z p b r M m t' O most y)
      | .ok (i, u) => e = .returned (.int .i64 (i : Int)) ∧ (w'.cell? ⟨p, 3, none⟩ = some (.int .i64 0) ∧ w'.frozen? ⟨p, 3, none⟩ = false) ∧ Hid (PD w' Z p b r M m u O most d1 L c1 l1 d2 D c2 l2) := by
  refine (psymbol_any Z p b r M m t O most d1 L c1 l1 w h.1 h.2.1 hb.a hm hL).mono fun e w' ⟨⟨hs, hr⟩, hok⟩ => ⟨hidden (hs.out.mono (fun i hi => hi.elim .inl (fun e => .inr (.inl e)))), ?_⟩
  cases hq : symV L M m t with
  | error y =>
    rw [hq] at hr hok
    exact ⟨hr.1, hidden ⟨by rcases hok with e | e <;> omega, hr.2.out⟩⟩
  | ok z =>
    obtain ⟨i, u⟩ := z
    rw [hq] at hr
    exact ⟨hr.1, ⟨hr.2.out.1.cells.2.2.1, hr.2.out.1.cells.2.2.2.1⟩, hidden ⟨hr.2.out.1, hr.2.out.2, h.2.2.farZ hs.out (fun e => e.elim hb.b.dz (fun e => hb.ne e.symm)) (fun a n c e1 e2 e => e.elim (hb.b.cz a n c e1 e2) (hb.c21 a n c e1 e2)) (fun a n c e1 e2 e => e.elim (hb.b.lz a n c e1 e2) (hb.l21 a n c e1 e2))⟩⟩

theorem PD.sym2 {Z : Nat → Prop} {p b : Nat} {r : Value} {M m t : Nat} {O : List Nat} {most : Int} {d1 : Nat} {L : List Int} {c1 l1 : Value} {d2 : Nat} {D : List Int} {c2 l2 : Value} {w : World} (h : PD w Z p b r M m t O most d1 L c1 l1 d2 D c2 l2) (hb : PBs Z r d1 L c1 l1 d2 D c2 l2) (hm : m ≤ 1000000) (hD : newErr D = 0) :
    Calls Tryd.prog 53 #[.pointer (some ⟨p, 0, none⟩), .pointer (some ⟨d2, 0, none⟩)] w fun e w' => Hid (Step (Zd Z d1 d2) w w') ∧
      match symV D M m t with
      | .error y => e = .returned (.int .i64 (-1)) ∧ Hid (0 < y ∧ ∃ t', PS w' Z p b r M m t' O most y)
      | .ok (i, u) => e = .returned (.int .i64 (i : Int)) ∧ (w'.cell? ⟨p, 3, none⟩ = some (.int .i64 0) ∧ w'.frozen? ⟨p, 3, none⟩ = false) ∧ Hid (PD w' Z p b r M m u O most d1 L c1 l1 d2 D c2 l2) := by
  refine (psymbol_any Z p b r M m t O most d2 D c2 l2 w h.1 h.2.2 hb.b hm hD).mono fun e w' ⟨⟨hs, hr⟩, hok⟩ => ⟨hidden (hs.out.mono (fun i hi => hi.elim .inl (fun e => .inr (.inr e)))), ?_⟩
  cases hq : symV D M m t with
  | error y =>
    rw [hq] at hr hok
    exact ⟨hr.1, hidden ⟨by rcases hok with e | e <;> omega, hr.2.out⟩⟩
  | ok z =>
    obtain ⟨i, u⟩ := z
    rw [hq] at hr
    exact ⟨hr.1, ⟨hr.2.out.1.cells.2.2.1, hr.2.out.1.cells.2.2.2.1⟩, hidden ⟨hr.2.out.1, h.2.1.farZ hs.out (fun e => e.elim hb.a.dz (fun e => hb.ne e)) (fun a n c e1 e2 e => e.elim (hb.a.cz a n c e1 e2) (hb.c12 a n c e1 e2)) (fun a n c e1 e2 e => e.elim (hb.a.lz a n c e1 e2) (hb.l12 a n c e1 e2)), hr.2.out.2⟩⟩

/-- The decoders stand where the stream alone goes on. -/
theorem PD.on {Z : Nat → Prop} {p b : Nat} {r : Value} {M m t t' : Nat} {O O' : List Nat} {most : Int} {d1 : Nat} {L : List Int} {c1 l1 : Value} {d2 : Nat} {D : List Int} {c2 l2 : Value} {w w' : World} (h : PD w Z p b r M m t O most d1 L c1 l1 d2 D c2 l2) (hb : PBs Z r d1 L c1 l1 d2 D c2 l2) (hn : Pn w w' Z p b r M m t' O' most 0) : PD w' Z p b r M m t' O' most d1 L c1 l1 d2 D c2 l2 :=
  ⟨hn.1, hb.a.dec h.2.1 hn.2, hb.b.dec h.2.2 hn.2⟩

/-- What symbols leave. -/
def PSymsE (w : World) (Z : Nat → Prop) (p b : Nat) (r : Value) (M m : Nat) (most : Int) (d1 d2 : Nat) (x : Except Nat (Nat × List Nat)) (w' : World) : Prop :=
  Step (Zd Z d1 d2) w w' ∧
  match x with
  | .error y => 0 < y ∧ ∃ t' O', PS w' Z p b r M m t' O' most y
  | .ok (u, Q) => PS w' Z p b r M m u Q most 0 ∧ Q.length ≤ 258 * u

/-- Between two rounds. -/
def PRo (w : World) (Z : Nat → Prop) (p b : Nat) (r : Value) (M m t : Nat) (O : List Nat) (most : Int) (d1 : Nat) (L : List Int) (c1 l1 : Value) (d2 : Nat) (D : List Int) (c2 l2 : Value) (k : Nat) (e : Nat) (wr : World) : Prop :=
  Step (Zd Z d1 d2) w wr ∧
  ((e = 0 ∧ ∃ u Q, k = 8 * m + 1 - u ∧ u ≤ 8 * m ∧ (∀ r, Syms L D M m most u Q r → Syms L D M m most t O r) ∧ PD wr Z p b r M m u Q most d1 L c1 l1 d2 D c2 l2 ∧ Q.length ≤ 258 * u) ∨
   (0 < e ∧ Syms L D M m most t O (.error e) ∧ ∃ u Q, PS wr Z p b r M m u Q most e))

theorem PRo.cell {w : World} {Z : Nat → Prop} {p b : Nat} {r : Value} {M m t : Nat} {O : List Nat} {most : Int} {d1 : Nat} {L : List Int} {c1 l1 : Value} {d2 : Nat} {D : List Int} {c2 l2 : Value} {k e : Nat} {wr : World} (h : PRo w Z p b r M m t O most d1 L c1 l1 d2 D c2 l2 k e wr) : wr.cell? ⟨p, 3, none⟩ = some (.int .i64 (e : Int)) := by
  rcases h.2 with ⟨rfl, u, Q, _, _, _, hp, _⟩ | ⟨_, _, u, Q, hp⟩
  · exact hp.1.cells.2.2.1
  · exact hp.cells.2.2.1

theorem Zd.on {Z : Nat → Prop} {d1 d2 : Nat} {w w1 w2 : World} (h : Step (Zd Z d1 d2) w w1) (h2 : Step Z w1 w2) : Step (Zd Z d1 d2) w w2 := h.trans h2 (fun i hi => .inl (.inl hi))
theorem Zd.trans {Z : Nat → Prop} {d1 d2 : Nat} {w w1 w2 : World} (h : Step (Zd Z d1 d2) w w1) (h2 : Step (Zd Z d1 d2) w1 w2) : Step (Zd Z d1 d2) w w2 := h.trans h2 (fun i hi => .inl hi)

/-- A copy of a match, j bytes of n of it. -/
def PCo (w1 : World) (Z : Nat → Prop) (p b : Nat) (r : Value) (M m u : Nat) (Q : List Nat) (most : Int) (dd n : Nat) (j e : Nat) (W : World) : Prop :=
  Step Z w1 W ∧ ((e = 0 ∧ (0 < j → ((Q.length + j : Nat) : Int) ≤ most) ∧ PS W Z p b r M m u (copyP Q dd j) most 0) ∨ (e = 5 ∧ most < ((Q.length + n : Nat) : Int) ∧ ∃ Q', PS W Z p b r M m u Q' most 5))

theorem PCo.cell {w1 : World} {Z : Nat → Prop} {p b : Nat} {r : Value} {M m u : Nat} {Q : List Nat} {most : Int} {dd n j e : Nat} {W : World} (h : PCo w1 Z p b r M m u Q most dd n j e W) : W.cell? ⟨p, 3, none⟩ = some (.int .i64 (e : Int)) := by
  rcases h.2 with ⟨rfl, _, hp⟩ | ⟨rfl, _, _, hp⟩
  · exact hp.cells.2.2.1
  · exact hp.cells.2.2.1

theorem PS.drew {w : World} {Z : Nat → Prop} {p b : Nat} {r : Value} {M m t : Nat} {O : List Nat} {most : Int} {e : Nat} (h : PS w Z p b r M m t O most e) : PS w.drew Z p b r M m t O most e := h.drewN 1

end Go.Proofs.YtinncakendfklaaDoor
