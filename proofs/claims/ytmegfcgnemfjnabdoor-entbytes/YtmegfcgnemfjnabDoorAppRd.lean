/-
  A row of bytes, nil or not, goes behind a row of the call's own.
-/
import Derived.Test.YtmegfcgnemfjnabDoorRow
namespace Go.Proofs.YtmegfcgnemfjnabDoor
open Go.RowKit

theorem append_bytes {w : World} {ops : Array Oper} {rest : List Oper} {o : Oper} {a : Act} {Q : Exit → Act → World → Prop} (hgd : o.guard = none) (s x : Operand)
    (ho : o.op = .call { callee := .builtin .append, args := #[s, x], argTypes := #[23, 23] })
    (v : Value) (n : Nat) (C : List Nat) (hs : a.eval s = v) (hown : w.ownsRow 0 5 1 v n (u8s C))
    (xv : Value) (B : List Nat) (hx : a.eval x = xv) (hr : Rd w xv B) (hb : n + B.length ≤ 137438953600)
    (h : ∀ v' w', w'.ownsRow 0 5 1 v' (n + B.length) (u8s (C ++ B)) → w.grownBy w' v.ownBlock → (v'.ownBlock = v.ownBlock ∨ v'.ownBlock = some w.heap.size) → wpList Tryd.prog ops Q rest (a.put o.dst v') w') :
    wpList Tryd.prog ops Q (o :: rest) a w := by
  obtain ⟨i0, hi, hz0, hz1, hz2⟩ := info_parts Tryd.info5
  obtain ⟨ao, cap, e, h1, _⟩ := id hr
  subst e
  cases ao with
  | none =>
    obtain ⟨rfl, rfl⟩ := h1 rfl
    exact wpList_append_own_none hgd s x 23 ho 0 5 i0 1 Tryd.underlying23 hi v n (u8s C) hs hown hx (h v w (by simpa using hown) (World.grownBy.refl _ _) (.inl rfl))
  | some ad =>
    exact wpList_append_at w hgd s x 23 ho 5 i0 (.int .u8 0) 1 1 Tryd.underlying23 hi hz0 hz1 hz2 rfl (by decide) v n (u8s C) hs hown ad B.length cap (u8s B) hx (by rw [u8s_length]; omega) hr.news (u8s_one _) (by unfold maxLen; omega) (by omega)
      (fun v' w' k1 k2 _ k4 => h v' w' (by rw [u8s_append]; exact k1) k2 k4)

end Go.Proofs.YtmegfcgnemfjnabDoor
