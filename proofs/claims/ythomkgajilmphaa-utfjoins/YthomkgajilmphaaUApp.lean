/-
  A row of texts goes behind one of the call's own; a text as bytes; two texts side by side.
-/
import Derived.Test.YthomkgajilmphaaUTexts
import Derived.Test.YthomkgajilmphaaURepair
import Derived.Lib.ConvBytes
namespace Go.Proofs.Ythomkgajilmphaa
open Go.RowKit Go.Lib

theorem run_append_ss {w : World} (ty : TypeId) (v x : Value) (n : Nat) (C L : List (List UInt8)) (hown : w.ownsRow 0 9 1 v n (strs C)) (hr : Ss w x L) (h63 : n + L.length ≤ 1000000) :
    ∃ v' w', (Builtin.append_ #[23, 23] ty #[v, x]).run Try.prog w = .ok v' w' ∧ w'.ownsRow 0 9 1 v' (n + L.length) (strs (C ++ L)) ∧ w.grownBy w' v.ownBlock ∧ (v'.ownBlock = v.ownBlock ∨ v'.ownBlock = some w.heap.size) := by
  obtain ⟨i0, hi, hz0, hz1, hz2⟩ := info_parts Try.info9
  have hr' := hr
  obtain ⟨ao, cap, rfl, h1, h2⟩ := hr
  cases ao with
  | none =>
    obtain ⟨rfl, rfl⟩ := h1 rfl
    exact ⟨v, w, run_append_owned_none (P := Try.prog) (w := w) 0 23 ty 9 i0 1 Try.underlying23 hi v n (strs C) hown, by simpa using hown, World.grownBy.refl _ _, .inl rfl⟩
  | some ad =>
    obtain ⟨v', w', hr, h2, h3, _, h5⟩ := append_own (P := Try.prog) w 23 ty 9 i0 (.string ⟨#[]⟩) 1 16 Try.underlying23 hi hz0 hz1 hz2 rfl (by decide) v n (strs C) hown ad L.length cap (strs L) (by rw [strs_length]; omega) hr'.news (strs_one _) (by unfold maxLen; omega) (by omega)
    exact ⟨v', w', hr, by rw [strs_append]; exact h2, h3, h5⟩

theorem wpList_append_ss {w : World} {ops : Array Oper} {rest : List Oper} {o : Oper} {a : Act} {Q : Exit → Act → World → Prop} (hgd : o.guard = none) (s x : Operand)
    (ho : o.op = .call { callee := .builtin .append, args := #[s, x], argTypes := #[23, 23] })
    (v : Value) (n : Nat) (C : List (List UInt8)) (hs : a.eval s = v) (hown : w.ownsRow 0 9 1 v n (strs C)) (xv : Value) (L : List (List UInt8)) (hx : a.eval x = xv) (hr : Ss w xv L) (h63 : n + L.length ≤ 1000000)
    (h : ∀ v' w', w'.ownsRow 0 9 1 v' (n + L.length) (strs (C ++ L)) → w.grownBy w' v.ownBlock → (v'.ownBlock = v.ownBlock ∨ v'.ownBlock = some w.heap.size) → wpList Try.prog ops Q rest (a.put o.dst v') w') : wpList Try.prog ops Q (o :: rest) a w := by
  refine wpList_plain hgd fun K hK' => ?_
  obtain ⟨v', w', hr, h2, h3, h5⟩ := run_append_ss (w := w) o.type v xv n C L hown hr h63
  unfold Oper.wp
  simp [execOp, ho, resolve, invoke, builtin, hs, hx, hr, Result.andThen]
  exact hK' _ _ (h v' w' h2 h3 h5)

/-- A text turned into bytes: the step, and what the row reads. -/
theorem bytes_step (w : World) (s : ByteArray) : Step (fun _ => False) w (Lib.bytesWorld w 5 s) := by
  refine ⟨?_, ?_, ?_, by rw [Lib.bytesWorld_size]; omega, fun k hk _ => Lib.bytesWorld_at_old w 5 s k hk⟩ <;> simp [Lib.bytesWorld, World.freeze, World.alloc, World.drew, -World.alloc_eq, -World.drew_eq]
theorem bytes_rb (w : World) (l : List UInt8) (c : Nat) : Rb (Lib.bytesWorld w 5 ⟨l.toArray⟩) (.slice (some ⟨w.heap.size, 0, none⟩) l.length c) l := by
  refine ⟨some ⟨w.heap.size, 0, none⟩, c, by simp, fun h => (by cases h), fun a ha _ => ⟨w.heap.size, 0, (Option.some.inj ha).symm, fun k hk => ?_⟩⟩
  have hk2 : k < l.length := by simpa using hk
  rw [Nat.zero_add, Lib.bytesWorld_cell w 5 ⟨l.toArray⟩ k (by rw [ba_size]; exact hk2)]
  simp [List.getD, hk2]
theorem run_bytes (w : World) (l : List UInt8) : (convert 9 31 (str l)).run Try.prog w = .ok (.slice (some ⟨w.heap.size, 0, none⟩) l.length (grownCap w l.length 0 5)) (Lib.bytesWorld w 5 ⟨l.toArray⟩) := by
  have := Lib.run_convert_string_bytes (P := Try.prog) w 9 31 5 ⟨l.toArray⟩ Try.underlying9 Try.underlying31 Try.underlying5
  rw [ba_size] at this
  exact this
theorem cat_str (a b : List UInt8) : (⟨a.toArray⟩ : ByteArray) ++ ⟨b.toArray⟩ = ⟨(a ++ b).toArray⟩ := by
  apply ByteArray.ext
  simp

/-- A text, turned into bytes and repaired. -/
theorem rep_conv (l : List UInt8) (hl : l.length ≤ 100000) (w : World) :
    Calls Try.prog 12 #[.slice (some ⟨w.heap.size, 0, none⟩) l.length (grownCap w l.length 0 5)] (Lib.bytesWorld w 5 ⟨l.toArray⟩) fun e w' => e = .returned (str (repair l)) ∧ Step (fun _ => False) w w' := by
  refine (repair_any _ l _ (bytes_rb w l _) hl).mono ?_
  rintro e w' ⟨rfl, S⟩
  exact ⟨rfl, (bytes_step w ⟨l.toArray⟩).made S⟩

end Go.Proofs.Ythomkgajilmphaa
