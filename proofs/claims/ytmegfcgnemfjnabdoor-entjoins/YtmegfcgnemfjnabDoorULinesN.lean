/-
  Lines: what a text's lines are.
-/
import Derived.Test.YtmegfcgnemfjnabDoorUN
namespace Go.Proofs.YtmegfcgnemfjnabDoor
open Go Go.Lib

/-- Lines from here on: did 0d stand just ahead, and what the line has so far. -/
def lnG : Bool → List UInt8 → List UInt8 → List (List UInt8)
  | _, cur, [] => if cur = [] then [] else [cur]
  | cr, cur, b :: t => if b = 10 ∧ cr = true then lnG false [] t else if b = 10 ∨ b = 13 then cur :: lnG (decide (b = 13)) [] t else lnG false (cur ++ [b]) t
/-- A text's lines. -/
def linesD (l : List UInt8) : List (List UInt8) := lnG false [] l

theorem lnG_plain (c : Bool) (cur : List UInt8) (b : UInt8) (t : List UInt8) (h0 : b ≠ 10) (h1 : b ≠ 13) : lnG c cur (b :: t) = lnG false (cur ++ [b]) t := by
  simp [lnG, h0, h1]
theorem lnG_skip : ∀ (q : List UInt8) (c : Bool) (cur t : List UInt8), q ≠ [] → (∀ b ∈ q, b ≠ 10 ∧ b ≠ 13) → lnG c cur (q ++ t) = lnG false (cur ++ q) t
  | [], _, _, _, h, _ => absurd rfl h
  | [b], c, cur, t, _, h => by
    have := h b (by simp)
    rw [List.cons_append, List.nil_append, lnG_plain c cur b t this.1 this.2]
  | b :: b2 :: q, c, cur, t, _, h => by
    have := h b (by simp)
    rw [List.cons_append, lnG_plain c cur b _ this.1 this.2, lnG_skip (b2 :: q) false _ t (by simp) (fun x hx => h x (by simp [hx])), List.append_assoc]
    rfl
theorem lnG_second (cur t : List UInt8) : lnG true cur (10 :: t) = lnG false [] t := by simp [lnG]
theorem lnG_lf (c : Bool) (hc : c = false) (cur t : List UInt8) : lnG c cur (10 :: t) = cur :: lnG false [] t := by
  subst hc
  simp [lnG]
theorem lnG_cr (c : Bool) (cur t : List UInt8) : lnG c cur (13 :: t) = cur :: lnG true [] t := by simp [lnG]
theorem lnG_end (c : Bool) (cur : List UInt8) : lnG c cur [] = if cur = [] then [] else [cur] := rfl
/-- Ahead of what is no 0a, it is no matter whether 0d stood there. -/
theorem lnG_flag (cur t : List UInt8) (h : ∀ b u, t = b :: u → b ≠ 10) : lnG true cur t = lnG false cur t := by
  cases t with
  | nil => rfl
  | cons b u =>
    have := h b u rfl
    simp [lnG, this]

/-- A line of plain bytes and its end. -/
theorem lnG_line (x t : List UInt8) (hx : ∀ b ∈ x, b ≠ 10 ∧ b ≠ 13) (b : UInt8) (hb : b = 10 ∨ b = 13) : lnG false [] (x ++ b :: t) = x :: lnG (decide (b = 13)) [] t := by
  have e : lnG false [] (x ++ b :: t) = lnG false x (b :: t) := by
    by_cases h : x = []
    · subst h; rfl
    · rw [lnG_skip x false [] (b :: t) h hx]; rfl
  rw [e]
  rcases hb with rfl | rfl
  · rw [lnG_lf false rfl]; rfl
  · rw [lnG_cr]; rfl
theorem lnG_line2 (x t : List UInt8) (hx : ∀ b ∈ x, b ≠ 10 ∧ b ≠ 13) : lnG false [] (x ++ 13 :: 10 :: t) = x :: lnG false [] t := by
  rw [lnG_line x (10 :: t) hx 13 (.inr rfl)]
  exact congrArg (List.cons x) (lnG_second [] t)

theorem lnG_parts : ∀ (a b : List UInt8) (c : Bool) (cur : List UInt8), lnG c cur (a ++ 10 :: b) = lnG c cur (a ++ [10]) ++ lnG false [] b
  | [], b, c, cur => by
    cases c with
    | false => rw [List.nil_append, List.nil_append, lnG_lf false rfl, lnG_lf false rfl]; rfl
    | true => rw [List.nil_append, List.nil_append, lnG_second, lnG_second]; rfl
  | x :: a, b, c, cur => by
    rw [List.cons_append, List.cons_append]
    simp only [lnG]
    repeat' split
    · exact lnG_parts a b _ _
    · rw [lnG_parts a b]; rfl
    · exact lnG_parts a b _ _
theorem linesD_parts (a b : List UInt8) : linesD (a ++ 10 :: b) = linesD (a ++ [10]) ++ linesD b := lnG_parts a b false []

theorem lnG_length : ∀ (l : List UInt8) (c : Bool) (cur : List UInt8), (lnG c cur l).length ≤ l.length + 1
  | [], _, cur => by
    simp only [lnG]
    split <;> simp
  | b :: t, c, cur => by
    simp only [lnG]
    repeat' split
    · have := lnG_length t false []; simp; omega
    · have := lnG_length t (decide (b = 13)) []; simp; omega
    · have := lnG_length t false (cur ++ [b]); simp; omega
theorem lnG_rows : ∀ (l : List UInt8) (c : Bool) (cur : List UInt8), ∀ x ∈ lnG c cur l, x.length ≤ cur.length + l.length
  | [], _, cur => by
    simp only [lnG]
    split
    · simp
    · intro x hx; simp at hx; subst hx; simp
  | b :: t, c, cur => by
    simp only [lnG]
    repeat' split
    · intro x hx; have := lnG_rows t false [] x hx; simp at this ⊢; omega
    · intro x hx
      rcases List.mem_cons.1 hx with rfl | hx
      · omega
      · have := lnG_rows t _ [] x hx; simp at this ⊢; omega
    · intro x hx; have := lnG_rows t false (cur ++ [b]) x hx; simp at this ⊢; omega

/-- A rune that ends no line is of bytes that end none. -/
theorem rune_bytes (l : List UInt8) (hne : l ≠ []) (h : (decodeL l).1 ≠ 10 ∧ (decodeL l).1 ≠ 13) : ∀ b ∈ l.take (decodeL l).2, b ≠ 10 ∧ b ≠ 13 := by
  have hl : 0 < l.length := List.length_pos_iff.2 hne
  have k0 := (l.getD 0 0).toNat_lt
  have key : ∀ b : UInt8, (b.toNat ≠ 10 ∧ b.toNat ≠ 13) → b ≠ 10 ∧ b ≠ 13 := fun b hb => ⟨fun e => by subst e; exact hb.1 rfl, fun e => by subst e; exact hb.2 rfl⟩
  rw [decodeL_N] at h ⊢
  by_cases ha : (l.getD 0 0).toNat < 128
  · have e : decodeN l.length (l.getD 0 0).toNat (l.getD 1 0).toNat (l.getD 2 0).toNat (l.getD 3 0).toNat = ((l.getD 0 0).toNat, 1) := by unfold decodeN; rw [if_pos ha]
    rw [e] at h ⊢
    intro b hb
    dsimp only at h hb
    rw [takeA l hl] at hb
    simp only [List.mem_cons, List.not_mem_nil, or_false] at hb
    subst hb
    exact key _ h
  · rcases decodeN_shape l.length (l.getD 0 0).toNat (l.getD 1 0).toNat (l.getD 2 0).toNat (l.getD 3 0).toNat with ⟨c, e⟩ | ⟨c1, c2, c3, cv, e⟩ | ⟨c1, c2, c3, c4, cv, cs, e⟩ | ⟨c1, c2, c3, c4, c5, cv, cw, e⟩ | e
    · exact absurd c ha
    all_goals
      rw [e]
      intro b hb
      dsimp only at hb
    · rw [takeB l c2] at hb
      simp only [List.mem_cons, List.not_mem_nil, or_false] at hb
      rcases hb with rfl | rfl <;> exact key _ (by omega)
    · rw [takeC l c2] at hb
      simp only [List.mem_cons, List.not_mem_nil, or_false] at hb
      rcases hb with rfl | rfl | rfl <;> exact key _ (by omega)
    · rw [takeD l c2] at hb
      simp only [List.mem_cons, List.not_mem_nil, or_false] at hb
      rcases hb with rfl | rfl | rfl | rfl <;> exact key _ (by omega)
    · rw [takeA l hl] at hb
      simp only [List.mem_cons, List.not_mem_nil, or_false] at hb
      subst hb
      exact key _ (by omega)
/-- A rune below 128 is its byte, alone. -/
theorem rune_small (l : List UInt8) (hne : l ≠ []) (r : Nat) (h : (decodeL l).1 = r) (hr : r < 128) : (decodeL l).2 = 1 ∧ l = r.toUInt8 :: l.drop 1 := by
  have hl : 0 < l.length := List.length_pos_iff.2 hne
  obtain ⟨b, t, rfl⟩ : ∃ b t, l = b :: t := List.exists_cons_of_ne_nil hne
  by_cases ha : b.toNat < 128
  · rw [decodeL_ascii b t ha] at h ⊢
    refine ⟨rfl, ?_⟩
    dsimp only at h
    subst h
    simp
  · exfalso
    rw [decodeL_N] at h
    have k0 := ((b :: t).getD 0 0).toNat_lt
    simp only [List.getD_cons_zero] at h k0
    rcases decodeN_shape (b :: t).length b.toNat ((b :: t).getD 1 0).toNat ((b :: t).getD 2 0).toNat ((b :: t).getD 3 0).toNat with ⟨c, e⟩ | ⟨c1, c2, c3, cv, e⟩ | ⟨c1, c2, c3, c4, cv, cs, e⟩ | ⟨c1, c2, c3, c4, c5, cv, cw, e⟩ | e
    all_goals (rw [e] at h; dsimp only at h; omega)

end Go.Proofs.YtmegfcgnemfjnabDoor
