/-
  Lines, each ended in whatever way, one behind the other.
-/
import Derived.Test.YthomkgajilmphaaULinesN
namespace Go.Proofs.Ythomkgajilmphaa
open Go Go.Lib

/-- What the first i lines, joined to acc, leave of any text behind them; fl: a 0d alone stands at the end. -/
structure Jn (L : List (List UInt8)) (i : Nat) (acc : List UInt8) (fl : Bool) : Prop where
  next : fl = true → i < L.length → L.getD i [] ≠ []
  lines : ∀ t, (fl = true → ∀ b u, t = b :: u → b ≠ 10) → lnG false [] (acc ++ t) = L.take i ++ lnG false [] t

def plainL (x : List UInt8) : Prop := ∀ b ∈ x, b ≠ 10 ∧ b ≠ 13

theorem Jn.start (L : List (List UInt8)) : Jn L 0 [] false := ⟨fun h => (by cases h), fun t _ => by simp⟩
theorem take_one (L : List (List UInt8)) (i : Nat) (h : i < L.length) : L.take (i + 1) = L.take i ++ [L.getD i []] := by
  rw [List.take_succ_eq_append_getElem h]
  simp [List.getD, h]
theorem head_plain {x t : List UInt8} (hx : x ≠ []) (hp : plainL x) : ∀ b u, x ++ t = b :: u → b ≠ 10 := by
  intro b u h
  obtain ⟨c, y, rfl⟩ := List.exists_cons_of_ne_nil hx
  injection h with h1 _
  subst h1
  exact (hp c (by simp)).1
theorem Jn.lf {L : List (List UInt8)} {i : Nat} {acc : List UInt8} {fl : Bool} (h : Jn L i acc fl) (hi : i < L.length) (hp : plainL (L.getD i [])) : Jn L (i + 1) (acc ++ L.getD i [] ++ [10]) false := by
  refine ⟨fun h => (by cases h), fun t _ => ?_⟩
  rw [List.append_assoc, List.append_assoc, h.lines (L.getD i [] ++ ([10] ++ t)) (fun hf => head_plain (h.next hf hi) hp), take_one L i hi, List.append_assoc]
  exact congrArg (L.take i ++ ·) (lnG_line _ t hp 10 (.inl rfl))
theorem Jn.crlf {L : List (List UInt8)} {i : Nat} {acc : List UInt8} {fl : Bool} (h : Jn L i acc fl) (hi : i < L.length) (hp : plainL (L.getD i [])) : Jn L (i + 1) (acc ++ L.getD i [] ++ [13, 10]) false := by
  refine ⟨fun h => (by cases h), fun t _ => ?_⟩
  rw [List.append_assoc, List.append_assoc, h.lines (L.getD i [] ++ ([13, 10] ++ t)) (fun hf => head_plain (h.next hf hi) hp), take_one L i hi, List.append_assoc]
  exact congrArg (L.take i ++ ·) (lnG_line2 _ t hp)
theorem Jn.cr {L : List (List UInt8)} {i : Nat} {acc : List UInt8} {fl : Bool} (h : Jn L i acc fl) (hi : i < L.length) (hp : plainL (L.getD i [])) (hn : i + 1 < L.length → L.getD (i + 1) [] ≠ []) : Jn L (i + 1) (acc ++ L.getD i [] ++ [13]) true := by
  refine ⟨fun _ h => hn h, fun t ht => ?_⟩
  rw [List.append_assoc, List.append_assoc, h.lines (L.getD i [] ++ ([13] ++ t)) (fun hf => head_plain (h.next hf hi) hp), take_one L i hi, List.append_assoc]
  refine congrArg (L.take i ++ ·) ((lnG_line _ t hp 13 (.inr rfl)).trans ?_)
  exact congrArg (List.cons _) (lnG_flag [] t (ht rfl))
theorem Jn.fin {L : List (List UInt8)} {acc : List UInt8} {fl : Bool} (h : Jn L L.length acc fl) : linesD acc = L := by
  have := h.lines [] (fun _ b u h => by cases h)
  rw [List.append_nil, List.take_length] at this
  unfold linesD
  rw [this]
  simp [lnG]

end Go.Proofs.Ythomkgajilmphaa
