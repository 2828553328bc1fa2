/-
  Signs that are spelt: what stands between the first sign and the last one; numbers and names; the page's way and the code's.
-/
import Derived.Test.YtmegfcgnemfjnabDoorUN
import Derived.Test.YtmegfcgnemfjnabDoorUPageN
namespace Go.Proofs.YtmegfcgnemfjnabDoor
open Go Go.Lib

/-- What a digit counts; 99: it is none. -/
def dv (c : Nat) : Nat := if 48 ≤ c ∧ c ≤ 57 then c - 48 else if 97 ≤ c ∧ c ≤ 102 then c - 87 else if 65 ≤ c ∧ c ≤ 70 then c - 55 else 99
abbrev isD (base : Nat) (c : UInt8) : Bool := decide (dv c.toNat < base)
def numv (base : Nat) (d : List UInt8) : Nat := d.foldl (fun v c => v * base + dv c.toNat) 0
theorem numv_snoc (base : Nat) (d : List UInt8) (c : UInt8) : numv base (d ++ [c]) = numv base d * base + dv c.toNat := by
  unfold numv; rw [List.foldl_append]; rfl
theorem fold_lt (base : Nat) (d : List UInt8) (h : d.all (isD base) = true) : ∀ v, d.foldl (fun v c => v * base + dv c.toNat) v < (v + 1) * base ^ d.length := by
  induction d with
  | nil => intro v; simp
  | cons c d ih =>
    intro v
    rw [List.all_cons, Bool.and_eq_true] at h
    have h1 := ih h.2 (v * base + dv c.toNat)
    have h2 : dv c.toNat < base := by simpa [isD] using h.1
    rw [List.foldl_cons, List.length_cons, Nat.pow_succ, Nat.mul_comm (base ^ d.length) base, ← Nat.mul_assoc]
    refine Nat.lt_of_lt_of_le h1 (Nat.mul_le_mul_right _ ?_)
    rw [Nat.succ_mul]
    omega
theorem numv_lt (base : Nat) (d : List UInt8) (h : d.all (isD base) = true) : numv base d < base ^ d.length := by
  have := fold_lt base d h 0
  simpa [numv] using this
def fixr (v : Nat) : Nat := if v = 0 ∨ 1114111 < v ∨ (55296 ≤ v ∧ v ≤ 57343) then 65533 else v
theorem fixr_ok (v : Nat) : okR (fixr v) := by unfold fixr okR; split <;> omega
theorem enc_fixr (v : Nat) : encodeRune ((if v = 0 then 65533 else v : Nat) : Int) = encodeRune (fixr v : Int) := by
  unfold fixr
  by_cases h0 : v = 0
  · rw [if_pos h0, if_pos (.inl h0)]
  · rw [if_neg h0]
    by_cases h : 1114111 < v ∨ (55296 ≤ v ∧ v ≤ 57343)
    · rw [if_pos (.inr h)]
      unfold encodeRune
      rw [encodeRuneZ_bad (by omega)]
      rfl
    · rw [if_neg (by omega)]

/-- A number by its digits. -/
def parseC (base : Nat) (d : List UInt8) : Option Nat := if d ≠ [] ∧ d.all (isD base) = true then some (fixr (numv base d)) else none
def numC : List UInt8 → Option Nat
  | [] => none
  | c :: d => if c.toNat = 120 ∨ c.toNat = 88 then parseC 16 d else parseC 10 (c :: d)
def nameC (w : List UInt8) : Option Nat :=
  if w = [97, 109, 112] then some 38 else if w = [108, 116] then some 60 else if w = [103, 116] then some 62 else if w = [113, 117, 111, 116] then some 34 else if w = [97, 112, 111, 115] then some 39
  else if w = [110, 98, 115, 112] then some 160 else if w = [99, 111, 112, 121] then some 169 else if w = [104, 101, 108, 108, 105, 112] then some 8230 else if w = [109, 100, 97, 115, 104] then some 8212 else none
/-- What stands between the first sign and the last one stands for. -/
def spC : List UInt8 → Option Nat
  | [] => nameC []
  | c :: d => if c.toNat = 35 then numC d else nameC (c :: d)

/-- The place of the last sign. -/
def semi (l : List UInt8) : Nat := ((l.take 10).takeWhile fun c => c.toNat != 59).length
def wordOf (l : List UInt8) : Option (List UInt8) := if bN l 0 = 38 ∧ 1 ≤ semi l ∧ semi l < min l.length 10 then some ((l.take (semi l)).drop 1) else none
def ansC : Option Nat → Nat → List UInt8 × Nat
  | some r, n => (encodeRune (r : Int), n)
  | none, _ => ([], 0)
def atC (l : List UInt8) : List UInt8 × Nat := match wordOf l with
  | some w => ansC (spC w) (w.length + 2)
  | none => ([], 0)

def clean (w : List UInt8) : Prop := ∀ c ∈ w, c.toNat ≠ 59

theorem tw_stop {α : Type} (p : α → Bool) (a : List α) (x : α) (t : List α) (h : ∀ c ∈ a, p c = true) (hx : p x = false) : (a ++ x :: t).takeWhile p = a := by
  rw [List.takeWhile_append_of_pos h, List.takeWhile_cons, hx]
  simp

theorem tw_all {α : Type} (p : α → Bool) (a : List α) (h : ∀ c ∈ a, p c = true) : a.takeWhile p = a := by
  induction a with
  | nil => rfl
  | cons x a ih => rw [List.takeWhile_cons, h x (List.mem_cons_self ..), ih (fun c hc => h c (List.mem_cons_of_mem _ hc))]; simp

theorem semi_form (w t : List UInt8) (hw : clean w) (hl : w.length ≤ 8) : semi (38 :: (w ++ 59 :: t)) = w.length + 1 := by
  unfold semi
  have e : (38 :: (w ++ 59 :: t)).take 10 = (38 :: w) ++ 59 :: t.take (8 - w.length) := by
    rw [show (38 :: (w ++ 59 :: t) : List UInt8) = (38 :: w) ++ 59 :: t by simp, List.take_append, List.take_of_length_le (by simp; omega)]
    rw [show 10 - (38 :: w : List UInt8).length = (8 - w.length) + 1 by simp; omega, List.take_succ_cons]
  rw [e, tw_stop _ _ _ _ (fun c hc => ?_) (by decide)]
  · simp
  · rcases List.mem_cons.1 hc with rfl | hc
    · decide
    · simpa using hw c hc
theorem wordOf_form (w t : List UInt8) (hw : clean w) (hl : w.length ≤ 8) : wordOf (38 :: (w ++ 59 :: t)) = some w := by
  unfold wordOf
  rw [semi_form w t hw hl, if_pos ⟨rfl, by omega, by simp; omega⟩]
  congr 1
  rw [show (38 :: (w ++ 59 :: t) : List UInt8) = (38 :: w) ++ 59 :: t by simp, List.take_append, List.take_of_length_le (by simp)]
  simp

theorem semi_le (l : List UInt8) : semi l ≤ min l.length 10 := by
  unfold semi
  have := (List.takeWhile_prefix (fun c : UInt8 => c.toNat != 59) (l := l.take 10)).length_le
  rw [List.length_take] at this
  omega
theorem semi_split (l : List UInt8) (h : semi l < min l.length 10) : l = l.take (semi l) ++ 59 :: l.drop (semi l + 1) ∧ clean (l.take (semi l)) := by
  have hsl := semi_le l
  have e : l.take (semi l) = (l.take 10).takeWhile fun c => c.toNat != 59 := by
    have hp := List.takeWhile_prefix (fun c : UInt8 => c.toNat != 59) (l := l.take 10)
    rw [List.prefix_iff_eq_take] at hp
    rw [hp, List.take_take]
    unfold semi
    congr 1
    have := (List.takeWhile_prefix (fun c : UInt8 => c.toNat != 59) (l := l.take 10)).length_le
    rw [List.length_take] at this
    omega
  have hk : semi l < l.length := by omega
  have hat : l[semi l]'hk = 59 := by
    have h2 : semi l < (l.take 10).length := by rw [List.length_take]; omega
    have hne : (l.take 10).dropWhile (fun c : UInt8 => c.toNat != 59) ≠ [] := by
      intro hh
      have := List.takeWhile_append_dropWhile (p := fun c : UInt8 => c.toNat != 59) (l := l.take 10)
      rw [hh, List.append_nil] at this
      have hx := congrArg List.length this
      unfold semi at h2
      omega
    have hh := List.head_dropWhile_not (fun c : UInt8 => c.toNat != 59) hne
    have hg : ((l.take 10).dropWhile (fun c : UInt8 => c.toNat != 59)).head hne = l[semi l]'hk := by
      have ha := List.takeWhile_append_dropWhile (p := fun c : UInt8 => c.toNat != 59) (l := l.take 10)
      have hb : l[semi l]'hk = (l.take 10)[semi l]'h2 := by rw [List.getElem_take]
      rw [hb]
      have hc : (l.take 10)[semi l]? = some (((l.take 10).dropWhile (fun c : UInt8 => c.toNat != 59)).head hne) := by
        conv => lhs; rw [← ha]
        rw [List.getElem?_append_right (by unfold semi; omega)]
        rw [show semi l - ((l.take 10).takeWhile fun c => c.toNat != 59).length = 0 by unfold semi; omega]
        rw [← List.head?_eq_getElem?, List.head?_eq_some_head hne]
      rw [List.getElem?_eq_getElem h2] at hc
      exact (Option.some.inj hc).symm
    rw [hg] at hh
    have : (l[semi l]'hk).toNat = 59 := by simpa using hh
    exact UInt8.toNat_inj.1 this
  refine ⟨?_, ?_⟩
  · conv => lhs; rw [← List.take_append_drop (semi l) l]
    rw [List.drop_eq_getElem_cons hk, hat]
  · intro c hc
    rw [e] at hc
    have := List.all_eq_true.1 (List.all_takeWhile (p := fun c : UInt8 => c.toNat != 59) (l := l.take 10)) c hc
    simpa using this
theorem wordOf_some {l w : List UInt8} (h : wordOf l = some w) : ∃ t, l = 38 :: (w ++ 59 :: t) ∧ clean w ∧ w.length ≤ 8 ∧ semi l = w.length + 1 := by
  unfold wordOf at h
  by_cases hc : bN l 0 = 38 ∧ 1 ≤ semi l ∧ semi l < min l.length 10
  · rw [if_pos hc] at h
    obtain ⟨h0, h1, h2⟩ := hc
    obtain ⟨hs, hcl⟩ := semi_split l h2
    have hw := Option.some.inj h
    cases l with
    | nil => simp at h2
    | cons x l =>
      have hx : x = 38 := UInt8.toNat_inj.1 (by simpa [bN] using h0)
      subst hx
      obtain ⟨k, hk⟩ : ∃ k, semi (38 :: l) = k + 1 := ⟨semi (38 :: l) - 1, by omega⟩
      rw [hk] at hs hcl hw h2 ⊢
      rw [List.take_succ_cons] at hs hcl hw
      simp only [List.drop_succ_cons, List.drop_zero] at hw
      subst hw
      simp only [List.cons_append, List.cons.injEq, true_and] at hs
      have hlen : k < l.length := by simp at h2; omega
      refine ⟨l.drop (k + 1), by rw [List.cons.injEq]; exact ⟨rfl, by simpa using hs⟩, fun c hc => hcl c (List.mem_cons_of_mem _ hc), ?_, ?_⟩
      · rw [List.length_take]; simp at h2; omega
      · rw [List.length_take]; omega
  · rw [if_neg hc] at h; cases h

/-- The page's way. -/
def begins (l p : List UInt8) : Bool := decide (p.length ≤ l.length ∧ l.take p.length = p)
def namesR : List (List UInt8 × List UInt8) := [([97, 109, 112], [38]), ([108, 116], [60]), ([103, 116], [62]), ([113, 117, 111, 116], [34]), ([97, 112, 111, 115], [39]), ([110, 98, 115, 112], [194, 160]), ([99, 111, 112, 121], [194, 169]), ([104, 101, 108, 108, 105, 112], [226, 128, 166]), ([109, 100, 97, 115, 104], [226, 128, 148])]
def wrapN (w : List UInt8) : List UInt8 := 38 :: (w ++ [59])
def namedL (l : List UInt8) : List (List UInt8 × List UInt8) → List UInt8 × Nat
  | [] => ([], 0)
  | p :: ps => if begins l (wrapN p.1) = true then (p.2, p.1.length + 2) else namedL l ps
def namedR (l : List UInt8) : List UInt8 × Nat := namedL l namesR
def scn (base most : Nat) (l : List UInt8) : List UInt8 := (l.take most).takeWhile (isD base)
def numR (base most fr : Nat) (l : List UInt8) : List UInt8 × Nat :=
  let D := scn base most (l.drop fr)
  if D = [] ∨ l.length ≤ fr + D.length ∨ bN l (fr + D.length) ≠ 59 then ([], 0) else (encodeRune (((if numv base D = 0 then 65533 else numv base D : Nat) : Int)), fr + D.length + 1)
def atR (l : List UInt8) : List UInt8 × Nat :=
  if 0 < (namedR l).2 ∨ begins l [38, 35] = false then namedR l
  else if 2 < l.length ∧ (bN l 2 = 120 ∨ bN l 2 = 88) then numR 16 6 3 l else numR 10 7 2 l

theorem begins_iff (l p : List UInt8) : begins l p = true ↔ ∃ t, l = p ++ t := by
  unfold begins
  rw [decide_eq_true_eq]
  constructor
  · rintro ⟨_, h⟩
    exact ⟨l.drop p.length, by conv => lhs; rw [← List.take_append_drop p.length l, h]⟩
  · rintro ⟨t, rfl⟩
    simp
theorem word_uniq {w v t u : List UInt8} (hw : clean w) (hv : clean v) (h : w ++ 59 :: t = v ++ 59 :: u) : w = v := by
  have h1 : (w ++ 59 :: t).takeWhile (fun c : UInt8 => c.toNat != 59) = w := tw_stop _ _ _ _ (fun c hc => by simpa using hw c hc) (by decide)
  have h2 : (v ++ 59 :: u).takeWhile (fun c : UInt8 => c.toNat != 59) = v := tw_stop _ _ _ _ (fun c hc => by simpa using hv c hc) (by decide)
  rw [← h1, ← h2, h]
theorem begins_word (w t v : List UInt8) (hw : clean w) (hv : clean v) : begins (38 :: (w ++ 59 :: t)) (wrapN v) = decide (w = v) := by
  rw [Bool.eq_iff_iff, begins_iff, decide_eq_true_eq]
  unfold wrapN
  constructor
  · rintro ⟨u, h⟩
    simp only [List.cons_append, List.cons.injEq, true_and, List.append_assoc, List.nil_append] at h
    exact word_uniq hw hv h
  · rintro rfl
    exact ⟨t, by simp⟩
theorem begins_none (l v : List UInt8) (hl : wordOf l = none) (hv : clean v) (h8 : v.length ≤ 8) : begins l (wrapN v) = false := by
  rw [Bool.eq_false_iff, Ne, begins_iff]
  rintro ⟨u, rfl⟩
  have e : wrapN v ++ u = 38 :: (v ++ 59 :: u) := by simp [wrapN]
  rw [e, wordOf_form v u hv h8] at hl
  cases hl
theorem names_clean : ∀ p ∈ namesR, clean p.1 ∧ p.1.length ≤ 8 := by
  unfold clean namesR; decide
theorem namedL_none (l : List UInt8) (hl : wordOf l = none) : ∀ ps : List (List UInt8 × List UInt8), (∀ p ∈ ps, clean p.1 ∧ p.1.length ≤ 8) → namedL l ps = ([], 0)
  | [], _ => rfl
  | p :: ps, h => by
    unfold namedL
    rw [if_neg (by rw [begins_none l p.1 hl (h p (List.mem_cons_self ..)).1 (h p (List.mem_cons_self ..)).2]; simp)]
    exact namedL_none l hl ps (fun q hq => h q (List.mem_cons_of_mem _ hq))

theorem namedL_word (w t : List UInt8) (hw : clean w) : ∀ ps : List (List UInt8 × List UInt8), (∀ p ∈ ps, clean p.1 ∧ p.1.length ≤ 8) → namedL (38 :: (w ++ 59 :: t)) ps = match ps.find? (fun p => decide (w = p.1)) with
    | some p => (p.2, p.1.length + 2)
    | none => ([], 0)
  | [], _ => rfl
  | p :: ps, h => by
    unfold namedL
    rw [begins_word w t p.1 hw (h p (List.mem_cons_self ..)).1, List.find?_cons]
    by_cases e : w = p.1
    · simp [e]
    · simp only [e, decide_false, Bool.false_eq_true, if_false]
      exact namedL_word w t hw ps (fun q hq => h q (List.mem_cons_of_mem _ hq))

set_option maxRecDepth 100000 in
theorem named_word (w t : List UInt8) (hw : clean w) : namedR (38 :: (w ++ 59 :: t)) = ansC (nameC w) (w.length + 2) := by
  unfold namedR
  rw [namedL_word w t hw namesR names_clean]
  by_cases h1 : w = [97, 109, 112]
  · subst h1; decide +kernel
  by_cases h2 : w = [108, 116]
  · subst h2; decide +kernel
  by_cases h3 : w = [103, 116]
  · subst h3; decide +kernel
  by_cases h4 : w = [113, 117, 111, 116]
  · subst h4; decide +kernel
  by_cases h5 : w = [97, 112, 111, 115]
  · subst h5; decide +kernel
  by_cases h6 : w = [110, 98, 115, 112]
  · subst h6; decide +kernel
  by_cases h7 : w = [99, 111, 112, 121]
  · subst h7; decide +kernel
  by_cases h8 : w = [104, 101, 108, 108, 105, 112]
  · subst h8; decide +kernel
  by_cases h9 : w = [109, 100, 97, 115, 104]
  · subst h9; decide +kernel
  unfold nameC namesR
  rw [if_neg h1, if_neg h2, if_neg h3, if_neg h4, if_neg h5, if_neg h6, if_neg h7, if_neg h8, if_neg h9]
  simp [h1, h2, h3, h4, h5, h6, h7, h8, h9, ansC]

theorem begins_hash (w t : List UInt8) : begins (38 :: (w ++ 59 :: t)) [38, 35] = true ↔ ∃ d, w = 35 :: d := by
  rw [begins_iff]
  constructor
  · rintro ⟨u, h⟩
    cases w with
    | nil => simp at h
    | cons c w =>
      simp only [List.cons_append, List.cons.injEq, true_and, List.nil_append] at h
      exact ⟨w, by rw [h.1]⟩
  · rintro ⟨d, rfl⟩
    exact ⟨d ++ 59 :: t, by simp⟩

theorem scn_all (base most : Nat) (d t : List UInt8) (h : d.all (isD base) = true) (hl : d.length ≤ most) (hb : base ≤ 16) : scn base most (d ++ 59 :: t) = d := by
  unfold scn
  rw [List.take_append, List.take_of_length_le hl]
  by_cases hk : d.length = most
  · rw [show most - d.length = 0 by omega, List.take_zero, List.append_nil]
    exact tw_all _ _ (fun c hc => List.all_eq_true.1 h c hc)
  · obtain ⟨k, hk2⟩ : ∃ k, most - d.length = k + 1 := ⟨most - d.length - 1, by omega⟩
    rw [hk2, List.take_succ_cons]
    refine tw_stop _ _ _ _ (fun c hc => List.all_eq_true.1 h c hc) ?_
    have h59 : dv (59 : UInt8).toNat = 99 := by decide
    rw [decide_eq_false_iff_not, h59]
    omega

/-- Digits that end early: what stands behind them. -/
theorem scn_part (base most : Nat) (l : List UInt8) : scn base most l <+: l := by
  unfold scn
  exact (List.takeWhile_prefix _).trans (List.take_prefix _ _)

theorem scn_stop (base most : Nat) (d t : List UInt8) (h : ¬ d.all (isD base) = true) (hl : d.length ≤ most) : (scn base most (d ++ 59 :: t)).length < d.length := by
  obtain ⟨c, hc, hcd⟩ : ∃ c, c ∈ d ∧ isD base c = false := by
    rw [Bool.not_eq_true, List.all_eq_false] at h
    obtain ⟨c, hc, hd⟩ := h
    exact ⟨c, hc, by simpa using hd⟩
  obtain ⟨a, b, rfl⟩ := List.append_of_mem hc
  unfold scn
  rw [List.take_append, List.take_of_length_le hl, List.append_assoc, List.cons_append]
  have : ∀ a : List UInt8, ∀ u : List UInt8, ((a ++ c :: u).takeWhile (isD base)).length ≤ a.length := by
    intro a
    induction a with
    | nil => intro u; rw [List.nil_append, List.takeWhile_cons, hcd]; simp
    | cons x a ih =>
      intro u
      rw [List.cons_append, List.takeWhile_cons]
      split
      · simpa using ih u
      · simp
  have := this a (b ++ List.take (most - (a ++ c :: b).length) (59 :: t))
  simp only [List.length_append, List.length_cons] at this ⊢
  omega

theorem bN_at (l : List UInt8) (k : Nat) (h : k < l.length) : bN l k = (l[k]'h).toNat := by simp [bN, List.getD, h]

theorem numR_word (base most fr : Nat) (p d t : List UInt8) (hp : p.length = fr) (hd : clean d) (hl : d.length ≤ most) (hb : base ≤ 16) :
    numR base most fr (p ++ (d ++ 59 :: t)) = ansC (parseC base d) (fr + d.length + 1) := by
  unfold numR parseC
  rw [show (p ++ (d ++ 59 :: t)).drop fr = d ++ 59 :: t by rw [← hp]; simp]
  by_cases ha : d.all (isD base) = true
  · rw [scn_all base most d t ha hl hb]
    by_cases h0 : d = []
    · subst h0; simp [ansC]
    · have hlt : fr + d.length < (p ++ (d ++ 59 :: t)).length := by simp; omega
      have h59 : bN (p ++ (d ++ 59 :: t)) (fr + d.length) = 59 := by
        rw [bN_at _ _ hlt, List.getElem_append_right (by omega), List.getElem_append_right (by omega)]
        simp [hp]
      simp only [h0, h59, ne_eq, not_true_eq_false, not_false_eq_true, or_false, false_or, true_and, ha, if_true]
      rw [if_neg (by omega), enc_fixr]
      rfl
  · have hs := scn_stop base most d t ha hl
    have hpre := scn_part base most (d ++ 59 :: t)
    generalize scn base most (d ++ 59 :: t) = D at *
    have hlt : fr + D.length < (p ++ (d ++ 59 :: t)).length := by simp; omega
    have h59 : bN (p ++ (d ++ 59 :: t)) (fr + D.length) ≠ 59 := by
      rw [bN_at _ _ hlt, List.getElem_append_right (by omega), List.getElem_append_left (by omega)]
      exact hd _ (List.getElem_mem _)
    simp [h59, ha, ansC]

theorem numR_some (base most fr : Nat) (l : List UInt8) (hb : base ≤ 16) (h : numR base most fr l ≠ ([], 0)) : ∃ d t, l.drop fr = d ++ 59 :: t ∧ clean d ∧ d.length ≤ most := by
  unfold numR at h
  dsimp only at h
  split at h
  · exact absurd rfl h
  · rename_i hc
    rw [not_or, not_or] at hc
    obtain ⟨h0, h1, h2⟩ := hc
    have hpre := scn_part base most (l.drop fr)
    have hdg : ∀ c ∈ scn base most (l.drop fr), isD base c = true := fun c hc => List.all_eq_true.1 (List.all_takeWhile (p := isD base) (l := (l.drop fr).take most)) c hc
    have hlen : (scn base most (l.drop fr)).length ≤ most := by
      have := (List.takeWhile_prefix (isD base) (l := (l.drop fr).take most)).length_le
      rw [List.length_take] at this
      unfold scn
      omega
    generalize scn base most (l.drop fr) = D at *
    obtain ⟨u, hu⟩ := hpre
    have hlt : fr + D.length < l.length := by omega
    have h59 : bN l (fr + D.length) = 59 := by
      rcases Nat.eq_or_lt_of_le (Nat.le_refl (bN l (fr + D.length))) with _ | _
      · by_cases e : bN l (fr + D.length) = 59
        · exact e
        · exact absurd e h2
      · by_cases e : bN l (fr + D.length) = 59
        · exact e
        · exact absurd e h2
    rw [bN_at _ _ hlt] at h59
    have hu2 : u = 59 :: u.drop 1 := by
      have hul : D.length < (l.drop fr).length := by rw [List.length_drop]; omega
      have e1 : (l.drop fr)[D.length]'hul = l[fr + D.length]'hlt := by rw [List.getElem_drop]
      cases u with
      | nil => rw [← hu] at hul; simp at hul
      | cons x u =>
        have e2 : (l.drop fr)[D.length]'hul = x := by
          have : (l.drop fr)[D.length]? = some x := by rw [← hu, List.getElem?_append_right (Nat.le_refl _)]; simp
          rw [List.getElem?_eq_getElem hul] at this
          exact Option.some.inj this
        have : x = 59 := UInt8.toNat_inj.1 (by rw [← e2, e1, h59]; rfl)
        rw [this]; rfl
    refine ⟨D, u.drop 1, by rw [← hu2]; exact hu.symm, fun c hc h59 => ?_, hlen⟩
    have := hdg c hc
    simp only [isD, decide_eq_true_eq, h59] at this
    have : dv 59 = 99 := by decide
    omega

theorem at_eq (l : List UInt8) : atR l = atC l := by
  cases hw : wordOf l with
  | some w =>
    obtain ⟨t, rfl, hcl, hl8, _⟩ := wordOf_some hw
    unfold atC
    rw [hw]
    dsimp only
    unfold atR
    rw [named_word w t hcl]
    cases hn : nameC w with
    | some r =>
      have hsp : spC w = some r := by
        cases w with
        | nil => exact hn
        | cons c d =>
          by_cases hc : c.toNat = 35
          · exfalso
            have : c = 35 := UInt8.toNat_inj.1 hc
            subst this
            simp [nameC] at hn
          · simp only [spC, hc, if_false]; exact hn
      rw [hsp, if_pos (.inl (by simp [ansC]))]
    | none =>
      by_cases hb : begins (38 :: (w ++ 59 :: t)) [38, 35] = true
      · obtain ⟨d, rfl⟩ := (begins_hash w t).1 hb
        rw [if_neg (by rw [hb]; simp [ansC])]
        have hcd : clean d := fun c hc => hcl c (List.mem_cons_of_mem _ hc)
        simp only [List.length_cons] at hl8
        simp only [spC, show (35 : UInt8).toNat = 35 from rfl, if_true]
        cases d with
        | nil =>
          rw [if_neg (by simp [bN])]
          exact numR_word 10 7 2 [38, 35] [] t rfl (by unfold clean; simp) (by simp) (by omega)
        | cons c d =>
          have hx : bN (38 :: (35 :: c :: d ++ 59 :: t)) 2 = c.toNat := rfl
          simp only [numC]
          by_cases hc : c.toNat = 120 ∨ c.toNat = 88
          · rw [if_pos ⟨by simp, by rw [hx]; exact hc⟩, if_pos hc]
            have := numR_word 16 6 3 [38, 35, c] d t rfl (fun x hx => hcd x (List.mem_cons_of_mem _ hx)) (by simp at hl8; omega) (by omega)
            simp only [List.length_cons]
            rw [show d.length + 1 + 1 + 2 = 3 + d.length + 1 by omega]
            exact this
          · rw [if_neg (by rw [hx]; exact fun h => hc h.2), if_neg hc]
            have := numR_word 10 7 2 [38, 35] (c :: d) t rfl hcd (by simp at hl8 ⊢; omega) (by omega)
            simp only [List.length_cons] at this ⊢
            rw [show d.length + 1 + 1 + 2 = 2 + (d.length + 1) + 1 by omega]
            exact this
      · have hb2 : begins (38 :: (w ++ 59 :: t)) [38, 35] = false := by simpa using hb
        rw [if_pos (.inr hb2)]
        have hsp : spC w = none := by
          cases w with
          | nil => rfl
          | cons c d =>
            by_cases hc : c.toNat = 35
            · exfalso
              have : c = 35 := UInt8.toNat_inj.1 hc
              subst this
              exact hb ((begins_hash _ t).2 ⟨d, rfl⟩)
            · simp only [spC, hc, if_false]; exact hn
        rw [hsp]
  | none =>
    have e : atC l = ([], 0) := by unfold atC; rw [hw]
    rw [e]
    unfold atR namedR
    rw [namedL_none l hw namesR names_clean]
    by_cases hb : begins l [38, 35] = true
    · rw [if_neg (by simp [hb])]
      obtain ⟨u, rfl⟩ := (begins_iff _ _).1 hb
      by_cases hc : 2 < ([38, 35] ++ u).length ∧ (bN ([38, 35] ++ u) 2 = 120 ∨ bN ([38, 35] ++ u) 2 = 88)
      · rw [if_pos hc]
        by_cases hn : numR 16 6 3 ([38, 35] ++ u) = ([], 0)
        · exact hn
        · exfalso
          obtain ⟨d, t, hd, hcl, hl⟩ := numR_some 16 6 3 _ (by omega) hn
          cases u with
          | nil => simp at hc
          | cons c u =>
            simp only [List.cons_append, List.nil_append, List.drop_succ_cons, List.drop_zero] at hd
            subst hd
            have hc2 : c.toNat = 120 ∨ c.toNat = 88 := hc.2
            have := wordOf_form (35 :: c :: d) t (fun x hx => by
              rcases List.mem_cons.1 hx with rfl | hx
              · decide
              · rcases List.mem_cons.1 hx with rfl | hx
                · omega
                · exact hcl x hx) (by simp; omega)
            rw [show ([38, 35] ++ c :: (d ++ 59 :: t) : List UInt8) = 38 :: ((35 :: c :: d) ++ 59 :: t) by simp] at hw
            rw [this] at hw
            cases hw
      · rw [if_neg hc]
        by_cases hn : numR 10 7 2 ([38, 35] ++ u) = ([], 0)
        · exact hn
        · exfalso
          obtain ⟨d, t, hd, hcl, hl⟩ := numR_some 10 7 2 _ (by omega) hn
          simp only [List.cons_append, List.nil_append, List.drop_succ_cons, List.drop_zero] at hd
          subst hd
          have := wordOf_form (35 :: d) t (fun x hx => by
            rcases List.mem_cons.1 hx with rfl | hx
            · decide
            · exact hcl x hx) (by simp; omega)
          rw [show ([38, 35] ++ (d ++ 59 :: t) : List UInt8) = 38 :: ((35 :: d) ++ 59 :: t) by simp] at hw
          rw [this] at hw
          cases hw
    · rw [if_pos (.inr (by simpa using hb))]

end Go.Proofs.YtmegfcgnemfjnabDoor
