/-
  A text without escapes and spelt signs; as an address; by numbers; as HTML: in plain lists.
-/
import Derived.Test.YtmegfcgnemfjnabDoorEN
import Derived.Test.YtmegfcgnemfjnabDoorCClass
import Derived.Lib.ItoaNum
namespace Go.Proofs.YtmegfcgnemfjnabDoor
open Go Go.Lib

/-- What the beginning of a text stands for. -/
def nextP : List UInt8 → List UInt8 × Nat
  | [] => ([], 1)
  | c :: t => if c.toNat = 92 ∧ t ≠ [] ∧ signB ((bN t 0 : Nat) : Int) = true then (t.take 1, 2) else if 0 < (atC (c :: t)).2 then atC (c :: t) else ([c], 1)
def unescF : Nat → List UInt8 → List UInt8
  | 0, _ => []
  | n + 1, l => if l = [] then [] else (nextP l).1 ++ unescF n (l.drop (nextP l).2)
def unesc (l : List UInt8) : List UInt8 := unescF l.length l

theorem ansC_len (r : Option Nat) (n : Nat) : (ansC r n).1.length ≤ 4 ∧ (ansC r n).2 ≤ n := by
  cases r with
  | none => simp [ansC]
  | some r => have := enc_len r; simp only [ansC]; exact ⟨this.2, Nat.le_refl _⟩
theorem atC_le (l : List UInt8) : (atC l).1.length ≤ 4 ∧ (atC l).2 ≤ l.length := by
  unfold atC
  cases hw : wordOf l with
  | none => simp
  | some w =>
    obtain ⟨t, rfl, _, _, _⟩ := wordOf_some hw
    have := ansC_len (spC w) (w.length + 2)
    simp only [List.length_cons, List.length_append]
    omega
theorem nextP_cons (c : UInt8) (t : List UInt8) : nextP (c :: t) = if c.toNat = 92 ∧ t ≠ [] ∧ signB ((bN t 0 : Nat) : Int) = true then (t.take 1, 2) else if 0 < (atC (c :: t)).2 then atC (c :: t) else ([c], 1) := rfl
theorem nextP_pos (l : List UInt8) : 1 ≤ (nextP l).2 := by
  cases l with
  | nil => simp [nextP]
  | cons c t =>
    rw [nextP_cons]
    split
    · simp
    · split
      · omega
      · simp
theorem nextP_le (l : List UInt8) (h : l ≠ []) : (nextP l).2 ≤ l.length ∧ (nextP l).1.length ≤ 4 := by
  cases l with
  | nil => exact absurd rfl h
  | cons c t =>
    rw [nextP_cons]
    split
    · rename_i hc
      have : 1 ≤ t.length := by cases t with
        | nil => exact absurd rfl hc.2.1
        | cons => simp
      simp only [List.length_cons, List.length_take]
      omega
    · split
      · have := atC_le (c :: t); omega
      · simp
theorem unescF_nil : ∀ n, unescF n [] = []
  | 0 => rfl
  | _ + 1 => rfl
theorem unescF_fuel : ∀ (n m : Nat) (l : List UInt8), l.length ≤ n → l.length ≤ m → unescF n l = unescF m l
  | 0, m, l, h, _ => by rw [List.eq_nil_of_length_eq_zero (show l.length = 0 by omega), unescF_nil, unescF_nil]
  | n, 0, l, _, h => by rw [List.eq_nil_of_length_eq_zero (show l.length = 0 by omega), unescF_nil, unescF_nil]
  | n + 1, m + 1, l, hn, hm => by
    unfold unescF
    by_cases h : l = []
    · rw [if_pos h, if_pos h]
    · rw [if_neg h, if_neg h]
      have hp := nextP_pos l
      congr 1
      have hl : 1 ≤ l.length := by cases l with
        | nil => exact absurd rfl h
        | cons => simp
      exact unescF_fuel n m _ (by rw [List.length_drop]; omega) (by rw [List.length_drop]; omega)
theorem unesc_nil : unesc [] = [] := rfl
theorem unesc_step (l : List UInt8) (h : l ≠ []) : unesc l = (nextP l).1 ++ unesc (l.drop (nextP l).2) := by
  have hl : 1 ≤ l.length := by cases l with
    | nil => exact absurd rfl h
    | cons => simp
  obtain ⟨k, hk⟩ : ∃ k, l.length = k + 1 := ⟨l.length - 1, by omega⟩
  have hp := nextP_pos l
  unfold unesc
  rw [hk]
  conv => lhs; unfold unescF
  rw [if_neg h]
  congr 1
  exact unescF_fuel _ _ _ (by rw [List.length_drop]; omega) (Nat.le_refl _)
theorem by_nexts {p : List UInt8 → Prop} (h0 : p []) (h1 : ∀ l, l ≠ [] → p (l.drop (nextP l).2) → p l) : ∀ l, p l := by
  have key : ∀ n l, l.length ≤ n → p l := by
    intro n
    induction n with
    | zero => intro l hl; rw [List.eq_nil_of_length_eq_zero (show l.length = 0 by omega)]; exact h0
    | succ n ih =>
      intro l hl
      by_cases h : l = []
      · rw [h]; exact h0
      · have hp := nextP_pos l
        have hl1 : 1 ≤ l.length := by cases l with
          | nil => exact absurd rfl h
          | cons => simp
        exact h1 l h (ih _ (by rw [List.length_drop]; omega))
  exact fun l => key _ l (Nat.le_refl _)
theorem unesc_length : ∀ l, (unesc l).length ≤ 4 * l.length := by
  refine by_nexts (by simp [unesc_nil]) (fun l hl ih => ?_)
  rw [unesc_step l hl, List.length_append]
  rw [List.length_drop] at ih
  have := nextP_le l hl
  have := nextP_pos l
  omega

theorem atC_amp (l : List UInt8) (h : bN l 0 ≠ 38) : atC l = ([], 0) := by
  unfold atC wordOf; rw [if_neg (fun hh => h hh.1)]
/-- A byte that is neither a stroke nor the first sign stands for itself. -/
theorem unesc_plain (c : UInt8) (t : List UInt8) (h1 : c.toNat ≠ 92) (h2 : c.toNat ≠ 38) : unesc (c :: t) = c :: unesc t := by
  rw [unesc_step _ (by simp)]
  have e : nextP (c :: t) = ([c], 1) := by
    rw [nextP_cons]
    rw [if_neg (fun hh => h1 hh.1), atC_amp (c :: t) (by simpa [bN] using h2)]
    simp
  rw [e]; rfl
theorem unesc_plains (a b : List UInt8) (h : ∀ c ∈ a, c.toNat ≠ 92 ∧ c.toNat ≠ 38) : unesc (a ++ b) = a ++ unesc b := by
  induction a with
  | nil => rfl
  | cons c a ih =>
    have hc := h c (List.mem_cons_self ..)
    rw [List.cons_append, unesc_plain c _ hc.1 hc.2, ih (fun x hx => h x (List.mem_cons_of_mem _ hx))]; rfl
/-- Behind a stroke a sign stands for itself, -/
theorem unesc_sign (c : UInt8) (t : List UInt8) (h : signB ((c.toNat : Nat) : Int) = true) : unesc (92 :: c :: t) = c :: unesc t := by
  rw [unesc_step _ (by simp)]
  have e : nextP (92 :: c :: t) = ([c], 2) := by
    rw [nextP_cons]
    rw [if_pos ⟨by decide, by simp, by simpa [bN] using h⟩]
    rfl
  rw [e]; rfl
/-- anything else does not. -/
theorem unesc_stroke (c : UInt8) (t : List UInt8) (h : signB ((c.toNat : Nat) : Int) = false) : unesc (92 :: c :: t) = 92 :: unesc (c :: t) := by
  rw [unesc_step _ (by simp)]
  have e : nextP (92 :: c :: t) = ([92], 1) := by
    rw [nextP_cons]
    rw [if_neg (fun hh => by have := hh.2.2; simp [bN] at this; rw [h] at this; cases this), atC_amp _ (by simp [bN])]
    rfl
  rw [e]; rfl

/-- Runes by their numbers. -/
def spellR (r : Nat) : List UInt8 := [38, 35] ++ decDigits r ++ [59]
def spell (l : List UInt8) : List UInt8 := (runesD l).flatMap spellR
theorem spell_step (l : List UInt8) (h : l ≠ []) : spell l = spellR (decodeL l).1 ++ spell (l.drop (decodeL l).2) := by
  unfold spell; rw [runesD_step l h]; rfl

theorem dg_digit (x : Nat) (h : x < 10) : dv (UInt8.ofNat (48 + x)).toNat = x ∧ (UInt8.ofNat (48 + x)).toNat = 48 + x := by
  have e : (UInt8.ofNat (48 + x)).toNat = 48 + x := by simp; omega
  rw [e]
  unfold dv
  rw [if_pos (by omega)]
  omega
theorem dec_digits : ∀ (n r : Nat), r ≤ n → (decDigits r ≠ [] ∧ (∀ c ∈ decDigits r, 48 ≤ c.toNat ∧ c.toNat ≤ 57) ∧ numv 10 (decDigits r) = r)
  | 0, r, h => by
    have : r = 0 := by omega
    subst this
    rw [decDigits]
    simp [numv, dv]
  | n + 1, r, h => by
    by_cases h1 : r < 10
    · rw [decDigits, dif_pos h1]
      have := dg_digit r h1
      refine ⟨by simp, fun c hc => ?_, ?_⟩
      · rw [List.mem_singleton] at hc
        rw [hc, this.2]; omega
      · simp only [numv, List.foldl_cons, List.foldl_nil]
        rw [this.1]; omega
    · rw [decDigits, dif_neg h1]
      obtain ⟨_, a2, a3⟩ := dec_digits n (r / 10) (by omega)
      have := dg_digit (r % 10) (by omega)
      refine ⟨by simp, fun c hc => ?_, ?_⟩
      · rcases List.mem_append.1 hc with hc | hc
        · exact a2 c hc
        · rw [List.mem_singleton] at hc
          rw [hc, this.2]; omega
      · rw [numv_snoc, a3, this.1]; omega
theorem dec_len : ∀ (k r : Nat), r < 10 ^ (k + 1) → (decDigits r).length ≤ k + 1
  | 0, r, h => by
    rw [decDigits, dif_pos (by simpa using h)]; simp
  | k + 1, r, h => by
    by_cases h1 : r < 10
    · rw [decDigits, dif_pos h1]; simp
    · rw [decDigits, dif_neg h1]
      have := dec_len k (r / 10) (by rw [Nat.pow_succ] at h; omega)
      simp
      omega
theorem all_digits {d : List UInt8} (h : ∀ c ∈ d, 48 ≤ c.toNat ∧ c.toNat ≤ 57) : d.all (isD 10) = true := by
  rw [List.all_eq_true]
  intro c hc
  have := h c hc
  have e : dv c.toNat = c.toNat - 48 := by unfold dv; rw [if_pos this]
  rw [decide_eq_true_eq, e]
  omega
/-- Digits are read as a number. -/
theorem at_digits (d t : List UInt8) (hne : d ≠ []) (hd : ∀ c ∈ d, 48 ≤ c.toNat ∧ c.toNat ≤ 57) (hl : d.length ≤ 7) : atC ([38, 35] ++ d ++ [59] ++ t) = (encodeRune ((fixr (numv 10 d) : Nat) : Int), d.length + 3) := by
  have e : ([38, 35] ++ d ++ [59] ++ t : List UInt8) = 38 :: ((35 :: d) ++ 59 :: t) := by simp
  unfold atC
  rw [e, wordOf_form (35 :: d) t (fun c hc => by
    rcases List.mem_cons.1 hc with rfl | hc
    · decide
    · have := hd c hc; omega) (by simp; omega)]
  dsimp only
  have hs : spC (35 :: d) = some (fixr (numv 10 d)) := by
    show numC d = _
    cases d with
    | nil => exact absurd rfl hne
    | cons c d =>
      have hc := hd c (List.mem_cons_self ..)
      show (if c.toNat = 120 ∨ c.toNat = 88 then parseC 16 d else parseC 10 (c :: d)) = _
      rw [if_neg (by omega)]
      unfold parseC
      rw [if_pos ⟨hne, all_digits hd⟩]
  rw [hs]
  simp [ansC]
theorem unesc_spellR (r : Nat) (hr : okR r) (h0 : r ≠ 0) (t : List UInt8) : unesc (spellR r ++ t) = encodeRune (r : Int) ++ unesc t := by
  obtain ⟨d1, d2, d3⟩ := dec_digits r r (Nat.le_refl _)
  have hr' := hr
  unfold okR at hr'
  have hl : (decDigits r).length ≤ 7 := dec_len 6 r (by omega)
  have ha := at_digits (decDigits r) t d1 d2 hl
  rw [d3] at ha
  have hf : fixr r = r := by unfold fixr; rw [if_neg (by omega)]
  rw [hf] at ha
  unfold spellR
  have hne : ([38, 35] ++ decDigits r ++ [59] ++ t : List UInt8) ≠ [] := by simp
  rw [unesc_step _ hne]
  have e : nextP ([38, 35] ++ decDigits r ++ [59] ++ t) = (encodeRune (r : Int), (decDigits r).length + 3) := by
    rw [show ([38, 35] ++ decDigits r ++ [59] ++ t : List UInt8) = 38 :: (35 :: decDigits r ++ 59 :: t) by simp] at ha ⊢
    rw [nextP_cons]
    rw [if_neg (by simp), ha]
    simp
  rw [e]
  dsimp only
  congr 1
  congr 1
  rw [show ([38, 35] ++ decDigits r ++ [59] ++ t : List UInt8) = (38 :: 35 :: decDigits r ++ [59]) ++ t by simp]
  rw [List.drop_append_of_le_length (by simp), List.drop_of_length_le (by simp)]
  simp
/-- Spelt and back it is the text. -/
theorem unesc_spell : ∀ l, validD l = true → (∀ c ∈ l, c.toNat ≠ 0) → unesc (spell l) = l := by
  refine by_runes (by intros; rfl) (fun l hl ih hv h0 => ?_)
  obtain ⟨e, hv2⟩ := valid_head l hl hv
  have hok := decodeL_okR l
  have hr0 : (decodeL l).1 ≠ 0 := by
    intro hz
    rw [hz, enc1 0 (by omega)] at e
    exact h0 0 (by rw [e]; simp) rfl
  rw [spell_step l hl, unesc_spellR _ hok hr0, ih hv2 (fun c hc => h0 c (List.mem_of_mem_drop hc))]
  exact e.symm

/-- An address. -/
def plainN (c : Nat) : Bool := decide (48 ≤ c ∧ c ≤ 57) || decide (97 ≤ c ∧ c ≤ 122) || decide (65 ≤ c ∧ c ≤ 90) || [59, 47, 63, 58, 64, 38, 61, 43, 36, 44, 45, 95, 46, 33, 126, 42, 39, 40, 41, 35].contains c
def hexD (n : Nat) : Nat := if n < 10 then 48 + n else 55 + n
def hx2 : List UInt8 → Bool
  | a :: b :: _ => decide (dv a.toNat < 16) && decide (dv b.toNat < 16)
  | _ => false
def keepU (c : UInt8) (t : List UInt8) : Bool := plainN c.toNat || (decide (c.toNat = 37) && hx2 t)
def uriR (c : UInt8) (t : List UInt8) : List UInt8 := if keepU c t = true then [c] else [37, UInt8.ofNat (hexD (c.toNat / 16)), UInt8.ofNat (hexD (c.toNat % 16))]
def uri : List UInt8 → List UInt8
  | [] => []
  | c :: t => uriR c t ++ uri t

theorem hexD_lt (n : Nat) (h : n < 16) : (UInt8.ofNat (hexD n)).toNat = hexD n ∧ dv (hexD n) < 16 ∧ plainN (hexD n) = true := by
  have : n = 0 ∨ n = 1 ∨ n = 2 ∨ n = 3 ∨ n = 4 ∨ n = 5 ∨ n = 6 ∨ n = 7 ∨ n = 8 ∨ n = 9 ∨ n = 10 ∨ n = 11 ∨ n = 12 ∨ n = 13 ∨ n = 14 ∨ n = 15 := by omega
  rcases this with rfl | rfl | rfl | rfl | rfl | rfl | rfl | rfl | rfl | rfl | rfl | rfl | rfl | rfl | rfl | rfl <;> decide
theorem hex_plain (c : Nat) (h : dv c < 16) : plainN c = true := by
  unfold dv at h
  unfold plainN
  by_cases h1 : 48 ≤ c ∧ c ≤ 57
  · simp [h1]
  · rw [if_neg h1] at h
    by_cases h2 : 97 ≤ c ∧ c ≤ 102
    · have : 97 ≤ c ∧ c ≤ 122 := by omega
      simp [this]
    · rw [if_neg h2] at h
      by_cases h3 : 65 ≤ c ∧ c ≤ 70
      · have : 65 ≤ c ∧ c ≤ 90 := by omega
        simp [this]
      · rw [if_neg h3] at h; omega
theorem uri_plain {c : UInt8} (t : List UInt8) (h : plainN c.toNat = true) : uri (c :: t) = c :: uri t := by
  show uriR c t ++ uri t = _
  unfold uriR keepU
  rw [h]; rfl
theorem hx2_uri (t : List UInt8) (h : hx2 t = true) : hx2 (uri t) = true := by
  match t, h with
  | a :: b :: t, h =>
    have h' := h
    simp only [hx2, Bool.and_eq_true, decide_eq_true_eq] at h'
    rw [uri_plain _ (hex_plain _ h'.1), uri_plain _ (hex_plain _ h'.2)]
    simp only [hx2, Bool.and_eq_true, decide_eq_true_eq]
    exact h'
/-- An address of an address is it. -/
theorem uri_uri : ∀ l, uri (uri l) = uri l
  | [] => rfl
  | c :: t => by
    have ih := uri_uri t
    show uri (uriR c t ++ uri t) = uriR c t ++ uri t
    by_cases hk : keepU c t = true
    · have e : uriR c t = [c] := by unfold uriR; rw [if_pos hk]
      rw [e]
      show uriR c (uri t) ++ uri (uri t) = _
      have hk2 : keepU c (uri t) = true := by
        unfold keepU at hk ⊢
        rw [Bool.or_eq_true] at hk ⊢
        rcases hk with h | h
        · exact .inl h
        · rw [Bool.and_eq_true] at h ⊢
          exact .inr ⟨h.1, hx2_uri t h.2⟩
      unfold uriR
      rw [if_pos hk2, ih]
    · have e : uriR c t = [37, UInt8.ofNat (hexD (c.toNat / 16)), UInt8.ofNat (hexD (c.toNat % 16))] := by unfold uriR; rw [if_neg hk]
      rw [e]
      have hc := c.toNat_lt
      have a1 := hexD_lt (c.toNat / 16) (by omega)
      have a2 := hexD_lt (c.toNat % 16) (by omega)
      simp only [List.cons_append, List.nil_append]
      rw [show uri (37 :: UInt8.ofNat (hexD (c.toNat / 16)) :: UInt8.ofNat (hexD (c.toNat % 16)) :: uri t) = uriR 37 (UInt8.ofNat (hexD (c.toNat / 16)) :: UInt8.ofNat (hexD (c.toNat % 16)) :: uri t) ++ uri (UInt8.ofNat (hexD (c.toNat / 16)) :: UInt8.ofNat (hexD (c.toNat % 16)) :: uri t) from rfl]
      rw [uri_plain _ (by rw [a1.1]; exact a1.2.2), uri_plain _ (by rw [a2.1]; exact a2.2.2), ih]
      unfold uriR keepU
      rw [if_pos (by simp only [hx2, a1.1, a2.1]; rw [decide_eq_true a1.2.1, decide_eq_true a2.2.1]; decide)]
      rfl

theorem uri_length (l : List UInt8) : (uri l).length ≤ 3 * l.length := by
  induction l with
  | nil => simp [uri]
  | cons c t ih =>
    have : (uriR c t).length ≤ 3 := by unfold uriR; split <;> simp
    show (uriR c t ++ uri t).length ≤ _
    rw [List.length_append, List.length_cons]
    omega
theorem spell_length : ∀ l, (spell l).length ≤ 10 * l.length := by
  refine by_runes (by simp [spell, runesD_nil]) (fun l hl ih => ?_)
  rw [spell_step l hl, List.length_append]
  rw [List.length_drop] at ih
  have hok := decodeL_okR l
  unfold okR at hok
  have h2 := dec_len 6 (decodeL l).1 (by omega)
  have h3 := decodeL_le l hl
  have h4 := decodeL_width l
  have : (spellR (decodeL l).1).length ≤ 10 := by unfold spellR; simp; omega
  omega

/-- HTML. -/
def htmlR (c : UInt8) : List UInt8 := if c.toNat = 38 then [38, 97, 109, 112, 59] else if c.toNat = 60 then [38, 108, 116, 59] else if c.toNat = 62 then [38, 103, 116, 59] else if c.toNat = 34 then [38, 113, 117, 111, 116, 59] else [c]
def html (l : List UInt8) : List UInt8 := l.flatMap htmlR
def markS (c : Nat) : Bool := c == 38 || c == 60 || c == 62 || c == 34
theorem html_append (a b : List UInt8) : html (a ++ b) = html a ++ html b := by simp [html]
theorem htmlR_len (c : UInt8) : 1 ≤ (htmlR c).length ∧ (htmlR c).length ≤ 6 ∧ (markS c.toNat = true → 2 ≤ (htmlR c).length) ∧ (markS c.toNat = false → htmlR c = [c]) := by
  unfold htmlR markS
  repeat' split
  all_goals simp_all
theorem html_ge (l : List UInt8) : l.length ≤ (html l).length := by
  induction l with
  | nil => simp [html]
  | cons c l ih =>
    have := htmlR_len c
    simp only [html, List.flatMap_cons, List.length_append, List.length_cons] at ih ⊢
    omega
theorem html_le (l : List UInt8) : (html l).length ≤ 6 * l.length := by
  induction l with
  | nil => simp [html]
  | cons c l ih =>
    have := htmlR_len c
    simp only [html, List.flatMap_cons, List.length_append, List.length_cons] at ih ⊢
    omega
theorem html_eq (l : List UInt8) : html l = l ↔ l.all (fun c => !markS c.toNat) = true := by
  constructor
  · intro h
    rw [List.all_eq_true]
    intro c hc
    have key : ∀ l : List UInt8, c ∈ l → markS c.toNat = true → l.length < (html l).length := by
      intro l
      induction l with
      | nil => intro h; cases h
      | cons x l ih =>
        intro hm hk
        have hx := htmlR_len x
        have hg := html_ge l
        simp only [html, List.flatMap_cons, List.length_append, List.length_cons] at ih hg ⊢
        rcases List.mem_cons.1 hm with rfl | hm
        · have := hx.2.2.1 hk; omega
        · have := ih hm hk; omega
    cases hm : markS c.toNat with
    | false => rfl
    | true => have := key l hc hm; rw [h] at this; omega
  · intro h
    induction l with
    | nil => rfl
    | cons c l ih =>
      rw [List.all_cons, Bool.and_eq_true] at h
      have hc := (htmlR_len c).2.2.2 (by simpa using h.1)
      simp only [html, List.flatMap_cons] at ih ⊢
      rw [hc, ih h.2]; rfl
theorem html_none (l : List UInt8) : ∀ c ∈ html l, c.toNat ≠ 60 ∧ c.toNat ≠ 62 ∧ c.toNat ≠ 34 := by
  intro c hc
  unfold html at hc
  rw [List.mem_flatMap] at hc
  obtain ⟨x, _, hx⟩ := hc
  unfold htmlR at hx
  repeat' split at hx
  all_goals first
    | (rw [List.mem_singleton] at hx; subst hx; exact ⟨by assumption, by assumption, by assumption⟩)
    | (simp only [List.mem_cons, List.not_mem_nil, or_false] at hx; rcases hx with rfl | rfl | rfl | rfl | rfl | rfl <;> decide)
    | (simp only [List.mem_cons, List.not_mem_nil, or_false] at hx; rcases hx with rfl | rfl | rfl | rfl | rfl <;> decide)
    | (simp only [List.mem_cons, List.not_mem_nil, or_false] at hx; rcases hx with rfl | rfl | rfl | rfl <;> decide)

end Go.Proofs.YtmegfcgnemfjnabDoor
