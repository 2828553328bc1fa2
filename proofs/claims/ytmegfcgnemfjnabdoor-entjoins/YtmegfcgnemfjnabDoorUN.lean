/-
  Runes: what is encoded is read back; what is repaired is text; runes of two texts side by side.
-/
import Derived.Lib.MapLaws
import Derived.Lib.ValidLaws
import Derived.Lib.RuneCount
namespace Go.Proofs.YtmegfcgnemfjnabDoor
open Go Go.Lib

/-- A rune that may be told. -/
def okR (r : Nat) : Prop := r < 55296 ∨ (57344 ≤ r ∧ r ≤ 1114111)

theorem decodeL_okR (l : List UInt8) : okR (decodeL l).1 := by
  have k0 := (l.getD 0 0).toNat_lt
  have k1 := (l.getD 1 0).toNat_lt
  have k2 := (l.getD 2 0).toNat_lt
  have k3 := (l.getD 3 0).toNat_lt
  rw [decodeL_N]
  unfold okR
  rcases decodeN_shape l.length (l.getD 0 0).toNat (l.getD 1 0).toNat (l.getD 2 0).toNat (l.getD 3 0).toNat with ⟨c, e⟩ | ⟨c1, c2, c3, cv, e⟩ | ⟨c1, c2, c3, c4, cv, cs, e⟩ | ⟨c1, c2, c3, c4, c5, cv, cw, e⟩ | e
  all_goals (rw [e]; dsimp only; omega)

theorem u8N (x : Nat) (h : x < 256) : (((x : Int)).toNat.toUInt8).toNat = x := by
  simp [Nat.toUInt8]; omega

theorem enc1 (r : Nat) (h : r < 128) : encodeRune (r : Int) = [r.toUInt8] := by
  unfold encodeRune
  rw [encodeRuneZ_one (by omega) (by omega)]
  simp
theorem enc2 (r : Nat) (h : 128 ≤ r) (h2 : r < 2048) : encodeRune (r : Int) = [(192 + r / 64).toUInt8, (128 + r % 64).toUInt8] := by
  unfold encodeRune
  rw [encodeRuneZ_two (by omega) (by omega)]
  simp only [List.map_cons, List.map_nil, List.cons.injEq, and_true]
  exact ⟨congrArg Nat.toUInt8 (by omega), congrArg Nat.toUInt8 (by omega)⟩
theorem enc3 (r : Nat) (h : 2048 ≤ r) (h2 : r < 65536) (hv : okR r) : encodeRune (r : Int) = [(224 + r / 4096).toUInt8, (128 + r / 64 % 64).toUInt8, (128 + r % 64).toUInt8] := by
  unfold okR at hv
  unfold encodeRune
  rw [encodeRuneZ_three (by omega)]
  simp only [List.map_cons, List.map_nil, List.cons.injEq, and_true]
  exact ⟨congrArg Nat.toUInt8 (by omega), congrArg Nat.toUInt8 (by omega), congrArg Nat.toUInt8 (by omega)⟩
theorem enc4 (r : Nat) (h : 65536 ≤ r) (h2 : r ≤ 1114111) : encodeRune (r : Int) = [(240 + r / 262144).toUInt8, (128 + r / 4096 % 64).toUInt8, (128 + r / 64 % 64).toUInt8, (128 + r % 64).toUInt8] := by
  unfold encodeRune
  rw [encodeRuneZ_four (by omega) (by omega)]
  simp only [List.map_cons, List.map_nil, List.cons.injEq, and_true]
  exact ⟨congrArg Nat.toUInt8 (by omega), congrArg Nat.toUInt8 (by omega), congrArg Nat.toUInt8 (by omega), congrArg Nat.toUInt8 (by omega)⟩

theorem n8 (x : Nat) (h : x < 256) : (x.toUInt8).toNat = x := by simp [Nat.toUInt8]; omega

/-- What is encoded is read back, whatever stands behind it. -/
theorem dec_enc (r : Nat) (hr : okR r) (t : List UInt8) : decodeL (encodeRune (r : Int) ++ t) = (r, (encodeRune (r : Int)).length) := by
  rw [decodeL_N]
  have hr' := hr
  unfold okR at hr'
  by_cases h1 : r < 128
  · rw [enc1 r h1]
    simp only [List.cons_append, List.nil_append, List.length_cons, List.length_nil, List.getD_cons_zero]
    rw [n8 r (by omega)]
    unfold decodeN
    rw [if_pos h1]
  by_cases h2 : r < 2048
  · rw [enc2 r (by omega) h2]
    simp only [List.cons_append, List.nil_append, List.length_cons, List.length_nil, List.getD_cons_zero, List.getD_cons_succ]
    rw [n8 (192 + r / 64) (by omega), n8 (128 + r % 64) (by omega)]
    unfold decodeN
    rw [if_neg (by omega), if_pos (by omega), if_pos (by omega)]
    exact congrArg (fun x => (x, 2)) (by omega)
  by_cases h3 : r < 65536
  · rw [enc3 r (by omega) h3 hr]
    simp only [List.cons_append, List.nil_append, List.length_cons, List.length_nil, List.getD_cons_zero, List.getD_cons_succ]
    rw [n8 (224 + r / 4096) (by omega), n8 (128 + r / 64 % 64) (by omega), n8 (128 + r % 64) (by omega)]
    have e : (224 + r / 4096) % 16 * 4096 + (128 + r / 64 % 64) % 64 * 64 + (128 + r % 64) % 64 = r := by omega
    unfold decodeN
    rw [e, if_neg (by omega), if_neg (by omega), if_pos (by omega), if_pos (by omega)]
  · rw [enc4 r (by omega) (by omega)]
    simp only [List.cons_append, List.nil_append, List.length_cons, List.length_nil, List.getD_cons_zero, List.getD_cons_succ]
    rw [n8 (240 + r / 262144) (by omega), n8 (128 + r / 4096 % 64) (by omega), n8 (128 + r / 64 % 64) (by omega), n8 (128 + r % 64) (by omega)]
    have e : (240 + r / 262144) % 8 * 262144 + (128 + r / 4096 % 64) % 64 * 4096 + (128 + r / 64 % 64) % 64 * 64 + (128 + r % 64) % 64 = r := by omega
    unfold decodeN
    rw [e, if_neg (by omega), if_neg (by omega), if_neg (by omega), if_pos (by omega), if_pos (by omega)]

theorem enc_len (r : Nat) : 1 ≤ (encodeRune (r : Int)).length ∧ (encodeRune (r : Int)).length ≤ 4 := by
  have := encodeRuneZ_length (r : Int)
  simpa [encodeRune] using this

theorem enc_ne (r : Nat) (t : List UInt8) : encodeRune (r : Int) ++ t ≠ [] := by
  have h := (enc_len r).1
  intro e
  rw [(List.append_eq_nil_iff.1 e).1] at h
  simp at h

/-- One byte alone is a rune below 128. -/
theorem enc_one (r : Nat) (hr : okR r) (h : (encodeRune (r : Int)).length = 1) : r < 128 := by
  have hr' := hr
  unfold okR at hr'
  by_cases h1 : r < 128
  · exact h1
  by_cases h2 : r < 2048
  · rw [enc2 r (by omega) h2] at h; simp at h
  by_cases h3 : r < 65536
  · rw [enc3 r (by omega) h3 hr] at h; simp at h
  · rw [enc4 r (by omega) (by omega)] at h; simp at h

/-- What is no rune is one byte, told as 65533. -/
def badL (l : List UInt8) : Prop := (decodeL l).1 = 65533 ∧ (decodeL l).2 = 1

theorem enc_good (r : Nat) (hr : okR r) (t : List UInt8) : ¬ badL (encodeRune (r : Int) ++ t) := by
  unfold badL
  rw [dec_enc r hr t]
  rintro ⟨h1, h2⟩
  have := enc_one r hr h2
  simp at h1
  omega

theorem validD_enc (r : Nat) (hr : okR r) (t : List UInt8) : validD (encodeRune (r : Int) ++ t) = validD t := by
  have hg := enc_good r hr t
  unfold badL at hg
  rw [validD_step _ (enc_ne r t), if_neg hg, dec_enc r hr t]
  simp

/-- The rune 0 is told as 65533. -/
def rep (r : Int) : Int := if r = 0 then 65533 else r
def repN (r : Nat) : Nat := if r = 0 then 65533 else r
theorem rep_nat (r : Nat) : rep (r : Int) = ((repN r : Nat) : Int) := by
  unfold rep repN
  by_cases h : r = 0
  · simp [h]
  · rw [if_neg (by omega), if_neg h]
theorem repN_ok (r : Nat) (h : okR r) : okR (repN r) := by
  unfold repN
  split
  · unfold okR; omega
  · exact h
theorem repN_rep (r : Nat) : repN (repN r) = repN r := by
  unfold repN
  by_cases h : r = 0 <;> simp [h]

/-- Any bytes as text. -/
def repair (l : List UInt8) : List UInt8 := mapD rep l

theorem repair_nil : repair [] = [] := rfl
theorem repair_step (l : List UInt8) (h : l ≠ []) : repair l = encodeRune ((repN (decodeL l).1 : Nat) : Int) ++ repair (l.drop (decodeL l).2) := by
  unfold repair
  rw [mapD_step rep l h, rep_nat, if_pos (by omega)]
theorem repair_enc (r : Nat) (hr : okR r) (t : List UInt8) : repair (encodeRune (r : Int) ++ t) = encodeRune ((repN r : Nat) : Int) ++ repair t := by
  rw [repair_step _ (enc_ne r t), dec_enc r hr t]
  simp

theorem by_runes {p : List UInt8 → Prop} (h0 : p []) (h1 : ∀ l, l ≠ [] → p (l.drop (decodeL l).2) → p l) : ∀ l, p l := by
  have key : ∀ n l, l.length ≤ n → p l := by
    intro n
    induction n with
    | zero => intro l hl; have : l = [] := List.eq_nil_of_length_eq_zero (by omega); subst this; exact h0
    | succ n ih =>
      intro l hl
      by_cases h : l = []
      · subst h; exact h0
      · have := decodeL_width l
        exact h1 l h (ih _ (by rw [List.length_drop]; omega))
  exact fun l => key l.length l (Nat.le_refl _)

theorem repair_valid : ∀ l, validD (repair l) = true := by
  refine by_runes rfl fun l h ih => ?_
  rw [repair_step l h, validD_enc _ (repN_ok _ (decodeL_okR l)), ih]
theorem repair_repair : ∀ l, repair (repair l) = repair l := by
  refine by_runes rfl fun l h ih => ?_
  rw [repair_step l h, repair_enc _ (repN_ok _ (decodeL_okR l)), ih, repN_rep]
theorem repair_length : ∀ l, (repair l).length ≤ 4 * l.length := by
  refine by_runes (by simp [repair_nil]) fun l h ih => ?_
  have hw := decodeL_width l
  have hl := decodeL_le l h
  have he := enc_len (repN (decodeL l).1)
  rw [repair_step l h, List.length_append]
  rw [List.length_drop] at ih
  omega

/-- The runes of bytes. -/
def runesG : Nat → List UInt8 → List Nat
  | 0, _ => []
  | n + 1, l => if l = [] then [] else (decodeL l).1 :: runesG n (l.drop (decodeL l).2)
def runesD (l : List UInt8) : List Nat := runesG l.length l
theorem runesG_nil : ∀ n, runesG n [] = []
  | 0 => rfl
  | _ + 1 => by simp [runesG]
theorem runesG_fuel : ∀ (n m : Nat) (l : List UInt8), l.length ≤ n → l.length ≤ m → runesG n l = runesG m l
  | 0, m, l, hn, _ => by
    have : l = [] := List.eq_nil_of_length_eq_zero (by omega)
    subst this
    rw [runesG_nil, runesG_nil]
  | n + 1, 0, l, _, hm => by
    have : l = [] := List.eq_nil_of_length_eq_zero (by omega)
    subst this
    rw [runesG_nil, runesG_nil]
  | n + 1, m + 1, l, hn, hm => by
    unfold runesG
    by_cases hne : l = []
    · simp [hne]
    · have hw := decodeL_width l
      have hl : 0 < l.length := List.length_pos_iff.2 hne
      rw [if_neg hne, if_neg hne, runesG_fuel n m (l.drop (decodeL l).2) (by rw [List.length_drop]; omega) (by rw [List.length_drop]; omega)]
theorem runesD_nil : runesD [] = [] := rfl
theorem runesD_step (l : List UInt8) (hne : l ≠ []) : runesD l = (decodeL l).1 :: runesD (l.drop (decodeL l).2) := by
  have hl : 0 < l.length := List.length_pos_iff.2 hne
  have hw := decodeL_width l
  obtain ⟨n, hn⟩ : ∃ n, l.length = n + 1 := ⟨l.length - 1, by omega⟩
  unfold runesD
  rw [hn]
  show (if l = [] then [] else _) = _
  rw [if_neg hne, runesG_fuel n (l.drop (decodeL l).2).length _ (by rw [List.length_drop]; omega) (Nat.le_refl _)]
theorem runesD_length : ∀ l, (runesD l).length ≤ l.length := by
  refine by_runes (by simp [runesD_nil]) fun l h ih => ?_
  have hw := decodeL_width l
  have hl : 0 < l.length := List.length_pos_iff.2 h
  rw [runesD_step l h, List.length_cons]
  rw [List.length_drop] at ih
  omega
theorem runesD_enc (r : Nat) (hr : okR r) (t : List UInt8) : runesD (encodeRune (r : Int) ++ t) = r :: runesD t := by
  rw [runesD_step _ (enc_ne r t), dec_enc r hr t]
  simp

/-- A text that is one begins with a rune's bytes. -/
theorem valid_head (l : List UInt8) (h : l ≠ []) (hv : validD l = true) : l = encodeRune (((decodeL l).1 : Nat) : Int) ++ l.drop (decodeL l).2 ∧ validD (l.drop (decodeL l).2) = true := by
  rw [validD_step l h] at hv
  by_cases hb : (decodeL l).1 = 65533 ∧ (decodeL l).2 = 1
  · rw [if_pos hb] at hv; cases hv
  · rw [if_neg hb] at hv
    refine ⟨?_, hv⟩
    rw [encode_decode l h hb, List.take_append_drop]

theorem runesD_append : ∀ a b, validD a = true → runesD (a ++ b) = runesD a ++ runesD b := by
  intro a b
  revert a
  refine by_runes (fun _ => rfl) fun l h ih hv => ?_
  obtain ⟨e, hv2⟩ := valid_head l h hv
  have hr := decodeL_okR l
  have i2 := ih hv2
  generalize (decodeL l).1 = r at *
  generalize l.drop (decodeL l).2 = t at *
  rw [e, List.append_assoc, runesD_enc r hr, runesD_enc r hr, i2]
  rfl
theorem repair_append : ∀ a b, validD a = true → repair (a ++ b) = repair a ++ repair b := by
  intro a b
  revert a
  refine by_runes (fun _ => rfl) fun l h ih hv => ?_
  obtain ⟨e, hv2⟩ := valid_head l h hv
  have hr := decodeL_okR l
  have i2 := ih hv2
  generalize (decodeL l).1 = r at *
  generalize l.drop (decodeL l).2 = t at *
  rw [e, List.append_assoc, repair_enc r hr, repair_enc r hr, i2, List.append_assoc]

end Go.Proofs.YtmegfcgnemfjnabDoor
