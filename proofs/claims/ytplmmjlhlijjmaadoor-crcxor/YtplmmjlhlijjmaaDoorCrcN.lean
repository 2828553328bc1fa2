/-
  Plain numbers: the sum of bytes by a register that goes down bit by bit; it is linear over xor, and no step forgets anything.
-/
import Derived.WalkKit
namespace Go.Proofs.YtplmmjlhlijjmaaDoor

/-- One bit down. -/
def crcBit (r : Nat) : Nat := r / 2 ^^^ (if r % 2 = 1 then 3988292384 else 0)
/-- So many bits down. -/
def crcBits : Nat → Nat → Nat
  | 0, r => r
  | k + 1, r => crcBits k (crcBit r)
/-- One byte. -/
def crcByte (r b : Nat) : Nat := crcBits 8 (r ^^^ b)
/-- Bytes, one behind the other. -/
def crcRun (r : Nat) (B : List Nat) : Nat := B.foldl crcByte r
/-- The sum. -/
def crcSum (B : List Nat) : Nat := crcRun 4294967295 B ^^^ 4294967295

theorem xor_mod2 (a b : Nat) : (a ^^^ b) % 2 = (a % 2 + b % 2) % 2 := by
  have h := Nat.xor_mod_two_pow (a := a) (b := b) (n := 1)
  rw [Nat.pow_one] at h
  rw [h]
  have ha : a % 2 = 0 ∨ a % 2 = 1 := by omega
  have hb : b % 2 = 0 ∨ b % 2 = 1 := by omega
  rcases ha with ha | ha <;> rcases hb with hb | hb <;> simp [ha, hb]

theorem xor_lc (a b c : Nat) : a ^^^ (b ^^^ c) = b ^^^ (a ^^^ c) := by
  rw [← Nat.xor_assoc, Nat.xor_comm a, Nat.xor_assoc]

theorem xor_div2 (a b : Nat) : (a ^^^ b) / 2 = a / 2 ^^^ b / 2 := by
  have := Nat.xor_div_two_pow (a := a) (b := b) (n := 1)
  simpa using this

theorem crcBit_xor (a b : Nat) : crcBit (a ^^^ b) = crcBit a ^^^ crcBit b := by
  unfold crcBit
  rw [xor_div2, xor_mod2]
  have ha : a % 2 = 0 ∨ a % 2 = 1 := by omega
  have hb : b % 2 = 0 ∨ b % 2 = 1 := by omega
  rcases ha with ha | ha <;> rcases hb with hb | hb
  · simp [ha, hb]
  · simp [ha, hb, Nat.xor_assoc]
  · simp [ha, hb]
    rw [Nat.xor_assoc, Nat.xor_assoc, Nat.xor_comm (b / 2)]
  · simp [ha, hb]
    rw [Nat.xor_assoc, ← Nat.xor_assoc 3988292384, Nat.xor_comm 3988292384, Nat.xor_assoc, Nat.xor_self, Nat.xor_zero]

theorem crcBits_xor (k a b : Nat) : crcBits k (a ^^^ b) = crcBits k a ^^^ crcBits k b := by
  induction k generalizing a b with
  | zero => rfl
  | succ k ih => simp only [crcBits, crcBit_xor, ih]

theorem crcByte_xor (a b x y : Nat) : crcByte (a ^^^ b) (x ^^^ y) = crcByte a x ^^^ crcByte b y := by
  unfold crcByte
  rw [← crcBits_xor]
  congr 1
  rw [Nat.xor_assoc, ← Nat.xor_assoc b, Nat.xor_comm b, Nat.xor_assoc x, ← Nat.xor_assoc a]

theorem crcBit_lt (r : Nat) (h : r < 4294967296) : crcBit r < 4294967296 := by
  unfold crcBit
  have h1 : r / 2 < 2 ^ 32 := by omega
  have h2 : (if r % 2 = 1 then 3988292384 else 0) < 2 ^ 32 := by split <;> omega
  exact Nat.xor_lt_two_pow h1 h2

theorem crcBits_lt (k r : Nat) (h : r < 4294967296) : crcBits k r < 4294967296 := by
  induction k generalizing r with
  | zero => exact h
  | succ k ih => exact ih _ (crcBit_lt r h)

theorem crcByte_lt (r b : Nat) (h : r < 4294967296) (hb : b < 256) : crcByte r b < 4294967296 :=
  crcBits_lt 8 _ (Nat.xor_lt_two_pow (n := 32) h (by omega))

theorem crcRun_lt (B : List Nat) (hB : ∀ x ∈ B, x < 256) : ∀ r, r < 4294967296 → crcRun r B < 4294967296 := by
  induction B with
  | nil => intro r h; exact h
  | cons x xs ih => intro r h; exact ih (fun y hy => hB y (by simp [hy])) _ (crcByte_lt r x h (hB x (by simp)))

/-- No step forgets anything. -/
theorem crcBit_zero (r : Nat) (h : r < 4294967296) (h0 : crcBit r = 0) : r = 0 := by
  unfold crcBit at h0
  have hr : r % 2 = 0 ∨ r % 2 = 1 := by omega
  rcases hr with hr | hr
  · simp [hr] at h0
    omega
  · simp only [hr, if_true] at h0
    have h1 : r / 2 = 3988292384 := by
      have := congrArg (fun z => z ^^^ 3988292384) h0
      simpa [Nat.xor_assoc] using this
    omega

theorem crcBits_zero (k r : Nat) (h : r < 4294967296) (h0 : crcBits k r = 0) : r = 0 := by
  induction k generalizing r with
  | zero => exact h0
  | succ k ih => exact crcBit_zero r h (ih _ (crcBit_lt r h) h0)

theorem xor_eq_zero' {a b : Nat} (h : a ^^^ b = 0) : a = b := by
  have := congrArg (fun z => z ^^^ b) h
  simpa [Nat.xor_assoc] using this

theorem crcBits_inj (k a b : Nat) (ha : a < 4294967296) (hb : b < 4294967296) (h : crcBits k a = crcBits k b) : a = b := by
  apply xor_eq_zero'
  apply crcBits_zero k _ (Nat.xor_lt_two_pow (n := 32) ha hb)
  rw [crcBits_xor, h, Nat.xor_self]

theorem xor_cancel {a b c : Nat} (h : a ^^^ c = b ^^^ c) : a = b := by
  have := congrArg (fun z => z ^^^ c) h
  simpa [Nat.xor_assoc] using this

theorem crcByte_inj (a b x : Nat) (ha : a < 4294967296) (hb : b < 4294967296) (hx : x < 256) (h : crcByte a x = crcByte b x) : a = b :=
  xor_cancel (crcBits_inj 8 _ _ (Nat.xor_lt_two_pow (n := 32) ha (by omega)) (Nat.xor_lt_two_pow (n := 32) hb (by omega)) h)

theorem crcByte_inj' (a x y : Nat) (ha : a < 4294967296) (hx : x < 256) (hy : y < 256) (h : crcByte a x = crcByte a y) : x = y := by
  have := crcBits_inj 8 _ _ (Nat.xor_lt_two_pow (n := 32) ha (by omega)) (Nat.xor_lt_two_pow (n := 32) ha (by omega)) h
  rw [Nat.xor_comm a, Nat.xor_comm a] at this
  exact xor_cancel this

theorem crcRun_inj (B : List Nat) (hB : ∀ x ∈ B, x < 256) : ∀ a b, a < 4294967296 → b < 4294967296 → crcRun a B = crcRun b B → a = b := by
  induction B with
  | nil => intro a b _ _ h; exact h
  | cons x xs ih =>
    intro a b ha hb h
    have hx := hB x (by simp)
    exact crcByte_inj a b x ha hb hx (ih (fun y hy => hB y (by simp [hy])) _ _ (crcByte_lt a x ha hx) (crcByte_lt b x hb hx) h)

theorem crcRun_append (r : Nat) (A B : List Nat) : crcRun r (A ++ B) = crcRun (crcRun r A) B := by simp [crcRun]

/-- A row of which one byte is another one has another sum. -/
theorem crcSum_sees (A B : List Nat) (x y : Nat) (hA : ∀ z ∈ A, z < 256) (hB : ∀ z ∈ B, z < 256) (hx : x < 256) (hy : y < 256) (hne : x ≠ y) : crcSum (A ++ x :: B) ≠ crcSum (A ++ y :: B) := by
  intro h
  have h1 := xor_cancel h
  rw [crcRun_append, crcRun_append] at h1
  have hr := crcRun_lt A hA 4294967295 (by omega)
  have h2 : crcByte (crcRun 4294967295 A) x = crcByte (crcRun 4294967295 A) y := crcRun_inj B hB _ _ (crcByte_lt _ x hr hx) (crcByte_lt _ y hr hy) h1
  exact hne (crcByte_inj' _ x y hr hx hy h2)

end Go.Proofs.YtplmmjlhlijjmaaDoor
