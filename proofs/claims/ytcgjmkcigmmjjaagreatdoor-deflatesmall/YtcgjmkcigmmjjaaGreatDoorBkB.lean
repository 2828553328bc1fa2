/-
  Plain numbers: streams of the fixed codes as the laws lay them.
-/
import Derived.Test.YtcgjmkcigmmjjaaGreatDoorBkA
import Derived.Deep.LoopGhost
import Derived.Laws.CopyOwn
import Derived.Laws.MakeOwn
import Derived.BigRegion
import Derived.Deep.RegionLaw
import Derived.Lib.AppendZeros
import Derived.Lib.AppendZerosOnto
import Derived.Laws.AppendOwnNone
import Derived.OwnWalk

namespace Go.Proofs.YtcgjmkcigmmjjaaGreatDoor
set_option linter.unusedVariables false
theorem okB_parts {L : List Int} (h : okB L = true) : L.length ≤ 320 ∧ ∀ x ∈ L, 0 ≤ x ∧ x ≤ 15 := by
  unfold okB at h
  simp only [Bool.and_eq_true, decide_eq_true_eq, List.all_eq_true] at h
  exact ⟨h.1, fun x hx => h.2 x hx⟩

theorem newErr_ok {L : List Int} (h : newErr L = 0) : L.length ≤ 320 ∧ ∀ x ∈ L, 0 ≤ x ∧ x ≤ 15 := by
  refine okB_parts ?_
  unfold newErr at h
  by_cases e : okB L = true
  · exact e
  · rw [if_neg e] at h; omega

/-- The code so far with one bit more. -/
def cmore (M t code : Nat) : Nat := 2 * code + M / 2 ^ t % 2

/-- The symbol by lengths L that the bits of M (8 m of them) from t on tell, behind a code of so many bits: an error, or the symbol and the next bit. -/
inductive Sym (L : List Int) (M m : Nat) : Nat → Nat → Nat → Except Nat (Nat × Nat) → Prop
  | short {code len t : Nat} : 8 * m < t + 1 → Sym L M m code len t (.error 2)
  | hit {code len t i : Nat} : t + 1 ≤ 8 * m → i < L.length → L.getD i 0 = ((len + 1 : Nat) : Int) → codeOf L i = (cmore M t code : Int) → Sym L M m code len t (.ok (i, t + 1))
  | none {code len t : Nat} : t + 1 ≤ 8 * m → stf (cf L) (len + 1) + cf L (len + 1) ≤ (cmore M t code : Int) → plc (cf L) (len + 2) = plc (cf L) 16 → Sym L M m code len t (.error 3)
  | more {code len t : Nat} {r : Except Nat (Nat × Nat)} : t + 1 ≤ 8 * m → stf (cf L) (len + 1) + cf L (len + 1) ≤ (cmore M t code : Int) → plc (cf L) (len + 2) ≠ plc (cf L) 16 → Sym L M m (cmore M t code) (len + 1) (t + 1) r → Sym L M m code len t r

theorem hit_lt (L : List Int) (i N : Nat) (h1 : 1 ≤ N) (hi : i < L.length) (hx : L.getD i 0 = (N : Int)) : codeOf L i < stf (cf L) N + cf L N := by
  rw [codeOf_eq L i N hx (by omega)]
  have := cf_take_lt L i N hi hx (by omega)
  omega

theorem hit_one (L : List Int) (i j N : Nat) (h1 : 1 ≤ N) (hi : i < L.length) (hj : j < L.length) (hx : L.getD i 0 = (N : Int)) (hy : L.getD j 0 = (N : Int)) (e : codeOf L i = codeOf L j) : i = j := by
  rcases Nat.lt_trichotomy i j with h | h | h
  · have := code_rank L i j N hi hx hy (by omega) h; omega
  · exact h
  · have := code_rank L j i N hj hy hx (by omega) h; omega

theorem Sym.one {L : List Int} {M m code len t : Nat} {r r' : Except Nat (Nat × Nat)} (a : Sym L M m code len t r) (b : Sym L M m code len t r') : r = r' := by
  induction a with
  | short h =>
    cases b with
    | short _ => rfl
    | hit h2 => omega
    | none h2 => omega
    | more h2 => omega
  | hit h hi hx hc =>
    cases b with
    | short h2 => omega
    | hit h2 hj hy hd => rw [hit_one L _ _ _ (by omega) hi hj hx hy (by rw [hc, hd])]
    | none h2 hg => have := hit_lt L _ _ (by omega) hi hx; omega
    | more h2 hg => have := hit_lt L _ _ (by omega) hi hx; omega
  | none h hg hp =>
    cases b with
    | short h2 => omega
    | hit h2 hj hy hd => have := hit_lt L _ _ (by omega) hj hy; omega
    | none _ _ _ => rfl
    | more _ _ hq => exact absurd hp hq
  | more h hg hp _ ih =>
    cases b with
    | short h2 => omega
    | hit h2 hj hy hd => have := hit_lt L _ _ (by omega) hj hy; omega
    | none _ _ hq => exact absurd hq hp
    | more _ _ _ hs => exact ih hs

/-- The symbol that the bits from t on tell. -/
noncomputable def symV (L : List Int) (M m t : Nat) : Except Nat (Nat × Nat) := Classical.epsilon (Sym L M m 0 0 t)

theorem Sym.val {L : List Int} {M m t : Nat} {r : Except Nat (Nat × Nat)} (h : Sym L M m 0 0 t r) : symV L M m t = r :=
  (Classical.epsilon_spec ⟨r, h⟩ : Sym L M m 0 0 t (symV L M m t)).one h

theorem Sym.bd {L : List Int} {M m code len t : Nat} {r : Except Nat (Nat × Nat)} (a : Sym L M m code len t r) : ∀ i u, r = .ok (i, u) → i < L.length ∧ t < u ∧ u ≤ 8 * m := by
  induction a with
  | short h => intro i u e; cases e
  | hit h hi _ _ => intro i u e; injection e with e; injection e with e1 e2; subst e1; subst e2; exact ⟨hi, by omega, h⟩
  | none _ _ _ => intro i u e; cases e
  | more h _ _ _ ih => intro i u e; have := ih i u e; exact ⟨this.1, by omega, this.2.2⟩

/-- What holds of what is told. -/
def SymOk (n m t : Nat) : Except Nat (Nat × Nat) → Prop
  | .error x => x = 2 ∨ x = 3
  | .ok (i, u) => i < n ∧ t < u ∧ u ≤ 8 * m

theorem Sym.fine {L : List Int} {M m code len t : Nat} {r : Except Nat (Nat × Nat)} (a : Sym L M m code len t r) : SymOk L.length m t r := by
  induction a with
  | short h => exact .inl rfl
  | hit h hi _ _ => exact ⟨hi, by omega, h⟩
  | none _ _ _ => exact .inr rfl
  | @more code len t r h _ _ _ ih =>
    cases r with
    | error x => exact ih
    | ok z => exact ⟨ih.1, by have := ih.2.1; omega, ih.2.2⟩

theorem bitOf_nat (x : Nat) (h : x < 2) : bitOf (x : Int) = x := by
  unfold bitOf
  by_cases e : x = 0
  · subst e; rfl
  · rw [if_neg (by omega)]; omega

end Go.Proofs.YtcgjmkcigmmjjaaGreatDoor

namespace Go.Proofs.YtcgjmkcigmmjjaaGreatDoor
open Go.RowKit
set_option maxRecDepth 100000
set_option linter.unusedVariables false
/-- A decoder beside a stream. -/
structure Bes (p b : Nat) (s v : Value) (d bs : Nat) (L : List Int) : Prop where
  dp : d ≠ p
  db : d ≠ b
  ds : s.ownBlock ≠ some d
  dv : v.ownBlock ≠ some d
  bp : bs ≠ p
  bb : bs ≠ b
  bv : (∃ i, i < L.length ∧ 0 < L.getD i 0) → v.ownBlock ≠ some bs

theorem Dec.far {S : Nat → Prop} {w w' : World} {d : Nat} {L : List Int} {bs tot code len : Nat} (h : Dec w d L bs tot code len) (hs : Step S w w') (h1 : ¬ S d) (h2 : (∃ i, i < L.length ∧ 0 < L.getD i 0) → ¬ S bs) : Dec w' d L bs tot code len :=
  ⟨fun k hk => hs.cell (h.cn k hk) h1, hs.cell h.cs h1, fun i a1 a2 => hs.cell (h.sy i a1 a2) (h2 ⟨i, a1, a2⟩), hs.cell h.c1 h1, hs.cell h.c2 h1, hs.cell h.c3 h1, hs.cell h.c4 h1,
    fun k a1 a2 => (hs.frozen (p := ⟨d, k, none⟩) (World.block_lt_of_cell? w ⟨d, 17, none⟩ h.c1) h1).trans (h.fz k a1 a2), h.to, h.ne⟩

theorem Bes.grow {w : World} {p b : Nat} {s v v' : Value} {d bs : Nat} {L : List Int} {tot code len : Nat} (h : Bes p b s v d bs L) (hd : Dec w d L bs tot code len) (hv : v'.ownBlock = v.ownBlock ∨ ∃ k, v'.ownBlock = some k ∧ w.heap.size ≤ k) : Bes p b s v' d bs L := by
  refine ⟨h.dp, h.db, h.ds, ?_, h.bp, h.bb, ?_⟩
  · rcases hv with e | ⟨k, e, hk⟩
    · rw [e]; exact h.dv
    · rw [e]; intro e2
      have := Option.some.inj e2
      have hlt : d < w.heap.size := World.block_lt_of_cell? w _ hd.c1
      omega
  · rintro ⟨i, h1, h2⟩
    rcases hv with e | ⟨k, e, hk⟩
    · rw [e]; exact h.bv ⟨i, h1, h2⟩
    · rw [e]; intro e2
      have := Option.some.inj e2
      have hlt : bs < w.heap.size := World.block_lt_of_cell? w _ (hd.sy i h1 h2)
      omega

theorem Dec.beside {w w' : World} {p b : Nat} {s v : Value} {d bs : Nat} {L : List Int} {tot code len : Nat} (hd : Dec w d L bs tot code len) (h : Bes p b s v d bs L) (hs : Step (Sb p b v) w w') : Dec w' d L bs tot code len := by
  refine hd.far hs ?_ ?_
  · rintro (e | e | e)
    · exact h.dp e
    · exact h.db e
    · exact h.dv e
  · intro hx
    rintro (e | e | e)
    · exact h.bp e
    · exact h.bb e
    · exact h.bv hx e

/-- How symbol ends. -/
def SymE (w : World) (p b : Nat) (s v : Value) (M m : Nat) (O : List Nat) (most : Int) (d : Nat) (L : List Int) (bs tot : Nat) (r : Except Nat (Nat × Nat)) (e : Ending) (w' : World) : Prop :=
  Step (fun k => k = b ∨ k = d) w w' ∧
  match r with
  | .error x => e = .returned (.tuple #[.int .i64 0, .int .i64 (x : Int)])
  | .ok (i, t) => e = .returned (.tuple #[.int .i64 (i : Int), .int .i64 0]) ∧ Str w' p b s v M m t O most ∧ Dec w' d L bs tot 0 0

end Go.Proofs.YtcgjmkcigmmjjaaGreatDoor

namespace Go.Proofs.YtcgjmkcigmmjjaaGreatDoor
open Go.RowKit
set_option maxRecDepth 100000
set_option linter.unusedVariables false
/-- So many bits' number, and least more. -/
def numP (M m t least n : Nat) : Except Nat (Nat × Nat) := if t + n ≤ 8 * m then .ok (least + M / 2 ^ t % 2 ^ n, t + n) else .error 2

/-- How number ends. -/
def NumE (w : World) (p b : Nat) (s v : Value) (M m : Nat) (O : List Nat) (most : Int) (r : Except Nat (Nat × Nat)) (e : Ending) (w' : World) : Prop :=
  Step (fun k => k = b) w w' ∧
  match r with
  | .error x => e = .returned (.tuple #[.int .i64 0, .int .i64 (x : Int)])
  | .ok (y, t) => e = .returned (.tuple #[.int .i64 (y : Int), .int .i64 0]) ∧ Str w' p b s v M m t O most

/-- How long a match is, by its symbol (257 and more). -/
def lenP (M m x t : Nat) : Except Nat (Nat × Nat) :=
  if 286 ≤ x then .error 3 else if x = 285 then .ok (258, t) else if x < 265 then .ok (x - 254, t)
  else numP M m t ((4 + (x - 257) % 4) * 2 ^ ((x - 257) / 4 - 1) + 3) ((x - 257) / 4 - 1)

/-- How far back a match begins, by lengths of codes D. -/
noncomputable def disP (D : List Int) (M m t : Nat) : Except Nat (Nat × Nat) :=
  match symV D M m t with
  | .error e => .error e
  | .ok (k, u) => if 30 ≤ k then .error 3 else if k < 4 then .ok (k + 1, u) else numP M m u ((2 + k % 2) * 2 ^ (k / 2 - 1) + 1) (k / 2 - 1)

/-- What holds of a length. -/
def LenOk (m t : Nat) : Except Nat (Nat × Nat) → Prop
  | .error x => x = 2 ∨ x = 3
  | .ok (y, u) => 3 ≤ y ∧ y ≤ 258 ∧ t ≤ u ∧ u ≤ 8 * m

theorem lenP_ok (M m x t : Nat) (h1 : 257 ≤ x) (ht : t ≤ 8 * m) : LenOk m t (lenP M m x t) := by
  unfold lenP
  by_cases g1 : 286 ≤ x
  · rw [if_pos g1]; exact .inr rfl
  · rw [if_neg g1]
    by_cases g2 : x = 285
    · rw [if_pos g2]; exact ⟨by omega, by omega, by omega, ht⟩
    · rw [if_neg g2]
      by_cases g3 : x < 265
      · rw [if_pos g3]; exact ⟨by omega, by omega, by omega, ht⟩
      · rw [if_neg g3]
        unfold numP
        obtain ⟨k, rfl⟩ : ∃ k, x = k + 257 := ⟨x - 257, by omega⟩
        rw [Nat.add_sub_cancel]
        obtain ⟨n, hn, hn1, hn2⟩ : ∃ n, n = k / 4 - 1 ∧ 1 ≤ n ∧ n ≤ 5 := ⟨_, rfl, by omega, by omega⟩
        rw [← hn]
        by_cases g : t + n ≤ 8 * m
        · rw [if_pos g]
          have hk := Nat.mod_lt (M / 2 ^ t) (Nat.two_pow_pos n)
          have h4 : k % 4 ≤ 3 := by omega
          refine ⟨by omega, ?_, by omega, g⟩
          have hn5 : n = 1 ∨ n = 2 ∨ n = 3 ∨ n = 4 ∨ n = 5 := by omega
          rcases hn5 with e | e | e | e | e <;> subst e <;> simp at hk ⊢ <;> omega
        · rw [if_neg g]; exact .inl rfl

/-- What holds of a distance. -/
def DisOk (m t : Nat) : Except Nat (Nat × Nat) → Prop
  | .error x => x = 2 ∨ x = 3
  | .ok (y, u) => 1 ≤ y ∧ y ≤ 32768 ∧ t < u ∧ u ≤ 8 * m

theorem disP_ok (D : List Int) (M m t : Nat) (h : SymOk D.length m t (symV D M m t)) : DisOk m t (disP D M m t) := by
  unfold disP
  cases hv : symV D M m t with
  | error x => rw [hv] at h; exact h
  | ok z =>
    obtain ⟨k, u⟩ := z
    rw [hv] at h
    obtain ⟨_, h2, h3⟩ := h
    show DisOk m t (if 30 ≤ k then _ else _)
    by_cases g1 : 30 ≤ k
    · rw [if_pos g1]; exact .inr rfl
    · rw [if_neg g1]
      by_cases g2 : k < 4
      · rw [if_pos g2]; exact ⟨by omega, by omega, h2, h3⟩
      · rw [if_neg g2]
        unfold numP
        obtain ⟨n, hn, hn1, hn2⟩ : ∃ n, n = k / 2 - 1 ∧ 1 ≤ n ∧ n ≤ 13 := ⟨_, rfl, by omega, by omega⟩
        rw [← hn]
        by_cases g : u + n ≤ 8 * m
        · rw [if_pos g]
          have hk := Nat.mod_lt (M / 2 ^ u) (Nat.two_pow_pos n)
          refine ⟨by omega, ?_, by omega, g⟩
          have hp : (2 : Nat) ^ n ≤ 2 ^ 13 := Nat.pow_le_pow_right (by omega) hn2
          have h3' : 2 + k % 2 ≤ 3 := by omega
          have := Nat.mul_le_mul_right (2 ^ n) h3'
          omega
        · rw [if_neg g]; exact .inl rfl

end Go.Proofs.YtcgjmkcigmmjjaaGreatDoor

namespace Go.Proofs.YtcgjmkcigmmjjaaGreatDoor
open Go.RowKit
set_option maxRecDepth 100000
set_option linter.unusedVariables false
theorem xor_full (n k : Nat) (hn : n < 65536) (hk : k < 65536) : n ^^^ k = 65535 ↔ n + k = 65535 := by
  have e : n ^^^ 65535 = 65535 - n := by
    apply Nat.eq_of_testBit_eq
    intro i
    have h1 := Nat.testBit_two_pow_sub_succ (n := 16) hn i
    have h2 := Nat.testBit_two_pow_sub_one 16 i
    rw [show (2 : Nat) ^ 16 - (n + 1) = 65535 - n by omega] at h1
    rw [show (2 : Nat) ^ 16 - 1 = 65535 by rfl] at h2
    rw [Nat.testBit_xor, h1, h2]
    by_cases hi : i < 16
    · simp [hi]
    · simp [hi]
      exact Nat.testBit_lt_two_pow (Nat.lt_of_lt_of_le hn (Nat.pow_le_pow_right (n := 2) (i := 16) (j := i) (by omega) (by omega)))
  constructor
  · intro h
    have : k = n ^^^ 65535 := by rw [← h, ← Nat.xor_assoc, Nat.xor_self, Nat.zero_xor]
    omega
  · intro h
    have : k = n ^^^ 65535 := by omega
    rw [this, ← Nat.xor_assoc, Nat.xor_self, Nat.zero_xor]

theorem i64_xor_nat (a b : Nat) (ha : a < 65536) (hb : b < 65536) : bits .xor .i64 (a : Int) (b : Int) = ((a ^^^ b : Nat) : Int) := by
  show IntKind.i64.wrap ((BitVec.ofInt 64 (a : Int) ^^^ BitVec.ofInt 64 (b : Int)).toNat : Int) = _
  rw [BitVec.toNat_xor, ofInt_i64 a (by omega), ofInt_i64 b (by omega)]
  exact wrap_i64_nat _ (Nat.lt_of_lt_of_le (Nat.xor_lt_two_pow (n := 16) ha hb) (by omega))

/-- What a block of kind 0 tells, from bit t on: an error, or the next bit and all that came out. -/
def storedP (M m : Nat) (most : Int) (t : Nat) (O : List Nat) : Except Nat (Nat × List Nat) :=
  let u := (t + 7) / 8 * 8
  if u + 32 ≤ 8 * m then
    if M / 2 ^ u % 65536 + M / 2 ^ (u + 16) % 65536 = 65535 then
      if ((M / 2 ^ u % 65536 : Nat) : Int) ≤ most - (O.length : Int) then
        if u + 32 + 8 * (M / 2 ^ u % 65536) ≤ 8 * m then .ok (u + 32 + 8 * (M / 2 ^ u % 65536), O ++ bytesOf (M / 2 ^ (u + 32)) (M / 2 ^ u % 65536))
        else .error 2
      else .error 5
    else .error 3
  else .error 2

/-- How a step of a stream ends. -/
def Ends (w : World) (p b : Nat) (s v : Value) (M m : Nat) (most : Int) (r : Except Nat (Nat × List Nat)) (e : Ending) (w' : World) : Prop :=
  match r with
  | .error x => e = .returned (.int .i64 (x : Int)) ∧ Step (Sb p b v) w w' ∧ Keep p w w'
  | .ok (t, O) => e = .returned (.int .i64 0) ∧ After w w' p b s v M m t O most

end Go.Proofs.YtcgjmkcigmmjjaaGreatDoor

namespace Go.Proofs.YtcgjmkcigmmjjaaGreatDoor
open Go.RowKit
set_option maxRecDepth 100000
set_option linter.unusedVariables false
theorem Rd.lit' (w : World) (x : Nat) : Rd (w.alloc (.cells #[.int .u8 (x : Int)] 5)) (.slice (some ⟨w.heap.size, 0, none⟩) 1 1) [x] := Rd.lit w x

/-- So many bytes of those so far back, one by one. -/
def copyP (O : List Nat) (d : Nat) : Nat → List Nat
  | 0 => O
  | k + 1 => copyP O d k ++ [(copyP O d k).getD ((copyP O d k).length - d) 0]

theorem copyP_length (O : List Nat) (d : Nat) : ∀ k, (copyP O d k).length = O.length + k
  | 0 => rfl
  | k + 1 => by simp [copyP, copyP_length O d k, Nat.add_assoc]

/-- What a match tells. -/
noncomputable def matchP (D : List Int) (M m : Nat) (most : Int) (x t : Nat) (O : List Nat) : Except Nat (Nat × List Nat) :=
  match lenP M m x t with
  | .error e => .error e
  | .ok (n, t1) =>
    match disP D M m t1 with
    | .error e => .error e
    | .ok (d, t2) => if O.length < d then .error 22 else if (n : Int) ≤ most - (O.length : Int) then .ok (t2, copyP O d n) else .error 5

end Go.Proofs.YtcgjmkcigmmjjaaGreatDoor

namespace Go.Proofs.YtcgjmkcigmmjjaaGreatDoor
open Go.RowKit
set_option maxRecDepth 100000
set_option linter.unusedVariables false
/-- One byte behind a row with room. -/
theorem own_push {w : World} {g cap : Nat} {O : List Nat} (h : w.ownsRow 0 5 1 (.slice (some ⟨g, 0, none⟩) O.length cap) O.length (u8s O)) (c : Nat) (hc : O.length + 1 ≤ cap) :
    (∃ u, w.cell? ⟨g, O.length, none⟩ = some u) ∧ w.frozen? ⟨g, O.length, none⟩ = false ∧
    (w.setCell ⟨g, O.length, none⟩ (.int .u8 (c : Int))).ownsRow 0 5 1 (.slice (some ⟨g, 0, none⟩) (O.length + 1) cap) (O.length + 1) (u8s (O ++ [c])) ∧
    w.grownBy (w.setCell ⟨g, O.length, none⟩ (.int .u8 (c : Int))) (some g) := by
  rcases h.2 with ⟨e1, _⟩ | ⟨g', cap', cur, e1, _, hg, h3, h4, h5, h6⟩
  · cases e1
  · injection e1 with e2 e3 e4
    injection e2 with e2
    injection e2 with e2
    subst e2
    subst e4
    rw [Nat.mul_one] at h5 h6
    have hlt : O.length < cur.size := by omega
    refine ⟨⟨cur[O.length], ?_⟩, h.frozenAt _, ⟨by rw [u8s_length]; simp, .inr ⟨g, cap, _, rfl, Nat.zero_le _, heap_setCell_same w g O.length cur 5 _ hg, hc, h4, by simp [h5], ?_⟩⟩, ⟨rfl, rfl, rfl, by simp [World.setCell], fun k _ hk => Below.heap_setCell w _ _ k (fun e => hk (by rw [e]))⟩⟩
    · simp [World.cell?, hg, hlt]
    · rw [Nat.mul_one, Array.toList_setIfInBounds, u8s_append, ← h6]
      have hl : O.length < cur.toList.length := by simpa using hlt
      apply List.ext_getElem?
      intro i
      by_cases hi : i < O.length
      · rw [List.getElem?_take_of_lt (by omega), List.getElem?_append_left (by simp; omega), List.getElem?_take_of_lt hi, List.getElem?_set_ne (by omega)]
      · by_cases hi2 : i = O.length
        · subst hi2
          rw [List.getElem?_take_of_lt (by omega), List.getElem?_set_self hl, List.getElem?_append_right (by simp; omega)]
          simp [u8s, Nat.min_eq_left (Nat.le_of_lt hlt)]
        · rw [List.getElem?_eq_none (by simp; omega), List.getElem?_eq_none (by simp [u8s]; omega)]

theorem disP_pos {D : List Int} {M m t d u : Nat} (h : disP D M m t = .ok (d, u)) : 1 ≤ d := by
  unfold disP at h
  cases hv : symV D M m t with
  | error x => rw [hv] at h; cases h
  | ok z =>
    obtain ⟨k, r⟩ := z
    rw [hv] at h
    simp only at h
    by_cases g1 : 30 ≤ k
    · rw [if_pos g1] at h; cases h
    · rw [if_neg g1] at h
      by_cases g2 : k < 4
      · rw [if_pos g2] at h
        injection h with h
        injection h with h1 h2
        omega
      · rw [if_neg g2] at h
        unfold numP at h
        by_cases g : r + (k / 2 - 1) ≤ 8 * m
        · rw [if_pos g] at h
          injection h with h
          injection h with h1 h2
          omega
        · rw [if_neg g] at h; cases h

/-- How match ends. -/
def MatchE (w : World) (p b : Nat) (s v : Value) (M m : Nat) (most : Int) (d : Nat) (L : List Int) (bs tot : Nat) (r : Except Nat (Nat × List Nat)) (e : Ending) (w' : World) : Prop :=
  Step (fun k => Sb p b v k ∨ k = d) w w' ∧ Keep p w w' ∧
  match r with
  | .error x => e = .returned (.int .i64 (x : Int))
  | .ok (t, O) => e = .returned (.int .i64 0) ∧ (∃ v', Str w' p b s v' M m t O most ∧ (v'.ownBlock = v.ownBlock ∨ ∃ k, v'.ownBlock = some k ∧ w.heap.size ≤ k)) ∧ Dec w' d L bs tot 0 0

end Go.Proofs.YtcgjmkcigmmjjaaGreatDoor

namespace Go.Proofs.YtcgjmkcigmmjjaaGreatDoor
set_option linter.unusedVariables false
theorem Sym.exists {L : List Int} (hL : ∀ x ∈ L, 0 ≤ x ∧ x ≤ 15) {M m : Nat} : ∀ (k code len t : Nat), 8 * m + 1 - t ≤ k → Inv L code len → ∃ r, Sym L M m code len t r
  | 0, code, len, t, hk, hI => ⟨_, Sym.short (by omega)⟩
  | k + 1, code, len, t, hk, hI => by
    by_cases hs : t + 1 ≤ 8 * m
    · have hb : M / 2 ^ t % 2 < 2 := Nat.mod_lt _ (by omega)
      have hbit := hI.bit ((M / 2 ^ t % 2 : Nat) : Int)
      rw [bitOf_nat _ hb] at hbit
      have hcm : 2 * code + M / 2 ^ t % 2 = cmore M t code := rfl
      rw [hcm] at hbit
      by_cases hlt : (cmore M t code : Int) < stf (cf L) (len + 1) + cf L (len + 1)
      · obtain ⟨i, hi, hiN, hir⟩ := rank_hit' L (len + 1) (by omega) ((cmore M t code : Int) - stf (cf L) (len + 1)) (by omega) (by omega)
        exact ⟨_, Sym.hit hs hi hiN (by rw [codeOf_eq L i (len + 1) hiN (by omega), hir]; omega)⟩
      · by_cases hp : plc (cf L) (len + 2) = plc (cf L) 16
        · exact ⟨_, Sym.none hs (by omega) hp⟩
        · have hk' : 8 * m + 1 - (t + 1) ≤ k := by omega
          obtain ⟨r, hr⟩ := Sym.exists hL k (cmore M t code) (len + 1) (t + 1) hk' (Inv.next hL (by have := hI.1; omega) hbit.1 (r := -1) (.inr (.inr ⟨by omega, hp, rfl, rfl, rfl⟩)))
          exact ⟨r, Sym.more hs (by omega) hp hr⟩
    · exact ⟨_, Sym.short (by omega)⟩

theorem symV_spec {L : List Int} (hL : newErr L = 0) (M m t : Nat) : Sym L M m 0 0 t (symV L M m t) :=
  Classical.epsilon_spec (Sym.exists (newErr_ok hL).2 _ 0 0 t (Nat.le_refl _) (Inv.zero L))

theorem lenP_len {M m x t n u : Nat} (h1 : 257 ≤ x) (ht : t ≤ 8 * m) (h : lenP M m x t = .ok (n, u)) : n ≤ 258 ∧ t ≤ u ∧ u ≤ 8 * m := by
  have := lenP_ok M m x t h1 ht
  rw [h] at this
  exact ⟨this.2.1, this.2.2.1, this.2.2.2⟩

theorem matchP_ok {D : List Int} (hD : newErr D = 0) {M m : Nat} {most : Int} {x t u : Nat} {O O2 : List Nat} (h1 : 257 ≤ x) (ht : t ≤ 8 * m) (h : matchP D M m most x t O = .ok (u, O2)) : t < u ∧ u ≤ 8 * m ∧ O2.length ≤ O.length + 258 := by
  unfold matchP at h
  cases hq : lenP M m x t with
  | error e => rw [hq] at h; cases h
  | ok z =>
    obtain ⟨n, t1⟩ := z
    rw [hq] at h
    simp only at h
    have hl := lenP_len h1 ht hq
    have hd := disP_ok D M m t1 ((symV_spec hD M m t1).fine)
    cases hq2 : disP D M m t1 with
    | error e => rw [hq2] at h; cases h
    | ok z =>
      obtain ⟨d, t2⟩ := z
      rw [hq2] at h hd
      simp only at h
      obtain ⟨_, _, hd3, hd4⟩ := hd
      by_cases g1 : O.length < d
      · rw [if_pos g1] at h; cases h
      · rw [if_neg g1] at h
        by_cases g2 : (n : Int) ≤ most - (O.length : Int)
        · rw [if_pos g2] at h
          injection h with h
          injection h with e1 e2
          subst e1
          subst e2
          rw [copyP_length]
          omega
        · rw [if_neg g2] at h; cases h

/-- What the symbols of a block tell, from bit t on. -/
inductive Syms (L D : List Int) (M m : Nat) (most : Int) : Nat → List Nat → Except Nat (Nat × List Nat) → Prop
  | bad {t : Nat} {O : List Nat} {e : Nat} : symV L M m t = .error e → Syms L D M m most t O (.error e)
  | stop {t u : Nat} {O : List Nat} : symV L M m t = .ok (256, u) → Syms L D M m most t O (.ok (u, O))
  | full {t u c : Nat} {O : List Nat} : symV L M m t = .ok (c, u) → c < 256 → ¬ 1 ≤ most - (O.length : Int) → Syms L D M m most t O (.error 5)
  | lit {t u c : Nat} {O : List Nat} {r : Except Nat (Nat × List Nat)} : symV L M m t = .ok (c, u) → c < 256 → 1 ≤ most - (O.length : Int) → Syms L D M m most u (O ++ [c]) r → Syms L D M m most t O r
  | none {t u x e : Nat} {O : List Nat} : symV L M m t = .ok (x, u) → 256 < x → matchP D M m most x u O = .error e → Syms L D M m most t O (.error e)
  | mat {t u x u2 : Nat} {O O2 : List Nat} {r : Except Nat (Nat × List Nat)} : symV L M m t = .ok (x, u) → 256 < x → matchP D M m most x u O = .ok (u2, O2) → Syms L D M m most u2 O2 r → Syms L D M m most t O r

theorem ok_inj {a b c d : Nat} {x y : Except Nat (Nat × Nat)} (h : x = y) (h1 : x = .ok (a, b)) (h2 : y = .ok (c, d)) : a = c ∧ b = d := by
  rw [h1, h2] at h; injection h with h; injection h with h3 h4; exact ⟨h3, h4⟩

theorem Syms.one {L D : List Int} {M m : Nat} {most : Int} {t : Nat} {O : List Nat} {r r' : Except Nat (Nat × List Nat)} (a : Syms L D M m most t O r) (b : Syms L D M m most t O r') : r = r' := by
  induction a with
  | bad h =>
    cases b with
    | bad h2 => rw [h] at h2; injection h2 with h2; rw [h2]
    | stop h2 => rw [h] at h2; cases h2
    | full h2 => rw [h] at h2; cases h2
    | lit h2 => rw [h] at h2; cases h2
    | none h2 => rw [h] at h2; cases h2
    | mat h2 => rw [h] at h2; cases h2
  | stop h =>
    cases b with
    | bad h2 => rw [h] at h2; cases h2
    | stop h2 => obtain ⟨_, rfl⟩ := ok_inj rfl h h2; rfl
    | full h2 hc => obtain ⟨rfl, _⟩ := ok_inj rfl h h2; omega
    | lit h2 hc => obtain ⟨rfl, _⟩ := ok_inj rfl h h2; omega
    | none h2 hc => obtain ⟨rfl, _⟩ := ok_inj rfl h h2; omega
    | mat h2 hc => obtain ⟨rfl, _⟩ := ok_inj rfl h h2; omega
  | full h hc hm =>
    cases b with
    | bad h2 => rw [h] at h2; cases h2
    | stop h2 => obtain ⟨rfl, _⟩ := ok_inj rfl h h2; omega
    | full h2 => rfl
    | lit h2 _ hm2 => exact absurd hm2 hm
    | none h2 hc2 => obtain ⟨rfl, _⟩ := ok_inj rfl h h2; omega
    | mat h2 hc2 => obtain ⟨rfl, _⟩ := ok_inj rfl h h2; omega
  | lit h hc hm _ ih =>
    cases b with
    | bad h2 => rw [h] at h2; cases h2
    | stop h2 => obtain ⟨rfl, _⟩ := ok_inj rfl h h2; omega
    | full h2 _ hm2 => exact absurd hm hm2
    | lit h2 _ hm2 hs => obtain ⟨rfl, rfl⟩ := ok_inj rfl h h2; exact ih hs
    | none h2 hc2 => obtain ⟨rfl, _⟩ := ok_inj rfl h h2; omega
    | mat h2 hc2 => obtain ⟨rfl, _⟩ := ok_inj rfl h h2; omega
  | none h hc hm =>
    cases b with
    | bad h2 => rw [h] at h2; cases h2
    | stop h2 => obtain ⟨rfl, _⟩ := ok_inj rfl h h2; omega
    | full h2 hc2 => obtain ⟨rfl, _⟩ := ok_inj rfl h h2; omega
    | lit h2 hc2 => obtain ⟨rfl, _⟩ := ok_inj rfl h h2; omega
    | none h2 _ hm2 => obtain ⟨rfl, rfl⟩ := ok_inj rfl h h2; rw [hm] at hm2; injection hm2 with hm2; rw [hm2]
    | mat h2 _ hm2 => obtain ⟨rfl, rfl⟩ := ok_inj rfl h h2; rw [hm] at hm2; cases hm2
  | mat h hc hm _ ih =>
    cases b with
    | bad h2 => rw [h] at h2; cases h2
    | stop h2 => obtain ⟨rfl, _⟩ := ok_inj rfl h h2; omega
    | full h2 hc2 => obtain ⟨rfl, _⟩ := ok_inj rfl h h2; omega
    | lit h2 hc2 => obtain ⟨rfl, _⟩ := ok_inj rfl h h2; omega
    | none h2 _ hm2 => obtain ⟨rfl, rfl⟩ := ok_inj rfl h h2; rw [hm] at hm2; cases hm2
    | mat h2 _ hm2 hs =>
      obtain ⟨rfl, rfl⟩ := ok_inj rfl h h2
      rw [hm] at hm2
      injection hm2 with hm2
      injection hm2 with e1 e2
      subst e1
      subst e2
      exact ih hs

noncomputable def symsV (L D : List Int) (M m : Nat) (most : Int) (t : Nat) (O : List Nat) : Except Nat (Nat × List Nat) := Classical.epsilon (Syms L D M m most t O)

theorem Syms.val {L D : List Int} {M m : Nat} {most : Int} {t : Nat} {O : List Nat} {r : Except Nat (Nat × List Nat)} (h : Syms L D M m most t O r) : symsV L D M m most t O = r :=
  (Classical.epsilon_spec ⟨r, h⟩ : Syms L D M m most t O (symsV L D M m most t O)).one h

end Go.Proofs.YtcgjmkcigmmjjaaGreatDoor

namespace Go.Proofs.YtcgjmkcigmmjjaaGreatDoor
set_option linter.unusedVariables false
/-- The order in which the lengths of lengths' codes come. -/
def ordL : List Nat := [16, 17, 18, 0, 8, 7, 9, 6, 10, 5, 11, 4, 12, 3, 13, 2, 14, 1, 15]

def ord (k : Nat) : Nat := ordL.getD k 0

theorem ord_lt : ∀ k, ord k < 19 := by
  intro k
  by_cases h : k < 19
  · have : ∀ k, k < 19 → ord k < 19 := by decide
    exact this k h
  · unfold ord
    rw [List.getD_eq_getElem?_getD, List.getElem?_eq_none (by simp [ordL]; omega)]
    decide

/-- The lengths of the lengths' codes when k of them were read. -/
def clF (M t : Nat) : Nat → Nat → Int
  | 0, _ => 0
  | k + 1, j => if j = ord k then ((M / 2 ^ (t + 3 * k) % 8 : Nat) : Int) else clF M t k j

def clL (M t k : Nat) : List Int := (List.range 19).map (clF M t k)

theorem clF_bd (M t : Nat) : ∀ k j, 0 ≤ clF M t k j ∧ clF M t k j ≤ 7
  | 0, _ => by simp [clF]
  | k + 1, j => by
    have ih := clF_bd M t k j
    have h8 : M / 2 ^ (t + 3 * k) % 8 < 8 := Nat.mod_lt _ (by omega)
    simp only [clF]
    split
    · exact ⟨by omega, by omega⟩
    · exact ih

theorem clL_length (M t k : Nat) : (clL M t k).length = 19 := by simp [clL]

theorem clL_getD (M t k j : Nat) (h : j < 19) : (clL M t k).getD j 0 = clF M t k j := by simp [clL, List.getD, h]

/-- How many lengths a symbol of lengths tells. -/
def timP (M m x t : Nat) : Except Nat (Nat × Nat) :=
  if x = 16 then numP M m t 3 2 else if x = 17 then numP M m t 3 3 else if x = 18 then numP M m t 11 7 else .ok (1, t)

/-- What holds of it. -/
def TimOk (m t : Nat) : Except Nat (Nat × Nat) → Prop
  | .error x => x = 2
  | .ok (y, u) => 1 ≤ y ∧ y ≤ 138 ∧ t ≤ u ∧ u ≤ 8 * m

theorem timP_ok (M m x t : Nat) (ht : t ≤ 8 * m) : TimOk m t (timP M m x t) := by
  have key : ∀ l n, 1 ≤ l → l + 2 ^ n ≤ 139 → TimOk m t (numP M m t l n) := by
    intro l n h1 h2
    unfold numP
    by_cases g : t + n ≤ 8 * m
    · rw [if_pos g]
      have := Nat.mod_lt (M / 2 ^ t) (Nat.two_pow_pos n)
      exact ⟨by omega, by omega, by omega, g⟩
    · rw [if_neg g]; rfl
  unfold timP
  split
  · exact key 3 2 (by omega) (by decide)
  · split
    · exact key 3 3 (by omega) (by decide)
    · split
      · exact key 11 7 (by omega) (by decide)
      · exact ⟨by omega, by omega, by omega, ht⟩

/-- Which length it tells, behind those that were told. -/
def lenOf (x : Nat) (A : List Int) : Int := if x = 16 then A.getD (A.length - 1) 0 else if 16 < x then 0 else (x : Int)

theorem lenOf_nonneg (x : Nat) (A : List Int) (h : ∀ y ∈ A, 0 ≤ y) : 0 ≤ lenOf x A := by
  unfold lenOf
  split
  · rw [List.getD_eq_getElem?_getD]
    cases hq : A[A.length - 1]? with
    | none => simp
    | some q => exact h q (List.mem_of_getElem? hq)
  · split <;> omega

theorem more_nonneg {x n : Nat} {A : List Int} {l : Int} (h : ∀ y ∈ A, 0 ≤ y) (hl : lenOf x A = l) : ∀ y ∈ A ++ List.replicate n l, 0 ≤ y := by
  intro y hy
  rcases List.mem_append.1 hy with e | e
  · exact h y e
  · rw [List.eq_of_mem_replicate e, ← hl]; exact lenOf_nonneg x A h

/-- What lengths are read, by codes C, until there are so many. -/
inductive Lens (C : List Int) (M m many : Nat) : Nat → List Int → Except Nat (Nat × List Int) → Prop
  | done {t : Nat} {A : List Int} : many ≤ A.length → Lens C M m many t A (.ok (t, A))
  | bad {t e : Nat} {A : List Int} : A.length < many → symV C M m t = .error e → Lens C M m many t A (.error e)
  | first {t u : Nat} {A : List Int} : A.length < many → symV C M m t = .ok (16, u) → A.length = 0 → Lens C M m many t A (.error 3)
  | short {t u x e : Nat} {A : List Int} : A.length < many → symV C M m t = .ok (x, u) → ¬ (x = 16 ∧ A.length = 0) → timP M m x u = .error e → Lens C M m many t A (.error e)
  | over {t u x n u2 : Nat} {A : List Int} : A.length < many → symV C M m t = .ok (x, u) → ¬ (x = 16 ∧ A.length = 0) → timP M m x u = .ok (n, u2) → many - A.length < n → Lens C M m many t A (.error 3)
  | more {t u x n u2 : Nat} {A : List Int} {r : Except Nat (Nat × List Int)} : A.length < many → symV C M m t = .ok (x, u) → ¬ (x = 16 ∧ A.length = 0) → timP M m x u = .ok (n, u2) → n ≤ many - A.length → Lens C M m many u2 (A ++ List.replicate n (lenOf x A)) r → Lens C M m many t A r

theorem Lens.one {C : List Int} {M m many t : Nat} {A : List Int} {r r' : Except Nat (Nat × List Int)} (a : Lens C M m many t A r) (b : Lens C M m many t A r') : r = r' := by
  induction a with
  | done h =>
    cases b with
    | done _ => rfl
    | bad h2 => omega
    | first h2 => omega
    | short h2 => omega
    | over h2 => omega
    | more h2 => omega
  | bad h hs =>
    cases b with
    | done h2 => omega
    | bad _ h2 => rw [hs] at h2; injection h2 with h2; rw [h2]
    | first _ h2 => rw [hs] at h2; cases h2
    | short _ h2 => rw [hs] at h2; cases h2
    | over _ h2 => rw [hs] at h2; cases h2
    | more _ h2 => rw [hs] at h2; cases h2
  | first h hs hz =>
    cases b with
    | done h2 => omega
    | bad _ h2 => rw [hs] at h2; cases h2
    | first _ _ _ => rfl
    | short _ h2 hn => obtain ⟨e1, _⟩ := ok_inj rfl hs h2; exact absurd ⟨e1.symm, hz⟩ hn
    | over _ h2 hn => obtain ⟨e1, _⟩ := ok_inj rfl hs h2; exact absurd ⟨e1.symm, hz⟩ hn
    | more _ h2 hn => obtain ⟨e1, _⟩ := ok_inj rfl hs h2; exact absurd ⟨e1.symm, hz⟩ hn
  | short h hs hn ht =>
    cases b with
    | done h2 => omega
    | bad _ h2 => rw [hs] at h2; cases h2
    | first _ h2 hz => obtain ⟨e1, _⟩ := ok_inj rfl hs h2; exact absurd ⟨e1, hz⟩ hn
    | short _ h2 _ ht2 => obtain ⟨rfl, rfl⟩ := ok_inj rfl hs h2; rw [ht] at ht2; injection ht2 with ht2; rw [ht2]
    | over _ h2 _ ht2 => obtain ⟨rfl, rfl⟩ := ok_inj rfl hs h2; rw [ht] at ht2; cases ht2
    | more _ h2 _ ht2 => obtain ⟨rfl, rfl⟩ := ok_inj rfl hs h2; rw [ht] at ht2; cases ht2
  | over h hs hn ht ho =>
    cases b with
    | done h2 => omega
    | bad _ h2 => rw [hs] at h2; cases h2
    | first _ h2 hz => rfl
    | short _ h2 _ ht2 => obtain ⟨rfl, rfl⟩ := ok_inj rfl hs h2; rw [ht] at ht2; cases ht2
    | over _ _ _ _ _ => rfl
    | more _ h2 _ ht2 ho2 => obtain ⟨rfl, rfl⟩ := ok_inj rfl hs h2; obtain ⟨rfl, _⟩ := ok_inj rfl ht ht2; omega
  | more h hs hn ht ho _ ih =>
    cases b with
    | done h2 => omega
    | bad _ h2 => rw [hs] at h2; cases h2
    | first _ h2 hz => obtain ⟨e1, _⟩ := ok_inj rfl hs h2; exact absurd ⟨e1, hz⟩ hn
    | short _ h2 _ ht2 => obtain ⟨rfl, rfl⟩ := ok_inj rfl hs h2; rw [ht] at ht2; cases ht2
    | over _ h2 _ ht2 ho2 => obtain ⟨rfl, rfl⟩ := ok_inj rfl hs h2; obtain ⟨rfl, _⟩ := ok_inj rfl ht ht2; omega
    | more _ h2 _ ht2 _ hr =>
      obtain ⟨rfl, rfl⟩ := ok_inj rfl hs h2
      obtain ⟨rfl, rfl⟩ := ok_inj rfl ht ht2
      exact ih hr

noncomputable def lensV (C : List Int) (M m many t : Nat) : Except Nat (Nat × List Int) := Classical.epsilon (Lens C M m many t [])

theorem Lens.val {C : List Int} {M m many t : Nat} {r : Except Nat (Nat × List Int)} (h : Lens C M m many t [] r) : lensV C M m many t = r :=
  (Classical.epsilon_spec ⟨r, h⟩ : Lens C M m many t [] (lensV C M m many t)).one h

/-- Lengths, as codes of literals (so many) and of distances. -/
def ownA (lit u : Nat) (A : List Int) : Except Nat (Nat × List Int × List Int) :=
  if A.getD 256 0 = 0 then .error 3
  else if newErr (A.take lit) ≠ 0 then .error (newErr (A.take lit)).toNat
  else if newErr (A.drop lit) ≠ 0 then .error (newErr (A.drop lit)).toNat
  else .ok (u, A.take lit, A.drop lit)

def ownB (lit : Nat) : Except Nat (Nat × List Int) → Except Nat (Nat × List Int × List Int)
  | .error e => .error e
  | .ok (u, A) => ownA lit u A

noncomputable def ownC (M m t h2 h3 h4 : Nat) : Except Nat (Nat × List Int × List Int) :=
  if 286 < h2 + 257 ∨ 30 < h3 + 1 then .error 3
  else if t + 14 + 3 * (h4 + 4) ≤ 8 * m then
    if newErr (clL M (t + 14) (h4 + 4)) = 0 then ownB (h2 + 257) (lensV (clL M (t + 14) (h4 + 4)) M m (h2 + 257 + (h3 + 1)) (t + 14 + 3 * (h4 + 4)))
    else .error (newErr (clL M (t + 14) (h4 + 4))).toNat
  else .error 2

/-- The codes that a block of kind 2 begins with: an error, or the lengths of literals and of distances, and the next bit. -/
noncomputable def ownP (M m t : Nat) : Except Nat (Nat × List Int × List Int) :=
  if t + 14 ≤ 8 * m then ownC M m t (M / 2 ^ t % 16384 % 32) (M / 2 ^ t % 16384 / 32 % 32) (M / 2 ^ t % 16384 / 1024) else .error 2

end Go.Proofs.YtcgjmkcigmmjjaaGreatDoor

namespace Go.Proofs.YtcgjmkcigmmjjaaGreatDoor
set_option linter.unusedVariables false
def lensB (lit : Nat) : Except Nat (Nat × List Int) → Except Nat (Nat × Nat × List Int)
  | .error e => .error e
  | .ok (u, A) => .ok (lit, u, A)

/-- The lengths that a block of kind 2 begins with: an error, or how many are of literals, the next bit, all of them. -/
noncomputable def lensR (M m t : Nat) : Except Nat (Nat × Nat × List Int) :=
  if t + 14 ≤ 8 * m then
    if 286 < M / 2 ^ t % 32 + 257 ∨ 30 < M / 2 ^ (t + 5) % 32 + 1 then .error 3
    else if t + 14 + 3 * (M / 2 ^ (t + 10) % 16 + 4) ≤ 8 * m then
      if newErr (clL M (t + 14) (M / 2 ^ (t + 10) % 16 + 4)) = 0 then
        lensB (M / 2 ^ t % 32 + 257) (lensV (clL M (t + 14) (M / 2 ^ (t + 10) % 16 + 4)) M m (M / 2 ^ t % 32 + 257 + (M / 2 ^ (t + 5) % 32 + 1)) (t + 14 + 3 * (M / 2 ^ (t + 10) % 16 + 4)))
      else .error (newErr (clL M (t + 14) (M / 2 ^ (t + 10) % 16 + 4))).toNat
    else .error 2
  else .error 2

theorem ownP_lensR (M m t : Nat) : ownP M m t = match lensR M m t with | .error e => .error e | .ok (lit, u, A) => ownA lit u A := by
  have e1 : M / 2 ^ t % 16384 % 32 = M / 2 ^ t % 32 := by omega
  have e5 : M / 2 ^ (t + 5) = M / 2 ^ t / 32 := by rw [Nat.pow_add, ← Nat.div_div_eq_div_mul]
  have e10 : M / 2 ^ (t + 10) = M / 2 ^ t / 1024 := by rw [Nat.pow_add, ← Nat.div_div_eq_div_mul]
  have e2 : M / 2 ^ t % 16384 / 32 % 32 = M / 2 ^ (t + 5) % 32 := by rw [e5]; omega
  have e3 : M / 2 ^ t % 16384 / 1024 = M / 2 ^ (t + 10) % 16 := by rw [e10]; omega
  unfold ownP lensR
  rw [e1, e2, e3]
  by_cases g1 : t + 14 ≤ 8 * m
  · rw [if_pos g1, if_pos g1]
    unfold ownC
    by_cases g2 : 286 < M / 2 ^ t % 32 + 257 ∨ 30 < M / 2 ^ (t + 5) % 32 + 1
    · rw [if_pos g2, if_pos g2]
    · rw [if_neg g2, if_neg g2]
      by_cases g3 : t + 14 + 3 * (M / 2 ^ (t + 10) % 16 + 4) ≤ 8 * m
      · rw [if_pos g3, if_pos g3]
        by_cases g4 : newErr (clL M (t + 14) (M / 2 ^ (t + 10) % 16 + 4)) = 0
        · rw [if_pos g4, if_pos g4]
          cases lensV (clL M (t + 14) (M / 2 ^ (t + 10) % 16 + 4)) M m (M / 2 ^ t % 32 + 257 + (M / 2 ^ (t + 5) % 32 + 1)) (t + 14 + 3 * (M / 2 ^ (t + 10) % 16 + 4)) with
          | error e => rfl
          | ok z => rfl
        · rw [if_neg g4, if_neg g4]
      · rw [if_neg g3, if_neg g3]
  · rw [if_neg g1, if_neg g1]

end Go.Proofs.YtcgjmkcigmmjjaaGreatDoor

namespace Go.Proofs.YtcgjmkcigmmjjaaGreatDoor
open Go.RowKit
set_option maxRecDepth 100000
set_option linter.unusedVariables false
theorem u64_and_low (n : Nat) (h : n ≤ 100000) : bits .and .u64 (n : Int) 4294967295 = (n : Int) := by
  show IntKind.u64.wrap ((BitVec.ofInt 64 (n : Int) &&& BitVec.ofInt 64 (4294967295 : Int)).toNat : Int) = _
  have e1 : (BitVec.ofInt 64 (n : Int)).toNat = n := by simp; omega
  have e2 : (BitVec.ofInt 64 (4294967295 : Int)).toNat = 2 ^ 32 - 1 := by decide
  rw [BitVec.toNat_and, e1, e2, Nat.and_two_pow_sub_one_eq_mod, Nat.mod_eq_of_lt (by omega)]
  simp [IntKind.wrap, IntKind.bits, IntKind.signed]; omega

set_option maxHeartbeats 1000000 in
theorem mul64_one (n : Nat) (w : World) (h : n ≤ 100000) : Calls Tryz.prog 82 #[.int .u64 1, .int .u64 n] w fun e w' => e = .returned (.tuple #[.int .u64 0, .int .u64 n]) ∧ w' = w := by
  have h1 := u64_and_low n h
  have h2 : bits .and .u64 1 4294967295 = 1 := u64_and_low 1 (by omega)
  have h3 : bits .and .u64 0 4294967295 = 0 := u64_and_low 0 (by omega)
  have h4 : (n : Int) / 2 ^ 32 = 0 := by omega
  have h5 : (n : Int) / 4294967296 = 0 := by omega
  go_enter Tryz.func82, Tryz.ntmps82
  go_wp2
  go_ret2
  refine ⟨?_, rfl⟩
  simp

set_option maxHeartbeats 1000000 in
theorem mul_one' (n : Nat) (w : World) (h : n ≤ 100000) : Calls Tryz.prog 53 #[.int .u64 1, .int .u64 n] w fun e w' => e = .returned (.tuple #[.int .u64 0, .int .u64 n]) ∧ w' = w := by
  have HM := hidden (mul64_one n w h)
  go_enter Tryz.func53, Tryz.ntmps53
  go_wp2_with (go_at_call 82; refine HM.out.mono ?_; rintro e w1 ⟨rfl, rfl⟩)
  go_ret2
  exact ⟨rfl, rfl⟩

/-- The first t of n cells are x, the others 0. -/
def repC (x : Int) (t n : Nat) : List Value := List.replicate t (.int .i64 x) ++ List.replicate (n - t) (.int .i64 0)

theorem repC_length (x : Int) (t n : Nat) (h : t ≤ n) : (repC x t n).length = n := by simp [repC]; omega

theorem repC_zero (n : Nat) (x : Int) : (madeCells #[Value.int .i64 0] n).toList = repC x 0 n := by
  apply List.ext_getElem
  · simp [repC, size_madeCells]
  · intro i h1 h2
    have h3 : i < n := by simpa [size_madeCells] using h1
    simp [repC, madeCells, Nat.mod_one]

theorem repC_full (x : Int) (n : Nat) : repC x n n = i64s (List.replicate n x) := by simp [repC, i64s]

theorem repC_next (x : Int) (t k n : Nat) (h : t + k ≤ n) : splice (repC x t n) t (List.replicate k (.int .i64 x)) = repC x (t + k) n := by
  unfold splice repC
  rw [List.take_left' (by simp), List.length_replicate, ← List.append_assoc, List.replicate_append_replicate]
  congr 1
  rw [List.drop_append, List.length_replicate, List.drop_replicate, List.drop_replicate]
  rw [show t - (t + k) = 0 by omega, List.replicate_zero, List.nil_append]
  congr 1
  omega

theorem heap_alloc_at (w : World) (o : Obj) : (w.alloc o).heap[w.heap.size]? = some o := Array.getElem?_push_size

set_option maxHeartbeats 4000000 in
theorem srepeat_any (g : Nat) (x : Int) (n : Nat) (w : World) (hg : w.cell? ⟨g, 0, none⟩ = some (.int .i64 x)) (h1 : 1 ≤ n) (hn : n ≤ 100000) :
    Calls Tryz.prog 27 #[.slice (some ⟨g, 0, none⟩) 1 1, .int .i64 n] w fun e w' => ∃ k, e = .returned (.slice (some ⟨k, 0, none⟩) n n) ∧ w.heap.size ≤ k ∧ w'.ownsRow 0 3 1 (.slice (some ⟨k, 0, none⟩) n n) n (i64s (List.replicate n x)) ∧ Step (fun _ => False) w w' := by
  obtain ⟨i0, hi, hz0, hz1, hz2⟩ := info_parts Tryz.info3
  have hmk : ∀ W : World, Sem.run Tryz.prog (Instr.makeSlice 30 (.int .i64 (n : Int)) (.int .i64 (n : Int))) W = .ok (.slice (some ⟨W.heap.size, 0, none⟩) n n) (W.alloc (.cells (madeCells #[.int .i64 0] n) 3)) := by
    intro W
    have := run_make (P := Tryz.prog) W 30 3 i0 (.int .i64 0) Tryz.underlying30 hi hz0 .i64 .i64 (n : Int) (n : Int) (by omega) (by omega) (by rw [hz2]; omega) (by omega)
    rw [hz1, Nat.mul_one] at this
    exact this
  have HM := hidden (mul_one' n)
  obtain ⟨C0, hC0⟩ : ∃ C, C = Obj.cells (madeCells #[Value.int IntKind.i64 0] n) 3 := ⟨_, rfl⟩
  have HC0 := hidden hC0
  rw [← hC0] at hmk
  have HS : Hid (Step (fun _ => False) w (w.alloc C0)) := hidden ((Step.refl _ w).alloc _)
  have Hg : Hid ((w.alloc C0).heap[w.heap.size]? = some (.cells (repC x 0 n).toArray 3 (0, 0))) := hidden ((heap_alloc_at w _).trans (by rw [← repC_zero, hC0]))
  have HB : Hid (Below w.heap.size w (w.alloc C0)) := hidden (HS.out.below _ (Nat.le_refl _) (fun _ h => h.elim))
  obtain ⟨X1, hX1⟩ : ∃ X1, X1 = [Value.int .i64 x] := ⟨_, rfl⟩
  have HX1 := hidden hX1
  have hsrc : Hid (∀ j u, X1[j]? = some u → (w.alloc C0).cell? ((⟨g, 0, none⟩ : Addr).add j) = some u) := hidden (fun j u hu => by
    subst hX1
    have hj : j = 0 := by have := (List.getElem?_eq_some_iff.1 hu).1; simp at this; omega
    subst hj
    simp at hu
    rw [← hu]
    exact HS.out.cell hg (fun h => h))
  have hlen : Hid (X1.length = Nat.min 1 n) := hidden (by subst hX1; show 1 = min 1 n; omega)
  have hone : Hid (∀ v ∈ X1, v.oneCell' = true) := hidden (fun v hv => by subst hX1; obtain rfl := List.mem_singleton.1 hv; rfl)
  have hfit : Hid (0 + X1.length ≤ (repC x 0 n).length) := hidden (by subst hX1; rw [repC_length _ _ _ (by omega)]; simp; omega)
  clear hX1
  have hw1 : IntKind.u64.wrap (n : Int) = (n : Int) := by simp [IntKind.wrap, IntKind.bits, IntKind.signed]; omega
  have hsz : (Tryz.prog.info? 3).map (·.size) = some 1 := by kernel_rfl
  have HSZ := hidden hsz
  clear hi hz0 hz1 hz2 hsz hC0
  go_enter Tryz.func27, Tryz.ntmps27
  go_wp2_with (first | (go_at_call 53; refine (HM.out _ hn).mono ?_; rintro e w1 ⟨rfl, rfl⟩) | (refine wpList_copy_splice rfl (.tmp 31) (.tmp 32) 30 30 rfl 3 Tryz.underlying30 HSZ.out _ _ _ _ _ _ rfl rfl _ 0 _ 3 Hg.out X1 hlen.out (fun _ => ⟨rfl, _, rfl, hsrc.out⟩) hfit.out hone.out _ _ HB.out (Nat.le_refl _) ?_))
  intro W2 HG2 hB2
  rw [show X1.length = 1 by rw [HX1.out]; rfl]
  have HI : Hid (W2.heap[w1.heap.size]? = some (.cells (repC x 1 n).toArray 3 (0, 0)) ∧ Step (fun _ => False) w1 W2) := hidden ⟨by
    have := HG2.out
    rw [HX1.out] at this
    rw [this, ← repC_next x 0 1 n (by omega)]
    rfl, ⟨hB2.os, hB2.tape, hB2.output, hB2.size, fun k hk _ => hB2.block k hk⟩⟩
  clear HG2 hB2 hlen hsrc hfit hone Hg HB HS hmk hg
  go_wp2
  go_loopw [8] (fun i wr => ∃ t : Nat, i = .int .i64 (t : Int) ∧ 1 ≤ t ∧ t ≤ n ∧ Hid (wr.heap[w1.heap.size]? = some (.cells (repC x t n).toArray 3 (0, 0)) ∧ Step (fun _ => False) w1 wr)) (fun i _ => n - (intOf i).toNat)
  case atStart => exact ⟨1, rfl, Nat.le_refl _, h1, HI.out⟩
  case round =>
    obtain ⟨t, rfl, ht1, htn, HR⟩ := hrel
    by_cases hlt : t < n
    · obtain ⟨k, hk, hk1, hk2⟩ : ∃ k, k = Nat.min t (n - t) ∧ 1 ≤ k ∧ t + k ≤ n := ⟨_, rfl, by show 1 ≤ min t (n - t); omega, by show t + min t (n - t) ≤ n; omega⟩
      obtain ⟨X, hX⟩ : ∃ X, X = List.replicate k (Value.int .i64 x) := ⟨_, rfl⟩
      have hXl : X.length = k := by rw [hX]; simp
      have hlen : Hid (X.length = Nat.min t (n - t)) := hidden (by rw [hXl, hk])
      have hone : Hid (∀ v ∈ X, v.oneCell' = true) := hidden (fun v hv => by rw [hX] at hv; obtain rfl := List.eq_of_mem_replicate hv; rfl)
      have hfit : Hid (t + X.length ≤ (repC x t n).length) := hidden (by rw [repC_length _ _ _ htn, hXl]; exact hk2)
      have hsrc : Hid (∀ q j u, X[j]? = some u → (wr.drewN q).cell? ((⟨w1.heap.size, 0, none⟩ : Addr).add j) = some u) := hidden (fun q j u hu => by
        have hj : j < k := by have := (List.getElem?_eq_some_iff.1 hu).1; rwa [hXl] at this
        rw [hX, List.getElem?_replicate, if_pos hj] at hu
        have hkt : k ≤ t := by rw [hk]; exact Nat.min_le_left _ _
        have e : (repC x t n)[j]? = some (.int .i64 x) := by
          unfold repC
          rw [List.getElem?_append_left (by simp; omega), List.getElem?_replicate, if_pos (by omega)]
        rw [Addr.add_lit, Nat.zero_add]
        show wr.cell? _ = _
        rw [← hu]
        simp only [World.cell?, HR.out.1]
        simp [e])
      have hB : Hid (∀ q, Below w1.heap.size w1 (wr.drewN q)) := hidden (fun q => (HR.out.2.drewN q).below _ (Nat.le_refl _) (fun _ h => h.elim))
      have hX2 := hidden hX
      clear hX hk
      have HG : Hid (∀ q, (wr.drewN q).heap[w1.heap.size]? = some (.cells (repC x t n).toArray 3 (0, 0))) := hidden (fun _ => HR.out.1)
      have a1 : (0 : Int) ≤ (t : Int) := by omega
      have a2 : (t : Int) ≤ (n : Int) := by omega
      have a3 : ¬ n = t := by omega
      have a4 : ¬ n - t = 0 := by omega
      go_wp2
      go_region_law (refine step_copy_splice rfl (.tmp 41) (.tmp 44) 30 30 rfl 3 Tryz.underlying30 HSZ.out _ _ _ _ _ _ (by simp [Act.eval, Act.put]; rfl) (by simp [Act.eval, Act.put]; rfl) w1.heap.size t _ 3 (HG.out _) X hlen.out (fun _ => ⟨rfl, _, rfl, hsrc.out _⟩) hfit.out hone.out w1.heap.size w1 (hB.out _) (Nat.le_refl _) ?_; intro W3 HG3 hB3)
      have HI3 : Hid (W3.heap[w1.heap.size]? = some (.cells (repC x (t + k) n).toArray 3 (0, 0)) ∧ Step (fun _ => False) w1 W3) := hidden ⟨by
        have := HG3.out
        rw [hX2.out, repC_next x t k n hk2] at this
        exact this, ⟨hB3.os, hB3.tape, hB3.output, hB3.size, fun k hk _ => hB3.block k hk⟩⟩
      clear HG3 hB3 hlen hsrc hfit hone HG hB
      simp [Act.put]
      have hwr : IntKind.i64.wrap ((t : Int) + (k : Int)) = ((t + k : Nat) : Int) := by rw [wrap_i64_id _ (by omega) (by omega)]; simp
      rw [hwr]
      clear hwr
      go_wp2
      go_roundw
      case rel => refine ⟨_, _, _, _, _, _, _, _, _, _, _, _, _, _, ⟨t + k, rfl, by omega, hk2, HI3.out⟩, rfl⟩
      case measure => simp [intOf]; omega
    · have htt : t = n := by omega
      subst htt
      have hbad : ¬ (t : Int) < (t : Int) := by omega
      go_wp2
      go_ret
      refine ⟨w1.heap.size, rfl, Nat.le_refl _, ⟨by rw [i64s_length, List.length_replicate, Nat.mul_one], .inr ⟨_, t, _, rfl, Nat.zero_le _, HR.out.1, Nat.le_refl _, by unfold maxLen; omega, by simp [repC], ?_⟩⟩, HR.out.2⟩
      rw [Nat.mul_one, ← repC_full]
      have := repC_length x t t (Nat.le_refl _)
      rw [List.take_of_length_le (by simp; omega)]

end Go.Proofs.YtcgjmkcigmmjjaaGreatDoor

namespace Go.Proofs.YtcgjmkcigmmjjaaGreatDoor
open Go.RowKit
set_option maxRecDepth 100000
set_option linter.unusedVariables false
set_option maxHeartbeats 2000000 in
theorem grow_nil (n : Nat) (w : World) (h1 : 1 ≤ n) (hn : n ≤ 100000) :
    Calls Tryz.prog 87 #[.slice none 0 0, .int .i64 n] w fun e w' => ∃ v, e = .returned v ∧ w'.ownsRow 0 3 1 v 0 (i64s []) ∧ Step (fun _ => False) w w' ∧ v.ownBlock = some w.heap.size := by
  obtain ⟨i0, hi, hz0, hz1, hz2⟩ := info_parts Tryz.info3
  have hrz : ∀ ty, (Builtin.append_ #[30, 3] ty #[.slice none 0 0, .int .i64 (n : Int)]).run Tryz.prog w =
      .ok (.slice (some ⟨w.heap.size, 0, none⟩) n (grownCap w n 0 3)) (w.drew.alloc (.cells (([] : List Value).toArray ++ Builtin.zeroCells (Value.int .i64 0).cells n ++ Builtin.zeroCells (Value.int .i64 0).cells (grownCap w n 0 3 - n)) 3)) := fun ty => by
    have h := Lib.run_append_grow_zeros w 30 3 ty 3 i0 (.int .i64 0) .i64 .i64 Tryz.underlying30 Tryz.underlying3 hi hz0 none 0 0 [] (run_firstCells_none w.drew i0.size 0 0 0) n (by omega) (by omega) (by omega) (by omega) (by rw [hz2]; omega)
      (growslice_fits (by omega) (by rw [hz2]; omega))
    rw [Nat.zero_add] at h
    exact h
  have hGn : n ≤ grownCap w n 0 3 := grownCap_ge w _ _ _
  have hGm : grownCap w n 0 3 ≤ maxLen := grownCap_le_maxLen w n 0 3 (by unfold maxLen; omega)
  obtain ⟨G, hG⟩ : ∃ G, G = grownCap w n 0 3 := ⟨_, rfl⟩
  rw [← hG] at hrz hGn hGm
  obtain ⟨C, hC⟩ : ∃ C, C = (([] : List Value).toArray ++ Builtin.zeroCells (Value.int .i64 0).cells n ++ Builtin.zeroCells (Value.int .i64 0).cells (G - n)) := ⟨_, rfl⟩
  rw [← hC] at hrz
  have HC : Hid (C.size = G) := hidden (by rw [hC]; simp [Builtin.zeroCells, Value.cells]; omega)
  have HM := hidden hGm
  have HRZ := hidden hrz
  have hG63 : (n : Int) ≤ (G : Int) := by omega
  have h0G : (0 : Int) ≤ (G : Int) := by omega
  clear hrz hG hC hGm hi hz0 hz1 hz2
  go_enter Tryz.func87, Tryz.ntmps87
  go_wp2_with (at_builtin; refine Lib.wpList_append_run _ rfl _ _ _ _ rfl _ _ rfl rfl _ _ (HRZ.out _) ?_)
  go_ret
  refine ⟨_, rfl, ⟨by simp [i64s], .inr ⟨w.heap.size, G, C, rfl, Nat.zero_le _, heap_alloc_at _ _, Nat.zero_le _, HM.out, by rw [HC.out, Nat.mul_one], by simp [i64s]⟩⟩, ((Step.refl _ w).drew).alloc _, rfl⟩

/-- How many numbers the first k rows have; all of them. -/
def lenTo (Ls : List (List Int)) (k : Nat) : Nat := ((Ls.take k).flatten).length

theorem take_next (Ls : List (List Int)) (k : Nat) (h : k < Ls.length) : (Ls.take (k + 1)).flatten = (Ls.take k).flatten ++ Ls.getD k [] := by
  rw [List.take_succ_eq_append_getElem h, List.flatten_append]
  simp [List.getD, h]

/-- Rows, each with something in it, in block g. -/
structure Rws (w : World) (g : Nat) (Ls : List (List Int)) : Prop where
  row : ∀ k, k < Ls.length → ∃ b o c, w.cell? ⟨g, k, none⟩ = some (.slice (some ⟨b, o, none⟩) (Ls.getD k []).length c) ∧ Ri w (.slice (some ⟨b, o, none⟩) (Ls.getD k []).length c) (Ls.getD k [])

theorem Rws.made {w w' : World} {g : Nat} {Ls : List (List Int)} (h : Rws w g Ls) (hs : Step (fun _ => False) w w') : Rws w' g Ls :=
  ⟨fun k hk => by obtain ⟨b, o, c, h1, h2⟩ := h.row k hk; exact ⟨b, o, c, hs.cell h1 (fun h => h), h2.made hs⟩⟩

set_option maxHeartbeats 4000000 in
theorem concat_any (g : Nat) (Ls : List (List Int)) (N tot : Nat) (w : World) (h : Rws w g Ls) (hN : Ls.length = N) (ht : Ls.flatten.length = tot) (h1 : 1 ≤ tot) (hn : tot ≤ 100000) (hNb : N ≤ 100000) :
    Calls Tryz.prog 60 #[.slice (some ⟨g, 0, none⟩) N N] w fun e w' => ∃ v, e = .returned v ∧ w'.ownsRow 0 3 1 v tot (i64s Ls.flatten) ∧ Step (fun _ => False) w w' ∧ (∀ k, v.ownBlock = some k → w.heap.size ≤ k) := by
  obtain ⟨i0, hi, hz0, hz1, hz2⟩ := info_parts Tryz.info3
  have HI := hidden (And.intro hi (And.intro hz0 (And.intro hz1 hz2)))
  have H := hidden h
  have HN := hidden hN
  have HT := hidden ht
  have HGR := hidden (grow_nil tot)
  have hmono : Hid (∀ k, lenTo Ls k ≤ tot) := hidden (fun k => by
    rw [← ht]; unfold lenTo
    have e : Ls.flatten = (Ls.take k).flatten ++ (Ls.drop k).flatten := by rw [← List.flatten_append, List.take_append_drop]
    rw [e]; simp)
  clear h hN ht hi hz0 hz1 hz2
  go_enter Tryz.func60, Tryz.ntmps60
  go_wp2
  go_loopw [3, 5, 11] (fun z _ i wr => ∃ t q : Nat, z = .int .i64 (q : Int) ∧ i = .int .i64 (t : Int) ∧ t ≤ N ∧ Hid (q = lenTo Ls t) ∧ wr = w) (fun _ _ i _ => N - (intOf i).toNat)
  case atStart => exact ⟨0, 0, rfl, rfl, Nat.zero_le _, rfl, rfl⟩
  case round =>
    obtain ⟨t, q, rfl, rfl, htN, Hq, rfl⟩ := hrel
    have hq : q ≤ tot := by rw [Hq.out]; exact hmono.out t
    by_cases hlt : t < N
    · obtain ⟨b, o, c, hc, hr⟩ := H.out.row t (by rw [HN.out]; exact hlt)
      have hq2 : Hid (q + (Ls.getD t []).length = lenTo Ls (t + 1)) := hidden (by
        rw [Hq.out]; unfold lenTo
        rw [take_next Ls t (by rw [HN.out]; exact hlt), List.length_append])
      have hq3 : q + (Ls.getD t []).length ≤ tot := by rw [hq2.out]; exact hmono.out _
      generalize hlen : (Ls.getD t []).length = len at *
      clear hr hlen
      go_wp2
      go_roundw
      case rel => exact ⟨t + 1, q + len, by go_num, by go_num, by omega, hq2, trivial⟩
      case measure => simp [intOf]; omega
    · have htt : t = N := by omega
      subst htt
      have hbad : ¬ (t : Int) < (t : Int) := by omega
      have hqq : q = tot := by
        rw [Hq.out, ← HT.out]; unfold lenTo
        rw [List.take_of_length_le (by rw [HN.out]; exact Nat.le_refl _)]
      subst hqq
      go_wp2_with (go_at_call 87; refine (HGR.out _ h1 hn).mono ?_; rintro e w1 ⟨v, rfl, ho, hs, hv⟩; obtain ⟨ao, cp, rfl⟩ := own_slice ho; have HG := hidden (And.intro ho (And.intro hs hv)); clear ho hs hv)
      go_loopw [6, 8, 27] (fun u _ i wq => ∃ (k z cq : Nat) (aq : Option Addr), i = .int .i64 (k : Int) ∧ k ≤ t ∧ u = .slice aq z cq ∧ Hid (z = lenTo Ls k ∧ wq.ownsRow 0 3 1 (.slice aq z cq) z (i64s (Ls.take k).flatten) ∧ Step (fun _ => False) wr wq ∧ (∀ j, (Value.slice aq z cq).ownBlock = some j → wr.heap.size ≤ j))) (fun _ _ i _ => t - (intOf i).toNat)
      case atStart => exact ⟨0, 0, _, _, rfl, Nat.zero_le _, rfl, by simp [lenTo], by simpa [lenTo] using HG.out.1, HG.out.2.1, fun j hj => by rw [HG.out.2.2] at hj; have := Option.some.inj hj; omega⟩
      case round =>
        obtain ⟨k, z, cq, aq, rfl, hk, rfl, HH⟩ := hrel
        by_cases hkt : k < t
        · obtain ⟨z1, z2, z3, z4⟩ := HH.out
          obtain ⟨b, o, c, hc, hr⟩ := (H.out.made z3).row k (by rw [HN.out]; exact hkt)
          have hq2 : Hid (z + (Ls.getD k []).length = lenTo Ls (k + 1)) := hidden (by
            rw [z1]; unfold lenTo
            rw [take_next Ls k (by rw [HN.out]; exact hkt), List.length_append])
          have hq3 : z + (Ls.getD k []).length ≤ q := by rw [hq2.out]; exact hmono.out _
          have hnx : Hid (i64s (Ls.take (k + 1)).flatten = i64s (Ls.take k).flatten ++ i64s (Ls.getD k [])) := hidden (by rw [take_next Ls k (by rw [HN.out]; exact hkt), i64s_append])
          have hll : Hid ((i64s (Ls.getD k [])).length = (Ls.getD k []).length * 1) := hidden (by rw [i64s_length, Nat.mul_one])
          have hnews := hidden hr.news
          have hone := hidden (i64s_one (Ls.getD k []))
          have hb1 : Hid (z + (Ls.getD k []).length ≤ maxLen) := hidden (by unfold maxLen; omega)
          have hb2 : Hid ((z + (Ls.getD k []).length) * 8 ≤ 140737488355328) := hidden (by omega)
          have HO := hidden z2
          have HS3 := hidden z3
          have HV := hidden z4
          obtain ⟨i1, i2, i3, i4⟩ := HI.out
          generalize hX : i64s (Ls.getD k []) = X at *
          generalize hlen : (Ls.getD k []).length = len at *
          clear hr hlen hX z1 z2 z3 z4
          go_wp2_with (at_builtin; refine wpList_append_at _ rfl (.tmp 31) (.tmp 32) 30 rfl 3 i0 (.int .i64 0) 1 8 Tryz.underlying30 i1 i2 i3 i4 rfl (by decide) _ z _ rfl HO.out _ len c X rfl hll.out hnews.out hone.out hb1.out hb2.out ?_)
          intro v' w' g1 g2 g3 g4
          obtain ⟨ao', cp', hv'⟩ := own_slice g1
          subst hv'
          have HG1 := hidden (And.intro g1 (And.intro g2 g4))
          clear g1 g2 g3 g4
          go_wp2
          go_roundw
          case rel =>
            refine ⟨k + 1, z + len, cp', ao', by go_num, by omega, rfl, hq2.out, ?_, HS3.out.grown HG1.out.2.1 (fun j hj => .inr (HV.out j hj)), fun j hj => ?_⟩
            · rw [hnx.out]; exact HG1.out.1
            · rcases HG1.out.2.2 with e | e
              · exact HV.out j (by rw [← e]; exact hj)
              · rw [e] at hj; have := Option.some.inj hj; have := HS3.out.size; omega
          case measure => simp [intOf]; omega
        · have hkk : k = t := by omega
          subst hkk
          have hbad2 : ¬ (k : Int) < (k : Int) := by omega
          go_wp2
          go_ret
          obtain ⟨z1, z2, z3, z4⟩ := HH.out
          have e : Ls.take k = Ls := List.take_of_length_le (by rw [HN.out]; exact Nat.le_refl _)
          rw [e] at z2
          have hzq : z = q := by rw [z1, ← HT.out]; unfold lenTo; rw [e]
          subst hzq
          exact ⟨_, rfl, z2, z3, z4⟩

end Go.Proofs.YtcgjmkcigmmjjaaGreatDoor

namespace Go.Proofs.YtcgjmkcigmmjjaaGreatDoor
open Go.RowKit
set_option maxRecDepth 100000
set_option linter.unusedVariables false
/-- The codes of a block, in block c. -/
structure Cod (w : World) (c d1 d2 b1 b2 n1 n2 : Nat) (L D : List Int) : Prop where
  c1 : w.cell? ⟨c, 0, none⟩ = some (.pointer (some ⟨d1, 0, none⟩))
  c2 : w.cell? ⟨c, 1, none⟩ = some (.pointer (some ⟨d2, 0, none⟩))
  e1 : Dec w d1 L b1 n1 0 0
  e2 : Dec w d2 D b2 n2 0 0
  dd : d1 ≠ d2
  x12 : d1 ≠ b2
  x21 : d2 ≠ b1
  y1 : c ≠ d1
  y2 : c ≠ d2

/-- Beside a stream. -/
structure BesC (p b : Nat) (s v : Value) (c d1 d2 b1 b2 : Nat) (L D : List Int) : Prop where
  l : Bes p b s v d1 b1 L
  d : Bes p b s v d2 b2 D
  cp : c ≠ p
  cb : c ≠ b
  cv : v.ownBlock ≠ some c

theorem BesC.grow {w : World} {p b : Nat} {s v v' : Value} {c d1 d2 b1 b2 n1 n2 : Nat} {L D : List Int} (h : BesC p b s v c d1 d2 b1 b2 L D) (k : Cod w c d1 d2 b1 b2 n1 n2 L D) (hv : v'.ownBlock = v.ownBlock ∨ ∃ k, v'.ownBlock = some k ∧ w.heap.size ≤ k) : BesC p b s v' c d1 d2 b1 b2 L D := by
  refine ⟨h.l.grow k.e1 hv, h.d.grow k.e2 hv, h.cp, h.cb, ?_⟩
  rcases hv with e | ⟨j, e, hj⟩
  · rw [e]; exact h.cv
  · rw [e]; intro e2
    have := Option.some.inj e2
    have hlt : c < w.heap.size := World.block_lt_of_cell? w _ k.c1
    omega

theorem Cod.beside {w w' : World} {p b : Nat} {s v : Value} {c d1 d2 b1 b2 n1 n2 : Nat} {L D : List Int} (k : Cod w c d1 d2 b1 b2 n1 n2 L D) (h : BesC p b s v c d1 d2 b1 b2 L D) (hs : Step (Sb p b v) w w') : Cod w' c d1 d2 b1 b2 n1 n2 L D := by
  have hc : ¬ Sb p b v c := by
    rintro (e | e | e)
    · exact h.cp e
    · exact h.cb e
    · exact h.cv e
  exact ⟨hs.cell k.c1 hc, hs.cell k.c2 hc, k.e1.beside h.l hs, k.e2.beside h.d hs, k.dd, k.x12, k.x21, k.y1, k.y2⟩

/-- The blocks that are written. -/
def Sc (p b : Nat) (v : Value) (d1 d2 k : Nat) : Prop := Sb p b v k ∨ k = d1 ∨ k = d2

/-- How symbols ends. -/
def SymsE (w : World) (p b : Nat) (s v : Value) (M m : Nat) (most : Int) (c d1 d2 b1 b2 n1 n2 : Nat) (L D : List Int) (r : Except Nat (Nat × List Nat)) (e : Ending) (w' : World) : Prop :=
  Step (Sc p b v d1 d2) w w' ∧ Keep p w w' ∧
  match r with
  | .error x => 0 < x ∧ e = .returned (.int .i64 (x : Int))
  | .ok (t, O) => e = .returned (.int .i64 0) ∧ (∃ v', Str w' p b s v' M m t O most ∧ (v'.ownBlock = v.ownBlock ∨ ∃ k, v'.ownBlock = some k ∧ w.heap.size ≤ k)) ∧ Cod w' c d1 d2 b1 b2 n1 n2 L D ∧ O.length ≤ 258 * t

theorem Sc.trans {w w1 w2 : World} {p b d1 d2 : Nat} {v v1 : Value} (S1 : Step (Sc p b v d1 d2) w w1) (hv : v1.ownBlock = v.ownBlock ∨ ∃ k, v1.ownBlock = some k ∧ w.heap.size ≤ k) (S2 : Step (Sc p b v1 d1 d2) w1 w2) : Step (Sc p b v d1 d2) w w2 := by
  refine S1.trans S2 (fun i hi => ?_)
  rcases hi with (e | e | e) | e
  · exact .inl (.inl (.inl e))
  · exact .inl (.inl (.inr (.inl e)))
  · rcases hv with h | ⟨k, h, hk⟩
    · exact .inl (.inl (.inr (.inr (by rw [← h]; exact e))))
    · rw [h] at e; have := Option.some.inj e; exact .inr (by omega)
  · exact .inl (.inr e)

end Go.Proofs.YtcgjmkcigmmjjaaGreatDoor

namespace Go.Proofs.YtcgjmkcigmmjjaaGreatDoor
set_option linter.unusedVariables false
theorem code_ge (L : List Int) (k x m : Nat) (hk : k < L.length) (hx : L.getD k 0 = (x : Int)) (h0 : 0 < x) (h15 : x ≤ 15) (hm : m ≤ x) : stf (cf L) m ≤ codeOf L k / 2 ^ (x - m) := by
  have s := (share L k x hk hx h0 h15).1
  have f := fl_mono (cf L) (fun k => (cf_bd L k).1) m (x - m)
  rw [show m + (x - m) = x by omega] at f
  have e := stf_fl (cf L) m (by omega)
  have p := ipow_pos (15 - x)
  have pd := ipow_pos (x - m)
  have e2 : (2 : Int) ^ (15 - m) = 2 ^ (x - m) * 2 ^ (15 - x) := by rw [← Int.pow_add, show x - m + (15 - x) = 15 - m by omega]
  rw [← e, e2, ← Int.mul_assoc] at f
  have h : stf (cf L) m * 2 ^ (x - m) ≤ codeOf L k := by
    apply Classical.byContradiction
    intro hc
    have : (codeOf L k + 1) * 2 ^ (15 - x) ≤ stf (cf L) m * 2 ^ (x - m) * 2 ^ (15 - x) := Int.mul_le_mul_of_nonneg_right (by omega) (by omega)
    rw [Int.add_mul] at this
    omega
  exact (Int.le_ediv_iff_mul_le (by omega)).2 h

/-- How many of the first k symbols have a code. -/
def mny (L : List Int) : Nat → Int
  | 0 => 0
  | k + 1 => if 0 < L.getD k 0 then mny L k + 1 else mny L k

/-- The length of the last of them. -/
def onl (L : List Int) : Nat → Int
  | 0 => 0
  | k + 1 => if 0 < L.getD k 0 then L.getD k 0 else onl L k

theorem mny_bd (L : List Int) : ∀ k, 0 ≤ mny L k ∧ mny L k ≤ k
  | 0 => by simp [mny]
  | k + 1 => by have := mny_bd L k; simp only [mny]; split <;> omega

theorem mny_facts (L : List Int) : ∀ k, (mny L k = 0 → flt L k = 0 ∧ onl L k = 0) ∧ (1 ≤ mny L k → 1 ≤ flt L k ∧ 0 < onl L k) ∧ (mny L k = 1 → flt L k = 2 ^ (15 - (onl L k).toNat)) ∧ (2 ≤ mny L k → 2 ^ (15 - (onl L k).toNat) + 1 ≤ flt L k)
  | 0 => by simp [mny, flt, onl]
  | k + 1 => by
    have ih := mny_facts L k
    have hb := mny_bd L k
    have p := ipow_pos (15 - (L.getD k 0).toNat)
    have fb := flt_bd L k
    simp only [mny, flt, onl]
    by_cases h : 0 < L.getD k 0
    · simp only [if_pos h]
      refine ⟨by omega, fun _ => ⟨by omega, h⟩, fun e => ?_, fun e => ?_⟩
      · have := ih.1 (by omega)
        omega
      · have := ih.2.1 (by omega)
        omega
    · simp only [if_neg h, Int.add_zero]
      exact ih

theorem cf1_le (L : List Int) : ∀ k, k ≤ L.length → cf (L.take k) 1 ≤ mny L k ∧ 16384 * cf (L.take k) 1 ≤ flt L k ∧ (mny L k = 1 → onl L k = 1 → cf (L.take k) 1 = 1) ∧ (cf (L.take k) 1 + 1 ≤ mny L k → 16384 * cf (L.take k) 1 + 1 ≤ flt L k) ∧ (mny L k = cf (L.take k) 1 → 1 ≤ mny L k → onl L k = 1)
  | 0, _ => by simp [mny, flt, onl, cf_nil]
  | k + 1, hk => by
    have ih := cf1_le L k (by omega)
    have hb := mny_bd L k
    have p := ipow_pos (15 - (L.getD k 0).toNat)
    have mf := mny_facts L k
    have c0 := cf_bd (L.take k) 1
    simp only [mny, flt, onl]
    by_cases h1 : L.getD k 0 = 1
    · have hc := cf_take_yes L 1 k (by omega) (by omega) (by rw [h1]; rfl)
      rw [hc, h1]
      simp only [show (0 : Int) < 1 by omega, if_true]
      have e : (2 : Int) ^ (15 - (1 : Int).toNat) = 16384 := rfl
      rw [e]
      refine ⟨by omega, by omega, fun a b => by omega, fun a => ?_, fun a b => trivial⟩
      have := ih.2.2.2.1 (by omega)
      omega
    · have hc := cf_take_not L 1 k (by omega) (by rw [show ((1 : Nat) : Int) = 1 from rfl]; exact h1)
      rw [hc]
      by_cases h : 0 < L.getD k 0
      · simp only [if_pos h]
        refine ⟨by omega, by omega, fun a b => absurd b h1, fun a => by omega, fun a b => by omega⟩
      · simp only [if_neg h, Int.add_zero]
        exact ih

theorem few_iff (L : List Int) (h : ∀ x ∈ L, 0 ≤ x ∧ x ≤ 15) : fewB (cf L) = true ↔ (mny L L.length = 0 ∨ (mny L L.length = 1 ∧ onl L L.length = 1)) := by
  have f := mny_facts L L.length
  have c := cf1_le L L.length (Nat.le_refl _)
  have b := mny_bd L L.length
  rw [List.take_of_length_le (Nat.le_refl _)] at c
  rw [flt_all L h] at f c
  unfold fewB
  simp only [Bool.or_eq_true, Bool.and_eq_true, beq_iff_eq]
  constructor
  · rintro (h0 | ⟨h1, h2⟩)
    · left
      apply Classical.byContradiction
      intro hne
      have := f.2.1 (by omega)
      omega
    · right
      have hm : mny L L.length = cf L 1 := by
        apply Classical.byContradiction
        intro hne
        have := c.2.2.2.1 (by omega)
        omega
      exact ⟨by omega, c.2.2.2.2 hm (by omega)⟩
  · rintro (h0 | ⟨h1, h2⟩)
    · left; exact (f.1 h0).1
    · right
      refine ⟨?_, c.2.2.1 h1 h2⟩
      have := f.2.2.1 h1
      rw [h2] at this
      exact this

theorem newErr_codes (L : List Int) (h : newErr L = 0) : codeErr L = 0 ∧ okB L = true ∧ fl (cf L) 16 ≤ 32768 := by
  unfold newErr at h
  unfold codeErr
  by_cases h1 : okB L = true
  · rw [if_pos h1] at h ⊢
    by_cases h2 : fl (cf L) 16 = 32768 ∨ fewB (cf L) = true
    · have : fl (cf L) 16 ≤ 32768 := by
        rcases h2 with h2 | h2
        · omega
        · unfold fewB at h2
          simp only [Bool.or_eq_true, Bool.and_eq_true, beq_iff_eq] at h2
          omega
      exact ⟨by rw [if_pos this], h1, this⟩
    · rw [if_neg h2] at h; omega
  · rw [if_neg h1] at h; omega

/-- Ahead of the last bit a code is none yet; with it it is the symbol's. -/
theorem next_mid {L : List Int} (h : ∀ x ∈ L, 0 ≤ x ∧ x ≤ 15) {k x m C : Nat} (hk : k < L.length) (hx : L.getD k 0 = (x : Int)) (h0 : 0 < x) (hm0 : 0 < m) (hm : m < x) (hC : (C : Int) = codeOf L k / 2 ^ (x - m)) {r : Int} {c l : Nat} (hr : NextR L C m r c l) : r = -1 ∧ c = C ∧ l = m := by
  have h15 := h (L.getD k 0) (by rw [getD_i L k hk]; exact List.getElem_mem _)
  rcases hr with ⟨i, hi, hiL, hic, _⟩ | ⟨_, hp, _⟩ | ⟨_, _, h1, h2, h3⟩
  · exfalso
    have := code_prefix L i k m x hi hk hiL hx hm0 hm (by omega)
    omega
  · exfalso
    have := plc_more L h (m + 1) k x hk hx (by omega) h0
    omega
  · exact ⟨h1, h2, h3⟩

theorem next_end {L : List Int} (h : ∀ x ∈ L, 0 ≤ x ∧ x ≤ 15) {k x C : Nat} (hk : k < L.length) (hx : L.getD k 0 = (x : Int)) (h0 : 0 < x) (hC : (C : Int) = codeOf L k) {r : Int} {c l : Nat} (hr : NextR L C x r c l) : r = (k : Int) ∧ c = 0 ∧ l = 0 := by
  have e := codeOf_eq L k x hx h0
  have rk := cf_take_lt L k x hk hx h0
  rcases hr with ⟨i, hi, hiL, hic, h1, h2, h3⟩ | ⟨hge, _⟩ | ⟨hge, _⟩
  · have : i = k := by
      rcases Nat.lt_trichotomy i k with h' | h' | h'
      · have := code_rank L i k x hi hiL hx h0 h'; omega
      · exact h'
      · have := code_rank L k i x hk hx hiL h0 h'; omega
    subst this
    exact ⟨h1, h2, h3⟩
  · exfalso; omega
  · exfalso; omega

theorem half_bit (c b : Nat) : 2 * (c / 2 ^ (b + 1)) + c / 2 ^ b % 2 = c / 2 ^ b := by
  rw [Nat.pow_succ, ← Nat.div_div_eq_div_mul]
  omega

end Go.Proofs.YtcgjmkcigmmjjaaGreatDoor

namespace Go.Proofs.YtcgjmkcigmmjjaaGreatDoor
open Go.RowKit
set_option maxRecDepth 100000
set_option linter.unusedVariables false
/-- n is 0 to most, and v has no bits but the lowest n. -/
def fitB (v n m : Int) : Bool := decide (0 ≤ n ∧ n ≤ m ∧ 0 ≤ v ∧ v < 2 ^ n.toNat)

theorem fitB_no {v n m : Int} (h : ¬ (0 ≤ n ∧ n ≤ m ∧ 0 ≤ v)) : fitB v n m = false := by
  unfold fitB; rw [decide_eq_false_iff_not]; exact fun k => h ⟨k.1, k.2.1, k.2.2.1⟩

theorem fitB_eq {v n m : Int} (h1 : 0 ≤ n) (h2 : n ≤ m) (h3 : 0 ≤ v) : fitB v n m = decide (v < 2 ^ n.toNat) := by
  unfold fitB; simp [h1, h2, h3]

/-- The blocks of such a Writer. -/
def Of (b : Nat) (s : Value) (k : Nat) : Prop := k = b ∨ s.ownBlock = some k

/-- To the next byte's edge. -/
def up8 (L : Nat) : Nat := (L + 7) / 8 * 8

/-- The first j of the n bits of v, the highest first, as a number whose lowest bit is the first. -/
def rv (v n : Nat) : Nat → Nat
  | 0 => 0
  | j + 1 => rv v n j + v / 2 ^ (n - 1 - j) % 2 * 2 ^ j

theorem rv_lt (v n j : Nat) : rv v n j < 2 ^ j := by
  induction j with
  | zero => simp [rv]
  | succ j ih =>
    have : v / 2 ^ (n - 1 - j) % 2 < 2 ^ 1 := Nat.mod_lt _ (by omega)
    simp only [rv]
    exact lt_of_pow ih this

theorem num_step (N v d k L : Nat) : N + v % 2 ^ d * 2 ^ L + (v / 2 ^ d % 2 ^ k) * 2 ^ (L + d) = N + v % 2 ^ (d + k) * 2 ^ L := by
  rw [Nat.pow_add 2 d k, Nat.mod_mul, Nat.pow_add, Nat.add_mul, Nat.add_assoc]
  congr 2
  ac_rfl

/-- The first L bits of a number, the lowest first. -/
def bitsOf (N L : Nat) : List Nat := (List.range L).map fun i => N / 2 ^ i % 2

theorem bitsOf_length (N L : Nat) : (bitsOf N L).length = L := by simp [bitsOf]

theorem bitsOf_get? (N L i : Nat) (h : i < L) : (bitsOf N L)[i]? = some (N / 2 ^ i % 2) := by simp [bitsOf, h]

theorem bit_low' (R x j i : Nat) (h : i < j) : (R + x * 2 ^ j) / 2 ^ i % 2 = R / 2 ^ i % 2 := by
  obtain ⟨d, rfl⟩ : ∃ d, j = i + (d + 1) := ⟨j - i - 1, by omega⟩
  have e : x * 2 ^ (i + (d + 1)) = 2 * (x * 2 ^ d) * 2 ^ i := by
    rw [Nat.pow_add, Nat.pow_succ]; ac_rfl
  rw [e, Nat.add_mul_div_right _ _ (Nat.two_pow_pos _), Nat.add_mul_mod_self_left]

theorem bitsOf_push (N L z : Nat) (h : N < 2 ^ L) (hz : z < 2) : bitsOf (N + z * 2 ^ L) (L + 1) = bitsOf N L ++ [z] := by
  simp only [bitsOf, List.range_succ, List.map_append, List.map_cons, List.map_nil]
  congr 1
  · refine List.map_congr_left fun i hi => ?_
    exact bit_low' N z L i (List.mem_range.1 hi)
  · rw [Nat.add_mul_div_right _ _ (Nat.two_pow_pos _), Nat.div_eq_of_lt h, Nat.zero_add, Nat.mod_eq_of_lt hz]

/-- The page's Writer in block b, whose bits are the slice s. -/
structure Wx (w : World) (b : Nat) (s : Value) (N L : Nat) : Prop where
  out : w.cell? ⟨b, 0, none⟩ = some s
  f0 : w.frozen? ⟨b, 0, none⟩ = false
  own : w.ownsRow 0 5 1 s L (u8s (bitsOf N L))
  ne : s.ownBlock ≠ some b
  lt : N < 2 ^ L

def WroteX (w w' : World) (b : Nat) (s : Value) (N L : Nat) : Prop :=
  ∃ s', Wx w' b s' N L ∧ Step (Of b s) w w' ∧ (s'.ownBlock = s.ownBlock ∨ ∃ k, s'.ownBlock = some k ∧ w.heap.size ≤ k)

theorem Wx.step {S : Nat → Prop} {w w' : World} {b : Nat} {s : Value} {N L : Nat} (R : Wx w b s N L) (hs : Step S w w') (h1 : ¬ S b) (h2 : ∀ k, s.ownBlock = some k → ¬ S k) : Wx w' b s N L := by
  have hb : b < w.heap.size := World.block_lt_of_cell? w _ R.out
  exact ⟨hs.cell R.out h1, (hs.frozen (p := ⟨b, 0, none⟩) hb h1).trans R.f0, owns_step R.own hs h2, R.ne, R.lt⟩

theorem WroteX.after {w w1 w2 : World} {b : Nat} {s s1 : Value} {N L : Nat} (St : Step (Of b s) w w1) (Wh : s1.ownBlock = s.ownBlock ∨ ∃ k, s1.ownBlock = some k ∧ w.heap.size ≤ k) (h : WroteX w1 w2 b s1 N L) : WroteX w w2 b s N L := by
  obtain ⟨s2, W, S2, H⟩ := h
  refine ⟨s2, W, St.trans S2 (fun i hi => ?_), ?_⟩
  · rcases hi with h | h
    · exact .inl (.inl h)
    · rcases Wh with e | ⟨k, e, hk⟩
      · exact .inl (.inr (e ▸ h))
      · rw [e] at h; have := Option.some.inj h; exact .inr (by omega)
  · rcases H with e | ⟨k, e, hk⟩
    · rw [e]; exact Wh
    · exact .inr ⟨k, e, Nat.le_trans St.size hk⟩

/-- One more bit. -/
theorem Wx.push {wr w1 : World} {o : Obj} {b : Nat} {s v' : Value} {N L z : Nat} (W : Wx wr b s N L) (hz : z < 2)
    (hown : w1.ownsRow 0 5 1 v' (L + 1) (u8s (bitsOf N L) ++ [.int .u8 (z : Int)])) (hgrow : (wr.alloc o).grownBy w1 s.ownBlock)
    (hv' : v'.ownBlock = s.ownBlock ∨ v'.ownBlock = some (wr.heap.size + 1)) :
    w1.cell? ⟨b, 0, none⟩ = some s ∧ w1.frozen? ⟨b, 0, none⟩ = false ∧ WroteX wr (w1.setCell ⟨b, 0, none⟩ v') b s (N + z * 2 ^ L) (L + 1) := by
  have hbw : b < wr.heap.size := World.block_lt_of_cell? wr _ W.out
  have St : Step (fun k => s.ownBlock = some k) wr w1 := ((Step.refl _ wr).alloc o).grown hgrow (fun k hk => .inl hk)
  have hnb : ¬ s.ownBlock = some b := W.ne
  have c0 := St.cell W.out hnb
  have f0 := (St.frozen (p := ⟨b, 0, none⟩) hbw hnb).trans W.f0
  have hne : v'.ownBlock ≠ some b := by
    intro e
    rcases hv' with h | h
    · exact hnb (by rw [← h, e])
    · rw [e] at h; have := Option.some.inj h; omega
  have S2 : Step (fun k => k = b) w1 (w1.setCell ⟨b, 0, none⟩ v') := (Step.refl (fun k => k = b) w1).setCell ⟨b, 0, none⟩ v' (.inl rfl)
  have hx : u8s (bitsOf N L) ++ [.int .u8 (z : Int)] = u8s (bitsOf (N + z * 2 ^ L) (L + 1)) := by
    rw [bitsOf_push N L z W.lt hz, u8s_append]; rfl
  rw [hx] at hown
  refine ⟨c0, f0, v', ⟨?_, ?_, ?_, hne, lt_of_pow W.lt (by omega)⟩, ?_, ?_⟩
  · rw [World.cell?_setCell_same _ _ _ c0]
  · simp [f0]
  · exact owns_step hown S2 (fun k hk hb => hne (by rw [hk, hb]))
  · refine (St.mono (fun i hi => .inr hi)).trans S2 (fun i hi => .inl (.inl hi))
  · rcases hv' with h | h
    · exact .inl h
    · exact .inr ⟨_, h, by omega⟩

theorem fitB_cases {v n m : Int} (hm : m ≤ 24) (h : fitB v n m = false) : n < 0 ∨ (0 ≤ n ∧ m < n) ∨ (0 ≤ n ∧ n ≤ m ∧ v < 0) ∨ (0 ≤ n ∧ n ≤ m ∧ 0 ≤ v ∧ 2 ^ n.toNat ≤ v ∧ wrap64 (2 ^ n.toNat) = 2 ^ n.toNat) := by
  unfold fitB at h
  rw [decide_eq_false_iff_not] at h
  by_cases h1 : 0 ≤ n
  · by_cases h2 : n ≤ m
    · by_cases h3 : 0 ≤ v
      · exact .inr (.inr (.inr ⟨h1, h2, h3, by by_cases h4 : 2 ^ n.toNat ≤ v; exact h4; exact absurd ⟨h1, h2, h3, by omega⟩ h,
          wrap64_id _ (by have := ipow_pos n.toNat; omega) (by have := ipow_le_24 n.toNat (by omega); omega)⟩))
      · exact .inr (.inr (.inl ⟨h1, h2, by omega⟩))
    · exact .inr (.inl ⟨h1, by omega⟩)
  · exact .inl (by omega)

theorem bit_form' (v m : Nat) (hv : v < 16777216) : bits BinOp.and IntKind.i64 ((v : Int) / 2 ^ m) 1 = ((v / 2 ^ m % 2 : Nat) : Int) := by
  have e : ((v : Int) / 2 ^ m) = ((v / 2 ^ m : Nat) : Int) := by simp
  rw [e]
  have := Nat.div_le_self v (2 ^ m)
  rw [i64_and1 _ (Int.natCast_nonneg _) (by omega)]
  simp

end Go.Proofs.YtcgjmkcigmmjjaaGreatDoor

namespace Go.Proofs.YtcgjmkcigmmjjaaGreatDoor
set_option linter.unusedVariables false
/-- Numbers of so many bits, one behind the other, as one number; and how many bits. -/
def pcN : List (Nat × Nat) → Nat
  | [] => 0
  | q :: ps => 2 ^ q.2 * pcN ps + q.1

def pcL : List (Nat × Nat) → Nat
  | [] => 0
  | q :: ps => q.2 + pcL ps

def pcOk (ps : List (Nat × Nat)) : Prop := ∀ q ∈ ps, q.1 < 2 ^ q.2

theorem pcL_append (a b : List (Nat × Nat)) : pcL (a ++ b) = pcL a + pcL b := by
  induction a with
  | nil => simp [pcL]
  | cons q a ih => simp only [List.cons_append, pcL, ih]; omega

theorem pcN_append (a b : List (Nat × Nat)) : pcN (a ++ b) = pcN a + pcN b * 2 ^ pcL a := by
  induction a with
  | nil => simp [pcN, pcL]
  | cons q a ih =>
    simp only [List.cons_append, pcN, pcL, ih]
    rw [Nat.pow_add, Nat.mul_add, ← Nat.mul_assoc, Nat.mul_comm (2 ^ q.2) (pcN b), Nat.mul_assoc (pcN b)]
    omega

theorem pcN_lt : ∀ (ps : List (Nat × Nat)), pcOk ps → pcN ps < 2 ^ pcL ps
  | [], _ => by simp [pcN, pcL]
  | q :: ps, h => by
    have ih := pcN_lt ps (fun x hx => h x (List.mem_cons_of_mem _ hx))
    have hq := h q (by simp)
    simp only [pcN, pcL]
    rw [Nat.pow_add]
    calc 2 ^ q.2 * pcN ps + q.1 < 2 ^ q.2 * pcN ps + 2 ^ q.2 := by omega
      _ = 2 ^ q.2 * (pcN ps + 1) := by rw [Nat.mul_add, Nat.mul_one]
      _ ≤ 2 ^ q.2 * 2 ^ pcL ps := Nat.mul_le_mul_left _ ih

/-- From bit t on the number M of 8 m bits has these numbers, as far as it goes. -/
def Bt (M m t : Nat) (ps : List (Nat × Nat)) : Prop := ∀ j, j < pcL ps → t + j < 8 * m → M.testBit (t + j) = (pcN ps).testBit j

theorem Bt.head {M m t : Nat} {q : Nat × Nat} {ps : List (Nat × Nat)} (h : Bt M m t (q :: ps)) (hq : q.1 < 2 ^ q.2) : (∀ j, j < q.2 → t + j < 8 * m → M.testBit (t + j) = q.1.testBit j) ∧ Bt M m (t + q.2) ps := by
  constructor
  · intro j hj ht
    rw [h j (by simp only [pcL]; omega) ht]
    simp only [pcN]
    rw [Nat.testBit_two_pow_mul_add _ hq, if_pos hj]
  · intro j hj ht
    have := h (q.2 + j) (by simp only [pcL]; omega) (by omega)
    rw [Nat.add_assoc, this]
    simp only [pcN]
    rw [Nat.testBit_two_pow_mul_add _ hq, if_neg (by omega), Nat.add_sub_cancel_left]

theorem Bt.of {M m : Nat} {ps : List (Nat × Nat)} (z : Nat) (h : M = pcN ps + z * 2 ^ pcL ps) (hp : pcOk ps) : Bt M m 0 ps := by
  intro j hj ht
  rw [Nat.zero_add, h, Nat.add_comm, Nat.mul_comm, Nat.testBit_two_pow_mul_add _ (pcN_lt ps hp), if_pos hj]

theorem Bt.cut {M m k t : Nat} {ps : List (Nat × Nat)} (h : Bt M m t ps) (hk : k ≤ m) : Bt (M % 2 ^ (8 * k)) k t ps := by
  intro j hj ht
  rw [Nat.testBit_mod_two_pow, decide_eq_true ht, Bool.true_and]
  exact h j hj (by omega)

theorem bit_val (M t : Nat) : M / 2 ^ t % 2 = (M.testBit t).toNat := by
  rw [Nat.testBit_eq_decide_div_mod_eq]
  have : M / 2 ^ t % 2 < 2 := Nat.mod_lt _ (by omega)
  by_cases h : M / 2 ^ t % 2 = 1
  · rw [h]; rfl
  · rw [decide_eq_false h]; simp; omega

theorem bits_val (M m t x n : Nat) (hx : x < 2 ^ n) (h : ∀ j, j < n → t + j < 8 * m → M.testBit (t + j) = x.testBit j) (hm : t + n ≤ 8 * m) : M / 2 ^ t % 2 ^ n = x := by
  apply Nat.eq_of_testBit_eq
  intro j
  rw [Nat.testBit_mod_two_pow, ← Nat.shiftRight_eq_div_pow, Nat.testBit_shiftRight]
  by_cases hj : j < n
  · rw [decide_eq_true hj, Bool.true_and]; exact h j hj (by omega)
  · rw [decide_eq_false hj, Bool.false_and]
    exact (Nat.testBit_lt_two_pow (Nat.lt_of_lt_of_le hx (Nat.pow_le_pow_right (by omega) (by omega)))).symm

theorem rv_bit (v n : Nat) : ∀ k j, j < k → (rv v n k).testBit j = v.testBit (n - 1 - j)
  | 0, j, h => by omega
  | k + 1, j, h => by
    simp only [rv]
    rw [Nat.add_comm, Nat.mul_comm, Nat.testBit_two_pow_mul_add _ (rv_lt v n k)]
    by_cases e : j < k
    · rw [if_pos e]; exact rv_bit v n k j e
    · rw [if_neg e, show j = k by omega, Nat.sub_self, bit_val]
      cases v.testBit (n - 1 - k) <;> rfl

theorem rv_full (v n : Nat) : rv v n n < 2 ^ n := rv_lt v n n

/-- A code's bits are read as its symbol, if they are there. -/
theorem Sym.code {L : List Int} (hL : ∀ x ∈ L, 0 ≤ x ∧ x ≤ 15) {M m i n c t : Nat} (hi : i < L.length) (hn : L.getD i 0 = (n : Int)) (hc : codeOf L i = (c : Int))
    (hb : ∀ j, j < n → t + j < 8 * m → M.testBit (t + j) = c.testBit (n - 1 - j)) : ∀ k j, j + k + 1 = n → Sym L M m (c / 2 ^ (n - j)) j (t + j) (if t + n ≤ 8 * m then .ok (i, t + n) else .error 2) := by
  have h15 := hL (L.getD i 0) (by rw [getD_i L i hi]; exact List.getElem_mem _)
  have key : ∀ j, j < n → t + j < 8 * m → cmore M (t + j) (c / 2 ^ (n - j)) = c / 2 ^ (n - (j + 1)) := by
    intro j hj ht
    unfold cmore
    rw [bit_val, hb j hj ht, show n - j = n - 1 - j + 1 by omega, ← bit_val, half_bit, show n - 1 - j = n - (j + 1) by omega]
  intro k
  induction k with
  | zero =>
    intro j hj
    by_cases hs : t + j + 1 ≤ 8 * m
    · rw [if_pos (by omega), show t + n = t + j + 1 by omega]
      refine Sym.hit hs hi (by rw [hn, show j + 1 = n by omega]) ?_
      rw [key j (by omega) (by omega), show n - (j + 1) = 0 by omega, Nat.pow_zero, Nat.div_one]
      exact hc
    · rw [if_neg (by omega)]
      exact Sym.short (by omega)
  | succ k ih =>
    intro j hj
    by_cases hs : t + j + 1 ≤ 8 * m
    · have hcm := key j (by omega) (by omega)
      have hn0 : 0 < n := by omega
      have hnx : (n : Int) ≤ 15 := by omega
      have hC : ((c / 2 ^ (n - (j + 1)) : Nat) : Int) = codeOf L i / 2 ^ (n - (j + 1)) := by
        rw [hc]; simp
      have hge := code_ge L i n (j + 1) hi hn hn0 (by omega) (by omega)
      refine Sym.more hs ?_ ?_ ?_
      · rw [hcm, hC]
        apply Classical.byContradiction
        intro hlt
        obtain ⟨i', hi', hl', hr'⟩ := rank_hit' L (j + 1) (by omega) (codeOf L i / 2 ^ (n - (j + 1)) - stf (cf L) (j + 1)) (by omega) (by omega)
        have hco := codeOf_eq L i' (j + 1) hl' (by omega)
        have := code_prefix L i' i (j + 1) n hi' hi hl' hn (by omega) (by omega) (by omega)
        omega
      · have := plc_more L hL (j + 2) i n hi hn (by omega) hn0
        omega
      · rw [hcm]
        exact ih (j + 1) (by omega)
    · rw [if_neg (by omega)]
      exact Sym.short (by omega)

theorem symV_code {L : List Int} (hL : newErr L = 0) {M m i n c t : Nat} (hi : i < L.length) (hn : L.getD i 0 = (n : Int)) (h0 : 0 < n) (hc : codeOf L i = (c : Int)) (hc2 : c < 2 ^ n)
    (hb : ∀ j, j < n → t + j < 8 * m → M.testBit (t + j) = (rv c n n).testBit j) : symV L M m t = if t + n ≤ 8 * m then .ok (i, t + n) else .error 2 := by
  have := Sym.code (newErr_ok hL).2 hi hn hc (fun j hj ht => by rw [hb j hj ht, rv_bit c n n j hj]) (n - 1) 0 (by omega)
  rw [Nat.sub_zero, Nat.div_eq_of_lt hc2] at this
  exact this.val

/-- The fixed lengths. -/
def FL : List Int := List.replicate 144 8 ++ List.replicate 112 9 ++ List.replicate 24 7 ++ List.replicate 8 8

def FD : List Int := List.replicate 32 5

theorem FL_ok : newErr FL = 0 := by decide +kernel

theorem FD_ok : newErr FD = 0 := by decide +kernel

/-- The fixed code of a symbol, and how long it is. -/
def fixC (i : Nat) : Nat := if i < 144 then 48 + i else if i < 256 then 256 + i else if i < 280 then i - 256 else i - 88

def fixN (i : Nat) : Nat := if i < 144 then 8 else if i < 256 then 9 else if i < 280 then 7 else 8

theorem FL_len : FL.length = 288 := by decide +kernel

theorem FD_len : FD.length = 32 := by decide +kernel

theorem fix_facts : ∀ i, i < 288 → FL.getD i 0 = (fixN i : Int) ∧ codeOf FL i = (fixC i : Int) ∧ fixC i < 2 ^ fixN i ∧ 0 < fixN i := by
  have h : (List.range 288).all (fun i => decide (FL.getD i 0 = (fixN i : Int)) && decide (codeOf FL i = (fixC i : Int)) && decide (fixC i < 2 ^ fixN i) && decide (0 < fixN i)) = true := by decide +kernel
  intro i hi
  have := List.all_eq_true.1 h i (List.mem_range.2 hi)
  simp only [Bool.and_eq_true, decide_eq_true_eq] at this
  exact ⟨this.1.1.1, this.1.1.2, this.1.2, this.2⟩

theorem fixD_facts : ∀ i, i < 32 → FD.getD i 0 = ((5 : Nat) : Int) ∧ codeOf FD i = (i : Int) := by
  have h : (List.range 32).all (fun i => decide (FD.getD i 0 = ((5 : Nat) : Int)) && decide (codeOf FD i = (i : Int))) = true := by decide +kernel
  intro i hi
  have := List.all_eq_true.1 h i (List.mem_range.2 hi)
  simp only [Bool.and_eq_true, decide_eq_true_eq] at this
  exact this

/-- A symbol's fixed code as it is laid. -/
def fixP (i : Nat) : Nat × Nat := (rv (fixC i) (fixN i) (fixN i), fixN i)

def fixDP (i : Nat) : Nat × Nat := (rv i 5 5, 5)

theorem fixP_ok (i : Nat) : (fixP i).1 < 2 ^ (fixP i).2 := rv_full _ _

theorem fixDP_ok (i : Nat) : (fixDP i).1 < 2 ^ (fixDP i).2 := rv_full _ _

theorem sym_fix {M m i t : Nat} {ps : List (Nat × Nat)} (hi : i < 288) (h : Bt M m t (fixP i :: ps)) : symV FL M m t = (if t + fixN i ≤ 8 * m then .ok (i, t + fixN i) else .error 2) ∧ Bt M m (t + fixN i) ps := by
  obtain ⟨h1, h2, h3, h4⟩ := fix_facts i hi
  obtain ⟨a, b⟩ := h.head (fixP_ok i)
  exact ⟨symV_code FL_ok (by rw [FL_len]; exact hi) h1 h4 h2 h3 a, b⟩

theorem sym_fixD {M m i t : Nat} {ps : List (Nat × Nat)} (hi : i < 32) (h : Bt M m t (fixDP i :: ps)) : symV FD M m t = (if t + 5 ≤ 8 * m then .ok (i, t + 5) else .error 2) ∧ Bt M m (t + 5) ps := by
  obtain ⟨h1, h2⟩ := fixD_facts i hi
  obtain ⟨a, b⟩ := h.head (fixDP_ok i)
  exact ⟨symV_code FD_ok (by rw [FD_len]; exact hi) h1 (by omega) h2 (by omega) a, b⟩

end Go.Proofs.YtcgjmkcigmmjjaaGreatDoor

namespace Go.Proofs.YtcgjmkcigmmjjaaGreatDoor
set_option linter.unusedVariables false
/-- What a block tells (of kind 2: nothing is said). -/
noncomputable def blkP (M m : Nat) (most : Int) (t : Nat) (O : List Nat) : Except Nat (Nat × List Nat) :=
  if t + 3 ≤ 8 * m then
    if M / 2 ^ (t + 1) % 4 = 0 then storedP M m most (t + 3) O
    else if M / 2 ^ (t + 1) % 4 = 1 then symsV FL FD M m most (t + 3) O
    else .error 3
  else .error 2

/-- What blocks tell, up to the last one, with so many blocks ahead of it. -/
inductive Blks (M m : Nat) (most : Int) : Nat → Nat → List Nat → Except Nat (Nat × List Nat) → Prop
  | bad {n t e : Nat} {O : List Nat} : (t + 3 ≤ 8 * m → M / 2 ^ (t + 1) % 4 ≠ 2) → blkP M m most t O = .error e → Blks M m most n t O (.error e)
  | last {n t u : Nat} {O Q : List Nat} : M / 2 ^ (t + 1) % 4 ≠ 2 → M / 2 ^ t % 2 = 1 → blkP M m most t O = .ok (u, Q) → Blks M m most n t O (.ok (u, Q))
  | more {n t u : Nat} {O Q : List Nat} {r : Except Nat (Nat × List Nat)} : M / 2 ^ (t + 1) % 4 ≠ 2 → M / 2 ^ t % 2 = 0 → blkP M m most t O = .ok (u, Q) → Blks M m most n u Q r → Blks M m most (n + 1) t O r

theorem Bt.three {M m t a k : Nat} {ps : List (Nat × Nat)} (h : Bt M m t ((a, 1) :: (k, 2) :: ps)) (ha : a < 2) (hk : k < 4) (hm : t + 3 ≤ 8 * m) : M / 2 ^ t % 2 = a ∧ M / 2 ^ (t + 1) % 4 = k ∧ Bt M m (t + 3) ps := by
  obtain ⟨h1, h2⟩ := h.head ha
  obtain ⟨h3, h4⟩ := h2.head hk
  exact ⟨bits_val M m t a 1 ha h1 (by omega), bits_val M m (t + 1) k 2 hk h3 (by omega), h4⟩

/-- Literals are read. -/
theorem syms_lits {M m : Nat} {most : Int} {r : Except Nat (Nat × List Nat)} : ∀ (p : List Nat) (t : Nat) (O : List Nat) (ps : List (Nat × Nat)), (∀ c ∈ p, c < 256) → Bt M m t (p.map fixP ++ ps) → t + pcL (p.map fixP) ≤ 8 * m → ((O.length + p.length : Nat) : Int) ≤ most →
    (Bt M m (t + pcL (p.map fixP)) ps → Syms FL FD M m most (t + pcL (p.map fixP)) (O ++ p) r) → Syms FL FD M m most t O r
  | [], t, O, ps, _, hb, _, _, h => by simpa [pcL] using h (by simpa [pcL] using hb)
  | c :: p, t, O, ps, hp, hb, hm, ho, h => by
    have hc := hp c (by simp)
    obtain ⟨h1, h2⟩ := sym_fix (i := c) (by omega) (show Bt M m t (fixP c :: (p.map fixP ++ ps)) from hb)
    have hL : pcL ((c :: p).map fixP) = fixN c + pcL (p.map fixP) := rfl
    rw [hL] at hm h
    rw [if_pos (by omega)] at h1
    refine Syms.lit h1 hc (by simp at ho ⊢; omega) ?_
    refine syms_lits p (t + fixN c) (O ++ [c]) ps (fun x hx => hp x (by simp [hx])) h2 (by omega) (by simp at ho ⊢; omega) ?_
    intro hb2
    have := h (by rw [← Nat.add_assoc]; exact hb2)
    rw [← Nat.add_assoc] at this
    simpa using this

/-- More literals than may come out. -/
theorem syms_full {M m : Nat} {most : Int} : ∀ (p : List Nat) (t : Nat) (O : List Nat) (ps : List (Nat × Nat)), (∀ c ∈ p, c < 256) → Bt M m t (p.map fixP ++ ps) → t + pcL (p.map fixP) ≤ 8 * m → most < ((O.length + p.length : Nat) : Int) → (O.length : Int) ≤ most → Syms FL FD M m most t O (.error 5)
  | [], t, O, ps, _, hb, _, h1, h2 => by simp at h1; omega
  | c :: p, t, O, ps, hp, hb, hm, ho, hq => by
    have hc := hp c (by simp)
    obtain ⟨h1, h2⟩ := sym_fix (i := c) (by omega) (show Bt M m t (fixP c :: (p.map fixP ++ ps)) from hb)
    have hL : pcL ((c :: p).map fixP) = fixN c + pcL (p.map fixP) := rfl
    rw [hL] at hm
    rw [if_pos (by omega)] at h1
    by_cases g : 1 ≤ most - (O.length : Int)
    · exact Syms.lit h1 hc g (syms_full p (t + fixN c) (O ++ [c]) ps (fun x hx => hp x (by simp [hx])) h2 (by omega) (by simp at ho ⊢; omega) (by simp; omega))
    · exact Syms.full h1 hc g

/-- Literals and the end, cut off. -/
theorem syms_cut {M m : Nat} {most : Int} : ∀ (p : List Nat) (t : Nat) (O : List Nat), (∀ c ∈ p, c < 256) → Bt M m t (p.map fixP ++ [fixP 256]) → 8 * m < t + pcL (p.map fixP) + 7 → ((O.length + p.length : Nat) : Int) ≤ most → Syms FL FD M m most t O (.error 2)
  | [], t, O, _, hb, hm, _ => by
    obtain ⟨h1, _⟩ := sym_fix (i := 256) (by omega) (show Bt M m t (fixP 256 :: []) from hb)
    rw [if_neg (by simp [pcL] at hm; simp [fixN]; omega)] at h1
    exact Syms.bad h1
  | c :: p, t, O, hp, hb, hm, ho => by
    have hc := hp c (by simp)
    obtain ⟨h1, h2⟩ := sym_fix (i := c) (by omega) (show Bt M m t (fixP c :: (p.map fixP ++ [fixP 256])) from hb)
    have hL : pcL ((c :: p).map fixP) = fixN c + pcL (p.map fixP) := rfl
    rw [hL] at hm
    by_cases g : t + fixN c ≤ 8 * m
    · rw [if_pos g] at h1
      exact Syms.lit h1 hc (by simp at ho; omega) (syms_cut p (t + fixN c) (O ++ [c]) (fun x hx => hp x (by simp [hx])) h2 (by omega) (by simp at ho ⊢; omega))
    · rw [if_neg g] at h1
      exact Syms.bad h1

/-- The end. -/
theorem syms_stop {M m t : Nat} {most : Int} {O : List Nat} {ps : List (Nat × Nat)} (hb : Bt M m t (fixP 256 :: ps)) (hm : t + 7 ≤ 8 * m) : Syms FL FD M m most t O (.ok (t + 7, O)) := by
  obtain ⟨h1, _⟩ := sym_fix (i := 256) (by omega) hb
  rw [if_pos (by simp [fixN]; omega)] at h1
  exact Syms.stop h1

/-- A match of 3 to 10 bytes, from 1 to 4 back. -/
theorem match_fix {M m t long far : Nat} {most : Int} {O : List Nat} {ps : List (Nat × Nat)} (h1 : 3 ≤ long) (h2 : long ≤ 10) (h3 : 1 ≤ far) (h4 : far ≤ 4) (hb : Bt M m t (fixP (long + 254) :: fixDP (far - 1) :: ps)) (hm : t + 12 ≤ 8 * m) :
    symV FL M m t = .ok (long + 254, t + 7) ∧ Bt M m (t + 12) ps ∧ matchP FD M m most (long + 254) (t + 7) O = (if O.length < far then .error 22 else if (long : Int) ≤ most - (O.length : Int) then .ok (t + 12, copyP O far long) else .error 5) := by
  have hN : fixN (long + 254) = 7 := by
    unfold fixN
    rw [if_neg (by omega), if_neg (by omega), if_pos (by omega)]
  obtain ⟨a, b⟩ := sym_fix (i := long + 254) (by omega) hb
  rw [hN, if_pos (by omega)] at a
  rw [hN] at b
  obtain ⟨c, d⟩ := sym_fixD (i := far - 1) (by omega) b
  rw [if_pos (by omega)] at c
  refine ⟨a, by rw [Nat.add_assoc] at d; exact d, ?_⟩
  have e1 : lenP M m (long + 254) (t + 7) = .ok (long, t + 7) := by
    unfold lenP
    rw [if_neg (by omega), if_neg (by omega), if_pos (by omega), Nat.add_sub_cancel]
  have e2 : disP FD M m (t + 7) = .ok (far, t + 12) := by
    unfold disP
    rw [c]
    simp only
    rw [if_neg (by omega), if_pos (by omega), show far - 1 + 1 = far by omega, show t + 7 + 5 = t + 12 by omega]
  unfold matchP
  rw [e1]
  simp only
  rw [e2]

end Go.Proofs.YtcgjmkcigmmjjaaGreatDoor

namespace Go.Proofs.YtcgjmkcigmmjjaaGreatDoor
open Go.RowKit
set_option maxRecDepth 100000
set_option linter.unusedVariables false
theorem Ri.own {w : World} {v : Value} {n : Nat} {L : List Int} (h : w.ownsRow 0 3 1 v n (i64s L)) (e : L.length = n) : Ri w v L := Ri.of_own h

/-- What newCodes leaves. -/
def NewC (L D : List Int) (w : World) (e : Ending) (w' : World) : Prop :=
  Step (fun _ => False) w w' ∧
  ((newErr L ≠ 0 ∧ e = .returned (.tuple #[.pointer none, .int .i64 (newErr L)])) ∨
   (newErr L = 0 ∧ newErr D ≠ 0 ∧ e = .returned (.tuple #[.pointer none, .int .i64 (newErr D)])) ∨
   (newErr L = 0 ∧ newErr D = 0 ∧ ∃ c d1 d2 b1 b2 n1 n2, e = .returned (.tuple #[.pointer (some ⟨c, 0, none⟩), .int .i64 0]) ∧ Cod w' c d1 d2 b1 b2 n1 n2 L D ∧ w.heap.size ≤ c ∧ w.heap.size ≤ d1 ∧ w.heap.size ≤ d2 ∧ w.heap.size ≤ b1 ∧ w.heap.size ≤ b2))

theorem Cod.new {w : World} {d1 d2 b1 b2 n1 n2 : Nat} {L D : List Int} (e1 : Dec w d1 L b1 n1 0 0) (e2 : Dec w d2 D b2 n2 0 0) (dd : d1 ≠ d2) (x12 : d1 ≠ b2) (x21 : d2 ≠ b1) (t : TypeId) :
    Cod (w.alloc (.cells #[.pointer (some ⟨d1, 0, none⟩), .pointer (some ⟨d2, 0, none⟩)] t)) w.heap.size d1 d2 b1 b2 n1 n2 L D := by
  have hs : Step (fun _ => False) w (w.alloc (.cells #[.pointer (some ⟨d1, 0, none⟩), .pointer (some ⟨d2, 0, none⟩)] t)) := (Step.refl _ w).alloc _
  have l1 : d1 < w.heap.size := World.block_lt_of_cell? w _ e1.c1
  have l2 : d2 < w.heap.size := World.block_lt_of_cell? w _ e2.c1
  refine ⟨?_, ?_, e1.made hs, e2.made hs, dd, x12, x21, by omega, by omega⟩
  · rw [World.cell?_alloc_at _ _ _ _ rfl]; rfl
  · rw [World.cell?_alloc_at _ _ _ _ rfl]; rfl

theorem Str.set3 {w : World} {p b : Nat} {s v : Value} {M m t : Nat} {O : List Nat} {most : Int} (h : Str w p b s v M m t O most) (u : Value) : Str (w.setCell ⟨p, 3, none⟩ u) p b s v M m t O most := by
  have S : Step (fun k => k = p) w (w.setCell ⟨p, 3, none⟩ u) := (Step.refl (fun k => k = p) w).setCell ⟨p, 3, none⟩ u (.inl rfl)
  have hne : ∀ j u', j ≠ 3 → w.cell? ⟨p, j, none⟩ = some u' → (w.setCell ⟨p, 3, none⟩ u).cell? ⟨p, j, none⟩ = some u' := fun j u' hj hu => by
    rw [World.cell?_setCell_other (a := ⟨p, 3, none⟩) (b := ⟨p, j, none⟩) _ _ (by intro e; injection e with _ e2; exact hj e2.symm)]; exact hu
  refine ⟨hne 0 _ (by omega) h.ci, h.rr.step S (fun e => h.pb e.symm) (fun k hk e => h.sp (by rw [hk, e])), ⟨hne 1 _ (by omega) h.ou.co, hne 2 _ (by omega) h.ou.cm, ?_, owns_step h.ou.ow S (fun k hk e => h.ou.ne (by rw [hk, e])), h.ou.ne, h.ou.ca, h.ou.by_⟩, h.pb, h.sp, h.vb, h.vs⟩
  rw [World.frozen?_setCell]; exact h.ou.f1

theorem Cod.far {S : Nat → Prop} {w w' : World} {c d1 d2 b1 b2 n1 n2 : Nat} {L D : List Int} (k : Cod w c d1 d2 b1 b2 n1 n2 L D) (hs : Step S w w') (h0 : ¬ S c) (h1 : ¬ S d1) (h2 : ¬ S d2) (h3 : ¬ S b1) (h4 : ¬ S b2) : Cod w' c d1 d2 b1 b2 n1 n2 L D :=
  ⟨hs.cell k.c1 h0, hs.cell k.c2 h0, k.e1.far hs h1 (fun _ => h3), k.e2.far hs h2 (fun _ => h4), k.dd, k.x12, k.x21, k.y1, k.y2⟩

/-- The fixed codes, if they were made already. -/
def Fx (w : World) (B p b : Nat) (s v : Value) : Prop :=
  w.cell? ⟨p, 3, none⟩ = some (.pointer none) ∨ ∃ c d1 d2 b1 b2 n1 n2, w.cell? ⟨p, 3, none⟩ = some (.pointer (some ⟨c, 0, none⟩)) ∧ Cod w c d1 d2 b1 b2 n1 n2 FL FD ∧ BesC p b s v c d1 d2 b1 b2 FL FD ∧ B ≤ d1 ∧ B ≤ d2

theorem FL_flat : [List.replicate 144 (8 : Int), List.replicate 112 9, List.replicate 24 7, List.replicate 8 8].flatten = FL := by
  simp only [List.flatten_cons, List.flatten_nil, List.append_nil, FL, List.append_assoc]

/-- What fixedCodes leaves. -/
def FixE (w : World) (B p b : Nat) (s v : Value) (M m t : Nat) (O : List Nat) (most : Int) (e : Ending) (w' : World) : Prop :=
  ∃ c d1 d2 b1 b2 n1 n2, e = .returned (.pointer (some ⟨c, 0, none⟩)) ∧ w'.cell? ⟨p, 3, none⟩ = some (.pointer (some ⟨c, 0, none⟩)) ∧ w'.frozen? ⟨p, 3, none⟩ = false ∧
    Cod w' c d1 d2 b1 b2 n1 n2 FL FD ∧ BesC p b s v c d1 d2 b1 b2 FL FD ∧ B ≤ d1 ∧ B ≤ d2 ∧ Str w' p b s v M m t O most ∧ Step (fun k => k = p) w w'

/-- Four rows in a new block. -/
theorem Rws.four {w : World} {k1 k2 k3 k4 n1 n2 n3 n4 : Nat} {L1 L2 L3 L4 : List Int} (e1 : L1.length = n1) (e2 : L2.length = n2) (e3 : L3.length = n3) (e4 : L4.length = n4)
    (h1 : Ri w (.slice (some ⟨k1, 0, none⟩) n1 n1) L1) (h2 : Ri w (.slice (some ⟨k2, 0, none⟩) n2 n2) L2) (h3 : Ri w (.slice (some ⟨k3, 0, none⟩) n3 n3) L3) (h4 : Ri w (.slice (some ⟨k4, 0, none⟩) n4 n4) L4) (t : TypeId) :
    Rws (w.alloc (.cells #[.slice (some ⟨k1, 0, none⟩) n1 n1, .slice (some ⟨k2, 0, none⟩) n2 n2, .slice (some ⟨k3, 0, none⟩) n3 n3, .slice (some ⟨k4, 0, none⟩) n4 n4] t)) w.heap.size [L1, L2, L3, L4] := by
  have hs : Step (fun _ => False) w (w.alloc (.cells #[.slice (some ⟨k1, 0, none⟩) n1 n1, .slice (some ⟨k2, 0, none⟩) n2 n2, .slice (some ⟨k3, 0, none⟩) n3 n3, .slice (some ⟨k4, 0, none⟩) n4 n4] t)) := (Step.refl _ w).alloc _
  subst e1; subst e2; subst e3; subst e4
  refine ⟨fun k hk => ?_⟩
  have hk4 : k = 0 ∨ k = 1 ∨ k = 2 ∨ k = 3 := by simp at hk; omega
  rcases hk4 with rfl | rfl | rfl | rfl
  · exact ⟨k1, 0, _, (World.cell?_alloc_at _ _ _ _ rfl).trans rfl, h1.made hs⟩
  · exact ⟨k2, 0, _, (World.cell?_alloc_at _ _ _ _ rfl).trans rfl, h2.made hs⟩
  · exact ⟨k3, 0, _, (World.cell?_alloc_at _ _ _ _ rfl).trans rfl, h3.made hs⟩
  · exact ⟨k4, 0, _, (World.cell?_alloc_at _ _ _ _ rfl).trans rfl, h4.made hs⟩

end Go.Proofs.YtcgjmkcigmmjjaaGreatDoor

namespace Go.Proofs.YtcgjmkcigmmjjaaGreatDoor
open Go.RowKit
set_option maxRecDepth 100000
set_option linter.unusedVariables false
/-- A stream as it stands between blocks. -/
structure St (w : World) (B p b : Nat) (s v : Value) (M m t : Nat) (O : List Nat) (most : Int) : Prop where
  str : Str w p b s v M m t O most
  f3 : w.frozen? ⟨p, 3, none⟩ = false
  fx : Fx w B p b s v
  bp : B ≤ p
  bb : B ≤ b
  bv : ∀ k, v.ownBlock = some k → B ≤ k
  ol : O.length ≤ 258 * t

/-- How a block ends. -/
def BlkE (w : World) (B p b : Nat) (s : Value) (M m : Nat) (most : Int) (l : Bool) (r : Except Nat (Nat × List Nat)) (e : Ending) (w' : World) : Prop :=
  Step (fun k => B ≤ k) w w' ∧
  match r with
  | .error x => 0 < x ∧ ∃ q, e = .returned (.tuple #[.bool q, .int .i64 (x : Int)])
  | .ok (u, Q) => e = .returned (.tuple #[.bool l, .int .i64 0]) ∧ ∃ v', St w' B p b s v' M m u Q most

theorem Fx.beside {w w' : World} {B p b : Nat} {s v v' : Value} {M m t : Nat} {O : List Nat} {most : Int} (h : Fx w B p b s v) (hs : Step (Sb p b v) w w') (hk : Keep p w w') (hv : v'.ownBlock = v.ownBlock ∨ ∃ k, v'.ownBlock = some k ∧ w.heap.size ≤ k) : Fx w' B p b s v' := by
  rcases h with h | ⟨c, d1, d2, b1, b2, n1, n2, h1, h2, h3, h4, h5⟩
  · exact .inl (hk.1 _ h)
  · exact .inr ⟨c, d1, d2, b1, b2, n1, n2, hk.1 _ h1, h2.beside h3 hs, h3.grow h2 hv, h4, h5⟩

theorem St.took {w w' : World} {B p b : Nat} {s v : Value} {M m t t' : Nat} {O : List Nat} {most : Int} (h : St w B p b s v M m t O most) (T : Took w w' b s M m t') (ht : t ≤ t') : St w' B p b s v M m t' O most ∧ Step (fun k => B ≤ k) w w' := by
  obtain ⟨a1, a2, a3⟩ := h.str.took T
  refine ⟨⟨a1, a3.2.trans h.f3, h.fx.beside (M := M) (m := m) (t := t) (O := O) (most := most) a2 a3 (.inl rfl), h.bp, h.bb, h.bv, ?_⟩, T.2.mono (fun i hi => by subst hi; exact h.bb)⟩
  have := h.ol
  omega

theorem bv_grow {w : World} {B : Nat} {v v' : Value} (hB : B ≤ w.heap.size) (h : ∀ k, v.ownBlock = some k → B ≤ k) (hv : v'.ownBlock = v.ownBlock ∨ ∃ k, v'.ownBlock = some k ∧ w.heap.size ≤ k) : ∀ k, v'.ownBlock = some k → B ≤ k := by
  intro k hk
  rcases hv with e | ⟨j, e, hj⟩
  · exact h k (by rw [← e]; exact hk)
  · rw [e] at hk; have := Option.some.inj hk; omega

theorem storedP_len {M m t u : Nat} {most : Int} {O Q : List Nat} (h : storedP M m most t O = .ok (u, Q)) (ho : O.length ≤ 258 * t) : Q.length ≤ 258 * u := by
  unfold storedP at h
  simp only at h
  split at h
  · split at h
    · split at h
      · split at h
        · injection h with h
          injection h with h1 h2
          subst h1; subst h2
          rw [List.length_append, bytesOf_length]
          omega
        · cases h
      · cases h
    · cases h
  · cases h

theorem storedP_err {M m t x : Nat} {most : Int} {O : List Nat} (h : storedP M m most t O = .error x) : 0 < x := by
  unfold storedP at h
  simp only at h
  split at h
  · split at h
    · split at h
      · split at h
        · cases h
        · injection h with h; omega
      · injection h with h; omega
    · injection h with h; omega
  · injection h with h; omega

end Go.Proofs.YtcgjmkcigmmjjaaGreatDoor

namespace Go.Proofs.YtcgjmkcigmmjjaaGreatDoor
open Go.RowKit
set_option maxRecDepth 100000
set_option linter.unusedVariables false
theorem Step.fresh {w w' : World} (h : Step (fun k => w.heap.size ≤ k) w w') : Step (fun _ => False) w w' := (Step.refl (fun _ => False) w).trans h (fun _ hi => .inr hi)

/-- A new stream. -/
theorem St.new {w w1 : World} {b : Nat} {s : Value} {M m : Nat} (most : Int) (hr : Rr w1 b s M m 0) (hs : Step (fun _ => False) w w1) (hb : w.heap.size ≤ b) (t : TypeId) :
    St (w1.alloc (.cells #[.pointer (some ⟨b, 0, none⟩), .slice none 0 0, .int .i64 most, .pointer none] t)) w.heap.size w1.heap.size b s (.slice none 0 0) M m 0 [] most := by
  have hS : Step (fun _ => False) w1 (w1.alloc (.cells #[.pointer (some ⟨b, 0, none⟩), .slice none 0 0, .int .i64 most, .pointer none] t)) := (Step.refl _ w1).alloc _
  have hbl : b < w1.heap.size := World.block_lt_of_cell? w1 _ hr.ins
  have hc : ∀ k u, #[Value.pointer (some ⟨b, 0, none⟩), .slice none 0 0, .int .i64 most, .pointer none][k]? = some u → (w1.alloc (.cells #[.pointer (some ⟨b, 0, none⟩), .slice none 0 0, .int .i64 most, .pointer none] t)).cell? ⟨w1.heap.size, k, none⟩ = some u := fun k u h => by rw [World.cell?_alloc_at _ _ _ _ rfl]; exact h
  refine ⟨⟨hc 0 _ rfl, hr.step hS (fun h => h) (fun _ _ h => h), ⟨hc 1 _ rfl, hc 2 _ rfl, World.frozen?_alloc_at _ _ _ _ rfl, World.ownsRow_nil _ _ _ _, by simp [Value.ownBlock], by simp [capOf], fun _ h => by cases h⟩, by omega, ?_, by simp [Value.ownBlock], fun k hk => by simp [Value.ownBlock] at hk⟩, World.frozen?_alloc_at _ _ _ _ rfl, .inl (hc 3 _ rfl), hs.size, hb, fun k hk => by simp [Value.ownBlock] at hk, by simp⟩
  intro e
  have := (hr.own.lt _ e).2
  omega

/-- What Bytes answers. -/
def BytesE (w : World) (r : Except Nat (Nat × List Nat)) (e : Ending) (w' : World) : Prop :=
  Step (fun _ => False) w w' ∧
  match r with
  | .error x => 0 < x ∧ e = .returned (.tuple #[.slice none 0 0, .int .i64 0, .int .i64 (x : Int)])
  | .ok (u, Q) => ∃ v, e = .returned (.tuple #[v, .int .i64 (((u + 7) / 8 : Nat) : Int), .int .i64 0]) ∧ Rd w' v Q ∧ (∀ y ∈ Q, y < 256) ∧ (∀ a n c, v = .slice (some a) n c → w.heap.size ≤ a.block) ∧ Q.length ≤ 258 * u ∧ u ≤ 8000000

end Go.Proofs.YtcgjmkcigmmjjaaGreatDoor

namespace Go.Proofs.YtcgjmkcigmmjjaaGreatDoor
open Go.RowKit
set_option maxRecDepth 100000
set_option linter.unusedVariables false
/-- How lengths ends. -/
def LensE (w : World) (p b : Nat) (s v : Value) (M m : Nat) (O : List Nat) (most : Int) (d many t0 : Nat) (r : Except Nat (Nat × List Int)) (e : Ending) (w' : World) : Prop :=
  Step (fun k => k = b ∨ k = d) w w' ∧
  match r with
  | .error x => 0 < x ∧ e = .returned (.tuple #[.slice none 0 0, .int .i64 (x : Int)])
  | .ok (t, A) => ∃ ao c, e = .returned (.tuple #[.slice ao A.length c, .int .i64 0]) ∧ Str w' p b s v M m t O most ∧ w'.ownsRow 0 3 1 (.slice ao A.length c) A.length (i64s A) ∧ (∀ k, (Value.slice ao A.length c).ownBlock = some k → w.heap.size ≤ k) ∧ A.length = many ∧ (∀ y ∈ A, 0 ≤ y) ∧ t0 ≤ t

/-- A row of numbers of the call's own, with another row behind it. -/
theorem append_ints {w : World} {ops : Array Oper} {rest : List Oper} {o : Oper} {a : Act} {Q : Exit → Act → World → Prop} (hgd : o.guard = none) (s x : Operand)
    (ho : o.op = .call { callee := .builtin .append, args := #[s, x], argTypes := #[30, 30] })
    (v : Value) (n : Nat) (C : List Int) (hs : a.eval s = v) (hown : w.ownsRow 0 3 1 v n (i64s C))
    (g : Nat) (B : List Int) (N : Nat) (hB : B.length = N) (hx : a.eval x = .slice (some ⟨g, 0, none⟩) N N) (hr : w.ownsRow 0 3 1 (.slice (some ⟨g, 0, none⟩) N N) N (i64s B)) (hb : n + N ≤ 1000000)
    (h : ∀ v' w', w'.ownsRow 0 3 1 v' (n + N) (i64s (C ++ B)) → w.grownBy w' v.ownBlock → (v'.ownBlock = v.ownBlock ∨ v'.ownBlock = some w.heap.size) → wpList Tryz.prog ops Q rest (a.put o.dst v') w') :
    wpList Tryz.prog ops Q (o :: rest) a w := by
  obtain ⟨i0, hi, hz0, hz1, hz2⟩ := info_parts Tryz.info3
  exact wpList_append_at w hgd s x 30 ho 3 i0 (.int .i64 0) 1 8 Tryz.underlying30 hi hz0 hz1 hz2 rfl (by decide) v n (i64s C) hs hown ⟨g, 0, none⟩ N N (i64s B) hx (by rw [i64s_length]; omega) (Ri.of_own hr).news (i64s_one _) (by unfold maxLen; omega) (by omega)
      (fun v' w' k1 k2 _ k4 => h v' w' (by rw [i64s_append]; exact k1) k2 k4)

/-- A row of the call's own, with a row behind it, beside what is written. -/
theorem grown_step {S : Nat → Prop} {w w1 w2 w3 : World} {v v' : Value} (S1 : Step S w w1) (S2 : Step (fun _ => False) w1 w2) (hv : ∀ g, v.ownBlock = some g → w.heap.size ≤ g) (hg : w2.grownBy w3 v.ownBlock) (hb : v'.ownBlock = v.ownBlock ∨ v'.ownBlock = some w2.heap.size) : Step S w w3 ∧ ∀ g, v'.ownBlock = some g → w.heap.size ≤ g := by
  have S12 : Step S w w2 := S1.trans S2 (fun _ h => h.elim)
  refine ⟨S12.grown hg (fun k hk => .inr (hv k hk)), fun g hg2 => ?_⟩
  rcases hb with e | e
  · exact hv g (by rw [← e]; exact hg2)
  · rw [e] at hg2; have := Option.some.inj hg2; have := S12.size; omega

end Go.Proofs.YtcgjmkcigmmjjaaGreatDoor

namespace Go.Proofs.YtcgjmkcigmmjjaaGreatDoor
open Go.RowKit
set_option maxRecDepth 100000
set_option linter.unusedVariables false
/-- The table lies where the program laid it. -/
def Tab (w : World) : Prop := ∀ k, k < 19 → w.cell? ⟨0, k, none⟩ = some (.int .i64 ((ord k : Nat) : Int))

theorem Tab.step {S : Nat → Prop} {w w' : World} (h : Tab w) (hs : Step S w w') (h0 : ¬ S 0) : Tab w' := fun k hk => hs.cell (h k hk) h0

theorem Tab.pos {w : World} (h : Tab w) : 0 < w.heap.size := World.block_lt_of_cell? w _ (h 0 (by omega))

/-- How lengthsCodes ends. -/
def LcE (w : World) (p b : Nat) (s v : Value) (M m t : Nat) (O : List Nat) (most : Int) (many : Nat) (e : Ending) (w' : World) : Prop :=
  Step (fun k => k = b) w w' ∧
  if t + 3 * many ≤ 8 * m then
    if newErr (clL M t many) = 0 then ∃ d bs tot, e = .returned (.tuple #[.pointer (some ⟨d, 0, none⟩), .int .i64 0]) ∧ Str w' p b s v M m (t + 3 * many) O most ∧ Dec w' d (clL M t many) bs tot 0 0 ∧ w.heap.size ≤ d ∧ w.heap.size ≤ bs
    else e = .returned (.tuple #[.pointer none, .int .i64 (newErr (clL M t many))])
  else e = .returned (.tuple #[.pointer none, .int .i64 2])

end Go.Proofs.YtcgjmkcigmmjjaaGreatDoor

namespace Go.Proofs.YtcgjmkcigmmjjaaGreatDoor
open Go.RowKit
set_option maxRecDepth 100000
set_option linter.unusedVariables false
theorem Ri.take {w : World} {a : Addr} {n c : Nat} {A : List Int} (h : Ri w (.slice (some a) n c) A) (k : Nat) (hk : k ≤ n) (h0 : 0 < k) : Ri w (.slice (some a) k c) (A.take k) := by
  obtain ⟨ao, cp, e, hc, h1, h2⟩ := h
  injection e with e1 e2 e3
  subst e1
  subst e3
  have hl : (A.take k).length = k := by rw [List.length_take]; omega
  refine ⟨some a, c, by rw [hl], by omega, fun h => (by cases h), fun a' ha hne => ?_⟩
  obtain ⟨b, off, hb, hcell⟩ := h2 a' ha (by intro e; subst e; simp at hne)
  refine ⟨b, off, hb, fun j hj => ?_⟩
  rw [hl] at hj
  rw [hcell j (by omega)]
  simp [List.getD, hj]

theorem Ri.drop {w : World} {b o n c : Nat} {A : List Int} (h : Ri w (.slice (some ⟨b, o, none⟩) n c) A) (k : Nat) (hk : k < n) : Ri w (.slice (some ⟨b, o + k, none⟩) (n - k) (c - k)) (A.drop k) := by
  obtain ⟨ao, cp, e, hc, h1, h2⟩ := h
  injection e with e1 e2 e3
  subst e1
  subst e3
  have hl : (A.drop k).length = n - k := by rw [List.length_drop]; omega
  refine ⟨some ⟨b, o + k, none⟩, c - k, by rw [hl], by omega, fun h => (by cases h), fun a' ha hne => ?_⟩
  obtain ⟨b2, off, hb, hcell⟩ := h2 ⟨b, o, none⟩ rfl (by intro e; subst e; simp at hne)
  injection hb with hb1 hb2
  subst hb1
  subst hb2
  refine ⟨b, o + k, (Option.some.inj ha).symm, fun j hj => ?_⟩
  rw [hl] at hj
  rw [show o + k + j = o + (k + j) by omega, hcell (k + j) (by omega)]
  simp [List.getD]

/-- How ownCodes ends. -/
def OwnE (w : World) (p b : Nat) (s v : Value) (M m : Nat) (O : List Nat) (most : Int) (t0 : Nat) (r : Except Nat (Nat × List Int × List Int)) (e : Ending) (w' : World) : Prop :=
  Step (fun k => k = b) w w' ∧
  match r with
  | .error x => 0 < x ∧ e = .returned (.tuple #[.pointer none, .int .i64 (x : Int)])
  | .ok (u, L, D) => newErr L = 0 ∧ newErr D = 0 ∧ ∃ c d1 d2 b1 b2 n1 n2, e = .returned (.tuple #[.pointer (some ⟨c, 0, none⟩), .int .i64 0]) ∧ Cod w' c d1 d2 b1 b2 n1 n2 L D ∧ Str w' p b s v M m u O most ∧ w.heap.size ≤ c ∧ w.heap.size ≤ d1 ∧ w.heap.size ≤ d2 ∧ w.heap.size ≤ b1 ∧ w.heap.size ≤ b2 ∧ t0 ≤ u

/-- What lengths answers, seen so. -/
def LenQ (p b : Nat) (s v : Value) (M m : Nat) (O : List Nat) (most : Int) (many t0 : Nat) (r : Except Nat (Nat × List Int)) (e : Ending) (w' : World) : Prop :=
  match r with
  | .error x => 0 < x ∧ e = .returned (.tuple #[.slice none 0 0, .int .i64 (x : Int)])
  | .ok (u, A) => ∃ g c, e = .returned (.tuple #[.slice (some ⟨g, 0, none⟩) many c, .int .i64 0]) ∧ w'.cell? ⟨g, 256, none⟩ = some (.int .i64 (A.getD 256 0)) ∧ many ≤ c ∧ Hid (Str w' p b s v M m u O most ∧ Ri w' (.slice (some ⟨g, 0, none⟩) many c) A ∧ A.length = many ∧ (∀ y ∈ A, 0 ≤ y) ∧ t0 ≤ u)

theorem newErr_pos (L : List Int) (h : newErr L ≠ 0) : newErr L = ((newErr L).toNat : Int) ∧ 0 < (newErr L).toNat := by
  unfold newErr at *
  split at h <;> (try split at h) <;> simp_all

theorem and_31 (h : Nat) (hh : h < 16384) : bits .and .i64 (h : Int) 31 = ((h % 32 : Nat) : Int) := by
  have := i64_and_nat h 31 (by omega) (by omega)
  rw [show ((31 : Nat) : Int) = 31 from rfl] at this
  rw [this, show (31 : Nat) = 2 ^ 5 - 1 from rfl, Nat.and_two_pow_sub_one_eq_mod]

end Go.Proofs.YtcgjmkcigmmjjaaGreatDoor

namespace Go.Proofs.YtcgjmkcigmmjjaaGreatDoor
open Go.RowKit
set_option maxRecDepth 100000
set_option linter.unusedVariables false
/-- Symbols by codes of the block's own. -/
noncomputable def ownS (M m : Nat) (most : Int) (O : List Nat) : Except Nat (Nat × List Int × List Int) → Except Nat (Nat × List Nat)
  | .error e => .error e
  | .ok (u, L, D) => symsV L D M m most u O

/-- What a block tells. -/
noncomputable def blkF (M m : Nat) (most : Int) (t : Nat) (O : List Nat) : Except Nat (Nat × List Nat) :=
  if t + 3 ≤ 8 * m ∧ M / 2 ^ (t + 1) % 4 = 2 then ownS M m most O (ownP M m (t + 3)) else blkP M m most t O

/-- What blocks tell, up to the last one, with so many blocks ahead of it. -/
inductive BlksF (M m : Nat) (most : Int) : Nat → Nat → List Nat → Except Nat (Nat × List Nat) → Prop
  | bad {n t e : Nat} {O : List Nat} : blkF M m most t O = .error e → BlksF M m most n t O (.error e)
  | last {n t u : Nat} {O Q : List Nat} : M / 2 ^ t % 2 = 1 → blkF M m most t O = .ok (u, Q) → BlksF M m most n t O (.ok (u, Q))
  | more {n t u : Nat} {O Q : List Nat} {r : Except Nat (Nat × List Nat)} : M / 2 ^ t % 2 = 0 → blkF M m most t O = .ok (u, Q) → BlksF M m most n u Q r → BlksF M m most (n + 1) t O r

/-- Codes of its own that a stream has read. -/
def OwnQ (w0 w1 : World) (p b : Nat) (s v : Value) (M m t u : Nat) (O : List Nat) (most : Int) (c : Nat) (L D : List Int) : Prop :=
  newErr L = 0 ∧ newErr D = 0 ∧ t ≤ u ∧ ∃ d1 d2 b1 b2 n1 n2, Cod w1 c d1 d2 b1 b2 n1 n2 L D ∧ BesC p b s v c d1 d2 b1 b2 L D ∧ Str w1 p b s v M m u O most ∧ w0.heap.size ≤ d1 ∧ w0.heap.size ≤ d2 ∧ Step (fun k => k = b) w0 w1

/-- How ownCodes ends, seen so. -/
def OwnR (w0 : World) (B p b : Nat) (s v : Value) (M m t : Nat) (O : List Nat) (most : Int) (r : Except Nat (Nat × List Int × List Int)) (e : Ending) (w' : World) : Prop :=
  Hid (Step (fun k => B ≤ k) w0 w') ∧
  match r with
  | .error x => 0 < x ∧ e = .returned (.tuple #[.pointer none, .int .i64 (x : Int)])
  | .ok (u, L, D) => ∃ c, e = .returned (.tuple #[.pointer (some ⟨c, 0, none⟩), .int .i64 0]) ∧ Hid (OwnQ w0 w' p b s v M m t u O most c L D)

end Go.Proofs.YtcgjmkcigmmjjaaGreatDoor

namespace Go.Proofs.YtcgjmkcigmmjjaaGreatDoor
set_option linter.unusedVariables false
theorem pcN_snoc (ps : List (Nat × Nat)) (x n : Nat) : pcN (ps ++ [(x, n)]) = pcN ps + x * 2 ^ pcL ps := by
  rw [pcN_append]; simp [pcN]

theorem pcL_snoc (ps : List (Nat × Nat)) (x n : Nat) : pcL (ps ++ [(x, n)]) = pcL ps + n := by
  rw [pcL_append]; simp [pcL]

/-- The numbers that laid lays. -/
def laidT (long far : Nat) : List (Nat × Nat) := if long = 0 then [fixP 256] else [fixP (long + 254), fixDP (far - 1), fixP 256]

def laidP (P : List Nat) (long far : Nat) : List (Nat × Nat) := (1, 1) :: (1, 2) :: (P.map fixP ++ laidT long far)

theorem laidP_ok (P : List Nat) (long far : Nat) : pcOk (laidP P long far) := by
  intro q hq
  unfold laidP laidT at hq
  simp only [List.mem_cons, List.mem_append, List.mem_map] at hq
  rcases hq with rfl | rfl | ⟨c, _, rfl⟩ | hq
  · decide
  · decide
  · exact fixP_ok c
  · split at hq
    · simp only [List.mem_singleton] at hq; rw [hq]; exact fixP_ok _
    · simp only [List.mem_cons, List.not_mem_nil, or_false] at hq
      rcases hq with rfl | rfl | rfl
      · exact fixP_ok _
      · exact fixDP_ok _
      · exact fixP_ok _

theorem fixN_le (i : Nat) : fixN i ≤ 9 := by unfold fixN; split <;> (try split) <;> (try split) <;> omega

theorem lits_len (P : List Nat) : pcL (P.map fixP) ≤ 9 * P.length := by
  induction P with
  | nil => simp [pcL]
  | cons c P ih =>
    have := fixN_le c
    show fixN c + pcL (P.map fixP) ≤ _
    simp only [List.length_cons]
    omega

theorem laidP_len (P : List Nat) (long far : Nat) : pcL (laidP P long far) = 3 + pcL (P.map fixP) + pcL (laidT long far) := by
  show 1 + (2 + pcL (P.map fixP ++ laidT long far)) = _
  rw [pcL_append]; omega

theorem laidT_len (long far : Nat) (h : long = 0 ∨ (3 ≤ long ∧ long ≤ 10)) : pcL (laidT long far) = if long = 0 then 7 else 19 := by
  unfold laidT
  by_cases e : long = 0
  · rw [if_pos e, if_pos e]; rfl
  · rw [if_neg e, if_neg e]
    have hN : fixN (long + 254) = 7 := by
      unfold fixN
      rw [if_neg (by omega), if_neg (by omega), if_pos (by omega)]
    show fixN (long + 254) + (5 + (fixN 256 + 0)) = 19
    rw [hN]; rfl

/-- What such a stream tells, behind O. -/
def laidR (Q : List Nat) (long far : Nat) (most : Int) (u : Nat) : Except Nat (Nat × List Nat) :=
  if most < (Q.length : Int) then .error 5 else if long = 0 then .ok (u, Q) else if Q.length < far then .error 22 else if (long : Int) ≤ most - (Q.length : Int) then .ok (u, copyP Q far long) else .error 5

theorem blk_laid {M m : Nat} {most : Int} (P : List Nat) (long far t : Nat) (O : List Nat) (hP : ∀ c ∈ P, c < 256) (hl : long = 0 ∨ (3 ≤ long ∧ long ≤ 10)) (hf1 : 1 ≤ far) (hf2 : far ≤ 4)
    (hb : Bt M m t (laidP P long far)) (hm : t + pcL (laidP P long far) ≤ 8 * m) (hO : (O.length : Int) ≤ most) (n : Nat) :
    Blks M m most n t O (laidR (O ++ P) long far most (t + pcL (laidP P long far))) := by
  have hlen := laidP_len P long far
  have hT := laidT_len long far hl
  have hT7 : 7 ≤ pcL (laidT long far) := by rw [hT]; split <;> omega
  obtain ⟨k1, k2, k3⟩ := hb.three (by omega) (by omega) (by omega)
  have hblk : ∀ r, Syms FL FD M m most (t + 3) O r → blkP M m most t O = r := fun r hr => by
    unfold blkP
    rw [if_pos (by omega), if_neg (by omega), if_pos k2, hr.val]
  have hfin : ∀ r, Syms FL FD M m most (t + 3) O r → Blks M m most n t O r := fun r hr => by
    cases r with
    | error e => exact Blks.bad (fun _ => by omega) (hblk _ hr)
    | ok z => exact Blks.last (by omega) k1 (hblk _ hr)
  apply hfin
  unfold laidR
  by_cases g1 : most < ((O ++ P).length : Int)
  · rw [if_pos g1]
    rw [List.length_append] at g1
    exact syms_full P (t + 3) O (laidT long far) hP k3 (by omega) g1 hO
  · rw [if_neg g1]
    have g1' := g1
    rw [List.length_append] at g1
    by_cases g2 : long = 0
    · rw [if_pos g2]
      rw [if_pos g2] at hT
      refine syms_lits P (t + 3) O (laidT long far) hP k3 (by omega) (by omega) (fun hb2 => ?_)
      have := syms_stop (most := most) (O := O ++ P) (ps := []) (by unfold laidT at hb2; rw [if_pos g2] at hb2; exact hb2) (by omega)
      rw [show t + pcL (laidP P long far) = t + 3 + pcL (P.map fixP) + 7 by omega]
      exact this
    · rw [if_neg g2]
      rw [if_neg g2] at hT
      refine syms_lits P (t + 3) O (laidT long far) hP k3 (by omega) (by omega) (fun hb2 => ?_)
      unfold laidT at hb2
      rw [if_neg g2] at hb2
      obtain ⟨a1, a2, a3⟩ := match_fix (most := most) (O := O ++ P) (by omega) (by omega) hf1 hf2 hb2 (by omega)
      by_cases g3 : (O ++ P).length < far
      · rw [if_pos g3] at a3 ⊢
        exact Syms.none a1 (by omega) a3
      · rw [if_neg g3] at a3 ⊢
        by_cases g4 : (long : Int) ≤ most - ((O ++ P).length : Int)
        · rw [if_pos g4] at a3 ⊢
          refine Syms.mat a1 (by omega) a3 ?_
          rw [show t + pcL (laidP P long far) = t + 3 + pcL (P.map fixP) + 12 + 7 by omega]
          exact syms_stop a2 (by omega)
        · rw [if_neg g4] at a3 ⊢
          exact Syms.none a1 (by omega) a3

/-- Cut off. -/
theorem blk_cut {M m : Nat} {most : Int} (P : List Nat) (hP : ∀ c ∈ P, c < 256) (hb : Bt M m 0 (laidP P 0 1)) (hm : 8 * m < pcL (laidP P 0 1)) (hO : (P.length : Int) ≤ most) (n : Nat) : Blks M m most n 0 [] (.error 2) := by
  have hlen := laidP_len P 0 1
  have hT := laidT_len 0 1 (.inl rfl)
  rw [if_pos rfl] at hT
  by_cases g : 0 + 3 ≤ 8 * m
  · obtain ⟨k1, k2, k3⟩ := hb.three (by omega) (by omega) g
    refine Blks.bad (fun _ => by omega) ?_
    unfold blkP
    rw [if_pos g, if_neg (by omega), if_pos k2]
    exact (syms_cut P (0 + 3) [] hP k3 (by omega) (by simp; exact hO)).val
  · refine Blks.bad (fun h => absurd h g) ?_
    unfold blkP
    rw [if_neg g]

/-- Bytes behind others, as numbers. -/
theorem bytes_behind (N a : Nat) (R : List Nat) (h : N < 2 ^ (8 * a)) (hR : ∀ y ∈ R, y < 256) : bytesOf N a ++ R = bytesOf (N + numOf R * 2 ^ (8 * a)) (a + R.length) := by
  rw [bytesOf_add N (numOf R) a R.length h, bytesOf_numOf R hR]

theorem Bt.behind {m : Nat} {ps : List (Nat × Nat)} (hp : pcOk ps) (a z : Nat) (h : pcL ps ≤ 8 * a) : Bt (pcN ps + z * 2 ^ (8 * a)) m 0 ps :=
  Bt.of (z * 2 ^ (8 * a - pcL ps)) (by rw [Nat.mul_assoc, ← Nat.pow_add, show 8 * a - pcL ps + pcL ps = 8 * a by omega]) hp

theorem pcN_lt8 {ps : List (Nat × Nat)} (hp : pcOk ps) : pcN ps < 2 ^ (8 * ((pcL ps + 7) / 8)) :=
  Nat.lt_of_lt_of_le (pcN_lt ps hp) (Nat.pow_le_pow_right (by omega) (by omega))

end Go.Proofs.YtcgjmkcigmmjjaaGreatDoor
