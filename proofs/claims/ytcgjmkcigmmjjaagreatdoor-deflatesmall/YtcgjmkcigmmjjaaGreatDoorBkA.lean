/-
  Plain numbers: what holds of a decoder's state.
-/
import Derived.WalkKit
import Derived.WalkSpells
import Derived.WalkLawsBesides
import Derived.Laws.BitsAllLaws
import Derived.Laws.AppendOwnNone
import Derived.Test.YtcgjmkcigmmjjaaGreatDoorRows
import Derived.Outline
import Derived.StillTailTactics
import Derived.BigQuiet
import Derived.Deep.QuietTactic
import Derived.OpenShut
import Derived.Laws.CopyOwn
import Derived.Laws.MakeOwn
import Derived.BigRegion
import Derived.Deep.WholeRow
import Derived.Deep.MidRow
import Derived.Deep.OwnRows
import Derived.Orders
import Derived.StillTail
import Derived.Tactics
import Derived.Laws.Tables

namespace Go.Proofs.YtcgjmkcigmmjjaaGreatDoor
open Go.RowKit
theorem wrap64_id (n : Int) (h0 : -9223372036854775808 ≤ n) (h1 : n ≤ 9223372036854775807) : wrap64 n = n := IntWalk.wrap64_in n ⟨h0, h1⟩

theorem pow_le_24 (n : Nat) (h : n ≤ 24) : 2 ^ n ≤ 16777216 := Nat.pow_le_pow_right (n := 2) (by omega) h

theorem ipow_le_24 (n : Nat) (h : n ≤ 24) : (2 : Int) ^ n ≤ 16777216 := by
  have := pow_le_24 n h
  have e : ((2 ^ n : Nat) : Int) = (2 : Int) ^ n := by simp
  omega

theorem ipow_pos (n : Nat) : (1 : Int) ≤ (2 : Int) ^ n := by
  have := Nat.two_pow_pos n
  have e : ((2 ^ n : Nat) : Int) = (2 : Int) ^ n := by simp
  omega

theorem ofInt_i64 (a : Nat) (ha : a < 9223372036854775808) : (BitVec.ofInt 64 (a : Int)).toNat = a := by
  rw [BitVec.ofInt_natCast, BitVec.toNat_ofNat]; exact Nat.mod_eq_of_lt (by omega)

theorem wrap_i64_nat (a : Nat) (ha : a < 9223372036854775808) : IntKind.i64.wrap (a : Int) = (a : Int) := by
  simp [IntKind.wrap, IntKind.bits, IntKind.signed]; omega

theorem wrap_i64_id (n : Int) (h0 : -9223372036854775808 ≤ n) (h1 : n ≤ 9223372036854775807) : IntKind.i64.wrap n = n := by
  simp [IntKind.wrap, IntKind.bits, IntKind.signed]; omega

theorem i64_and_nat (a b : Nat) (ha : a < 9223372036854775808) (hb : b < 9223372036854775808) : bits .and .i64 (a : Int) (b : Int) = ((a &&& b : Nat) : Int) := by
  show IntKind.i64.wrap ((BitVec.ofInt 64 (a : Int) &&& BitVec.ofInt 64 (b : Int)).toNat : Int) = _
  rw [BitVec.toNat_and, ofInt_i64 a ha, ofInt_i64 b hb]
  exact wrap_i64_nat _ (Nat.lt_of_le_of_lt Nat.and_le_left ha)

theorem i64_or_nat (a b : Nat) (ha : a < 9223372036854775808) (hb : b < 9223372036854775808) : bits .or .i64 (a : Int) (b : Int) = ((a ||| b : Nat) : Int) := by
  show IntKind.i64.wrap ((BitVec.ofInt 64 (a : Int) ||| BitVec.ofInt 64 (b : Int)).toNat : Int) = _
  rw [BitVec.toNat_or, ofInt_i64 a ha, ofInt_i64 b hb]
  exact wrap_i64_nat _ (Nat.or_lt_two_pow (n := 63) ha hb)

/-- 'v & (1<<n - 1)'. -/
theorem i64_mask (v : Int) (n : Nat) (h0 : 0 ≤ v) (h1 : v ≤ 9223372036854775807) (hn : n ≤ 24) :
    bits .and .i64 v (wrap64 (wrap64 (2 ^ n) - 1)) = v % 2 ^ n := by
  have p1 := ipow_pos n
  have p2 := ipow_le_24 n hn
  have q1 := Nat.two_pow_pos n
  have q2 := pow_le_24 n hn
  rw [wrap64_id (2 ^ n) (by omega) (by omega), wrap64_id _ (by omega) (by omega)]
  obtain ⟨a, rfl⟩ := Int.eq_ofNat_of_zero_le h0
  have e : ((2 : Int) ^ n - 1) = ((2 ^ n - 1 : Nat) : Int) := by
    rw [Int.natCast_sub (by omega)]; simp
  rw [e, i64_and_nat a _ (by omega) (by omega), Nat.and_two_pow_sub_one_eq_mod]
  simp

theorem i64_and1 (v : Int) (h0 : 0 ≤ v) (h1 : v ≤ 9223372036854775807) : bits .and .i64 v 1 = v % 2 := by
  obtain ⟨a, rfl⟩ := Int.eq_ofNat_of_zero_le h0
  have := i64_and_nat a 1 (by omega) (by omega)
  rw [Nat.and_one_is_mod] at this
  simpa using this

/-- The first m bytes of a number, the lowest first. -/
def bytesOf (N m : Nat) : List Nat := (List.range m).map fun i => N / 2 ^ (8 * i) % 256

theorem bytesOf_length (N m : Nat) : (bytesOf N m).length = m := by simp [bytesOf]

theorem bytesOf_getD (N m i : Nat) (h : i < m) : (bytesOf N m).getD i 0 = N / 2 ^ (8 * i) % 256 := by
  simp [bytesOf, List.getD, h]

theorem bytesOf_get? (N m i : Nat) (h : i < m) : (bytesOf N m)[i]? = some (N / 2 ^ (8 * i) % 256) := by
  simp [bytesOf, h]

theorem bytesOf_succ (N m : Nat) : bytesOf N (m + 1) = bytesOf N m ++ [N / 2 ^ (8 * m) % 256] := by
  simp [bytesOf, List.range_succ]

/-- Bytes that lie wholly below bit L don't see what is laid from L on. -/
theorem byte_low (N x L i : Nat) (h : 8 * i + 8 ≤ L) : (N + x * 2 ^ L) / 2 ^ (8 * i) % 256 = N / 2 ^ (8 * i) % 256 := by
  obtain ⟨d, rfl⟩ : ∃ d, L = 8 * i + 8 + d := ⟨L - (8 * i + 8), by omega⟩
  have e : x * 2 ^ (8 * i + 8 + d) = (256 * (x * 2 ^ d)) * 2 ^ (8 * i) := by
    rw [Nat.pow_add, Nat.pow_add]
    have : (2 : Nat) ^ 8 = 256 := by decide
    rw [this]
    ac_rfl
  rw [e, Nat.add_mul_div_right _ _ (Nat.two_pow_pos _), Nat.add_mul_mod_self_left]

theorem bytesOf_low (N x L m : Nat) (h : 8 * m ≤ L) : bytesOf (N + x * 2 ^ L) m = bytesOf N m := by
  simp only [bytesOf]
  refine List.map_congr_left fun i hi => ?_
  exact byte_low N x L i (by have := List.mem_range.1 hi; omega)

theorem lt_of_pow {N L x n : Nat} (hN : N < 2 ^ L) (hx : x < 2 ^ n) : N + x * 2 ^ L < 2 ^ (L + n) := by
  rw [Nat.pow_add, Nat.mul_comm (2 ^ L)]
  have : (x + 1) * 2 ^ L ≤ 2 ^ n * 2 ^ L := Nat.mul_le_mul_right _ hx
  rw [Nat.add_mul] at this
  omega

/-- A byte that begins at bit 8q where r bits are laid (r < 8) and k more come (r + k at most 8). -/
theorem byte_mid (N x q r k : Nat) (hN : N < 2 ^ (8 * q + r)) (hx : x < 2 ^ k) (hrk : r + k ≤ 8) :
    (N + x * 2 ^ (8 * q + r)) / 2 ^ (8 * q) % 256 = N / 2 ^ (8 * q) % 256 ||| (x * 2 ^ r) % 256 := by
  have e1 : (N + x * 2 ^ (8 * q + r)) / 2 ^ (8 * q) = N / 2 ^ (8 * q) + x * 2 ^ r := by
    rw [Nat.pow_add, Nat.mul_comm (2 ^ (8 * q)), ← Nat.mul_assoc, Nat.add_mul_div_right _ _ (Nat.two_pow_pos _)]
  have hr : N / 2 ^ (8 * q) < 2 ^ r := by
    rw [Nat.div_lt_iff_lt_mul (Nat.two_pow_pos _), ← Nat.pow_add, Nat.add_comm r]; exact hN
  have h8 : (2 : Nat) ^ r * 2 ^ k ≤ 256 := by
    rw [← Nat.pow_add]; exact Nat.pow_le_pow_right (n := 2) (by omega) hrk
  have hk0 := Nat.two_pow_pos k
  have hr0 := Nat.two_pow_pos r
  have hxx : x * 2 ^ r + 2 ^ r ≤ 256 := by
    have : (x + 1) * 2 ^ r ≤ 2 ^ k * 2 ^ r := Nat.mul_le_mul_right _ hx
    rw [Nat.add_mul, Nat.mul_comm (2 ^ k)] at this
    omega
  rw [e1, Nat.mod_eq_of_lt (by omega : N / 2 ^ (8 * q) < 256), Nat.mod_eq_of_lt (by omega : x * 2 ^ r < 256), Nat.mod_eq_of_lt (by omega : N / 2 ^ (8 * q) + x * 2 ^ r < 256)]
  have := Nat.two_pow_add_eq_or_of_lt hr x
  rw [Nat.mul_comm, Nat.add_comm] at this
  rw [this, Nat.or_comm, Nat.mul_comm]

end Go.Proofs.YtcgjmkcigmmjjaaGreatDoor

namespace Go.Proofs.YtcgjmkcigmmjjaaGreatDoor
open Go.RowKit
/-- w' is w but for the blocks of S and for new ones. -/
structure Step (S : Nat → Prop) (w w' : World) : Prop where
  os : w'.os = w.os
  tape : w'.tape = w.tape
  output : w'.output = w.output
  size : w.heap.size ≤ w'.heap.size
  block : ∀ k, k < w.heap.size → ¬ S k → w'.heap[k]? = w.heap[k]?

theorem Step.refl (S : Nat → Prop) (w : World) : Step S w w := ⟨rfl, rfl, rfl, Nat.le_refl _, fun _ _ _ => rfl⟩

theorem Step.trans {S T : Nat → Prop} {a b c : World} (h : Step S a b) (k : Step T b c) (hT : ∀ i, T i → S i ∨ a.heap.size ≤ i) : Step S a c :=
  ⟨k.os.trans h.os, k.tape.trans h.tape, k.output.trans h.output, Nat.le_trans h.size k.size, fun i hi hn =>
    (k.block i (Nat.lt_of_lt_of_le hi h.size) (fun t => by rcases hT i t with s | s; exact hn s; omega)).trans (h.block i hi hn)⟩

theorem Step.mono {S T : Nat → Prop} {a b : World} (h : Step S a b) (hT : ∀ i, S i → T i) : Step T a b :=
  ⟨h.os, h.tape, h.output, h.size, fun i hi hn => h.block i hi fun s => hn (hT i s)⟩

theorem Step.drew {S : Nat → Prop} {a w : World} (h : Step S a w) : Step S a w.drew := ⟨h.os, h.tape, h.output, h.size, h.block⟩

theorem Step.drewN {S : Nat → Prop} {a w : World} (h : Step S a w) (n : Nat) : Step S a (w.drewN n) := ⟨h.os, h.tape, h.output, h.size, h.block⟩

theorem Step.alloc {S : Nat → Prop} {a w : World} (h : Step S a w) (o : Obj) : Step S a (w.alloc o) :=
  ⟨h.os, h.tape, h.output, Nat.le_trans h.size (by simp), fun k hk hn => (Below.heap_alloc w o k (Nat.lt_of_lt_of_le hk h.size)).trans (h.block k hk hn)⟩

theorem Step.setCell {S : Nat → Prop} {a w : World} (h : Step S a w) (p : Addr) (u : Value) (hp : S p.block ∨ a.heap.size ≤ p.block) : Step S a (w.setCell p u) :=
  ⟨h.os, h.tape, h.output, Nat.le_trans h.size (by simp [World.setCell]), fun k hk hn =>
    (Below.heap_setCell w p u k (fun e => by subst e; rcases hp with s | s; exact hn s; omega)).trans (h.block k hk hn)⟩

theorem Step.grown {S : Nat → Prop} {a w w' : World} {row : Option Nat} (h : Step S a w) (hg : w.grownBy w' row) (hr : ∀ k, row = some k → S k ∨ a.heap.size ≤ k) : Step S a w' :=
  ⟨hg.os.trans h.os, hg.tape.trans h.tape, hg.output.trans h.output, Nat.le_trans h.size hg.size, fun k hk hn =>
    (hg.block k (Nat.lt_of_lt_of_le hk h.size) (fun e => by rcases hr k e.symm with s | s; exact hn s; omega)).trans (h.block k hk hn)⟩

theorem Step.below {S : Nat → Prop} {a w : World} (h : Step S a w) (B : Nat) (hB : B ≤ a.heap.size) (hS : ∀ k, S k → B ≤ k) : Below B a w :=
  ⟨h.os, h.tape, h.output, h.size, fun k hk => h.block k (by omega) fun s => by have := hS k s; omega⟩

theorem Step.cell {S : Nat → Prop} {w w' : World} (h : Step S w w') {p : Addr} {v : Value} (hc : w.cell? p = some v) (hS : ¬ S p.block) : w'.cell? p = some v :=
  (World.cell?_of_block (h.block p.block (World.block_lt_of_cell? w p hc) hS)).trans hc

theorem Step.cell' {S : Nat → Prop} {w w' : World} (h : Step S w w') {p : Addr} (hp : p.block < w.heap.size) (hS : ¬ S p.block) : w'.cell? p = w.cell? p :=
  World.cell?_of_block (h.block p.block hp hS)

theorem Step.frozen {S : Nat → Prop} {w w' : World} (h : Step S w w') {p : Addr} (hp : p.block < w.heap.size) (hS : ¬ S p.block) : w'.frozen? p = w.frozen? p :=
  World.frozen?_of_block (h.block p.block hp hS)

/-- What is owned stays owned while other blocks are turned. -/
theorem owns_step {S : Nat → Prop} {w w' : World} {e : TypeId} {size n : Nat} {v : Value} {xs : List Value} (h : w.ownsRow 0 e size v n xs) (hs : Step S w w') (hS : ∀ k, v.ownBlock = some k → ¬ S k) : w'.ownsRow 0 e size v n xs := by
  refine ⟨h.1, ?_⟩
  rcases h.2 with hn | ⟨g, cap, cur, rfl, hb, hgg, rest⟩
  · exact .inl hn
  · refine .inr ⟨g, cap, cur, rfl, hb, ?_, rest⟩
    rw [hs.block g (Array.getElem?_eq_some_iff.1 hgg).1 (hS g rfl)]
    exact hgg

theorem own_slice {w : World} {e n size : Nat} {v : Value} {xs : List Value} (h : w.ownsRow 0 e size v n xs) : ∃ ao cap, v = .slice ao n cap := by
  rcases h.2 with ⟨h1, h2⟩ | ⟨g, cap, cur, h1, _⟩
  · exact ⟨none, 0, by rw [h1, h2]⟩
  · exact ⟨_, _, h1⟩

/-- An append to a row of the call's own: where the row then lies. -/
theorem append_own {P : Program} (w : World) (t ty e : TypeId) (i : TypeInfo) (z : Value) (size bytes : Nat) (ht : P.underlying t = some (.slice e)) (hi : P.info? e = some i) (hz : i.zero = some z)
    (hsize : i.size = size) (hby : i.bytes = bytes) (hzs : z.cells.size = size) (hsz : 0 < size)
    (v : Value) (n : Nat) (xs : List Value) (hown : w.ownsRow 0 e size v n xs)
    (a : Addr) (m c : Nat) (news : List Value) (hl : news.length = m * size) (hnews : ∀ j u, news[j]? = some u → w.cell? (a.add j) = some u) (h1 : ∀ u ∈ news, u.oneCell' = true)
    (h63 : n + m ≤ maxLen) (hbytes : (n + m) * bytes ≤ 140737488355328) :
    ∃ v' w', (Builtin.append_ #[t, t] ty #[v, .slice (some a) m c]).run P w = .ok v' w' ∧ w'.ownsRow 0 e size v' (n + m) (xs ++ news) ∧ w.grownBy w' v.ownBlock ∧
      (v' = .slice none 0 0 ↔ v = .slice none 0 0 ∧ m = 0) ∧ (v'.ownBlock = v.ownBlock ∨ v'.ownBlock = some w.heap.size) := by
  obtain ⟨v', w', hr, h2, h3, h4⟩ := run_append_own (P := P) w 0 t ty e i z size bytes ht hi hz hsize hby hzs hsz v n xs hown a m c news hl hnews h1 h63 hbytes (Nat.zero_le _)
  refine ⟨v', w', hr, h2, h3, h4, ?_⟩
  have h63' : n + m ≤ 9223372036854775807 := by simp only [maxLen] at h63; omega
  subst hsize
  subst hby
  rcases hown.2 with ⟨rfl, rfl⟩ | ⟨g, cap, cur, rfl, hbg, hg, hnc, hcm, hcs, htake⟩
  · by_cases hm : m = 0
    · left
      rw [h4.2 ⟨rfl, hm⟩]
    · right
      have hr' := run_append_nil (P := P) w t ty e i z ht hi hz a m c news hl hnews (by omega) (by omega) (by have hb := hbytes; simp only [Nat.zero_add] at hb; omega)
      rw [hr'] at hr
      injection hr with hv _
      rw [← hv]; rfl
  · by_cases hroom : n + m ≤ cap
    · left
      have hfit : n * i.size + news.length ≤ cur.size := by rw [hl, hcs, ← Nat.add_mul]; exact Nat.mul_le_mul_right _ hroom
      have hr' := run_append_room (P := P) w t ty e i ht hi g n cap cur hg a m c news hl hnews h1 hroom hfit
      rw [hr'] at hr
      injection hr with hv _
      rw [← hv]; rfl
    · right
      have holds : ∀ j u, xs[j]? = some u → w.cell? ((⟨g, 0, none⟩ : Addr).add j) = some u := hown.cells (g := g) rfl
      have hr' := run_append_grow (P := P) w t ty e i z ht hi hz ⟨g, 0, none⟩ n cap xs hown.1 holds a m c news hl hnews (by omega) (by omega) (growslice_fits (by omega) hbytes)
      rw [hr'] at hr
      injection hr with hv _
      rw [← hv]; rfl

theorem wpList_append_at {P : Program} (w : World) {ops : Array Oper} {rest : List Oper} {o : Oper} {a : Act} {Q : Exit → Act → World → Prop} (hgd : o.guard = none) (s x : Operand) (t : TypeId)
    (ho : o.op = .call { callee := .builtin .append, args := #[s, x], argTypes := #[t, t] })
    (e : TypeId) (i : TypeInfo) (z : Value) (size bytes : Nat) (ht : P.underlying t = some (.slice e)) (hi : P.info? e = some i) (hz : i.zero = some z)
    (hsize : i.size = size) (hby : i.bytes = bytes) (hzs : z.cells.size = size) (hsz : 0 < size)
    (v : Value) (n : Nat) (xs : List Value) (hs : a.eval s = v) (hown : w.ownsRow 0 e size v n xs)
    (ad : Addr) (m c : Nat) (news : List Value) (hx : a.eval x = .slice (some ad) m c) (hl : news.length = m * size) (hnews : ∀ j u, news[j]? = some u → w.cell? (ad.add j) = some u) (h1 : ∀ u ∈ news, u.oneCell' = true)
    (h63 : n + m ≤ maxLen) (hbytes : (n + m) * bytes ≤ 140737488355328)
    (h : ∀ v' w', w'.ownsRow 0 e size v' (n + m) (xs ++ news) → w.grownBy w' v.ownBlock → (v' = .slice none 0 0 ↔ v = .slice none 0 0 ∧ m = 0) → (v'.ownBlock = v.ownBlock ∨ v'.ownBlock = some w.heap.size) →
      wpList P ops Q rest (a.put o.dst v') w') : wpList P ops Q (o :: rest) a w := by
  refine wpList_plain hgd fun K hK' => ?_
  obtain ⟨v', w', hr, h2, h3, h4, h5⟩ := append_own (P := P) w t o.type e i z size bytes ht hi hz hsize hby hzs hsz v n xs hown ad m c news hl hnews h1 h63 hbytes
  unfold Oper.wp
  simp [execOp, ho, resolve, invoke, builtin, hs, hx, hr, Result.andThen]
  exact hK' _ _ (h v' w' h2 h3 h4 h5)

/-- The same, where what is appended is a value that only then is seen to be such a slice. -/
theorem wpList_append_val {P : Program} (w : World) {ops : Array Oper} {rest : List Oper} {o : Oper} {a : Act} {Q : Exit → Act → World → Prop} (hgd : o.guard = none) (s x : Operand) (t : TypeId)
    (ho : o.op = .call { callee := .builtin .append, args := #[s, x], argTypes := #[t, t] })
    (e : TypeId) (i : TypeInfo) (z : Value) (size bytes : Nat) (ht : P.underlying t = some (.slice e)) (hi : P.info? e = some i) (hz : i.zero = some z)
    (hsize : i.size = size) (hby : i.bytes = bytes) (hzs : z.cells.size = size) (hsz : 0 < size)
    (v : Value) (n : Nat) (xs : List Value) (hs : a.eval s = v) (hown : w.ownsRow 0 e size v n xs)
    (ad : Addr) (m c : Nat) (news : List Value) (xv : Value) (hx : a.eval x = xv) (hxv : xv = .slice (some ad) m c) (hl : news.length = m * size) (hnews : ∀ j u, news[j]? = some u → w.cell? (ad.add j) = some u) (h1 : ∀ u ∈ news, u.oneCell' = true)
    (h63 : n + m ≤ maxLen) (hbytes : (n + m) * bytes ≤ 140737488355328)
    (h : ∀ v' w', w'.ownsRow 0 e size v' (n + m) (xs ++ news) → w.grownBy w' v.ownBlock → (v' = .slice none 0 0 ↔ v = .slice none 0 0 ∧ m = 0) → (v'.ownBlock = v.ownBlock ∨ v'.ownBlock = some w.heap.size) →
      wpList P ops Q rest (a.put o.dst v') w') : wpList P ops Q (o :: rest) a w :=
  wpList_append_at w hgd s x t ho e i z size bytes ht hi hz hsize hby hzs hsz v n xs hs hown ad m c news (hx.trans hxv) hl hnews h1 h63 hbytes h

/-- Nothing is appended; the walk stops behind it. -/
theorem wpList_append_stop {P : Program} {w : World} {ops : Array Oper} {rest : List Oper} {o : Oper} {a : Act} {Q : Exit → Act → World → Prop} (hgd : o.guard = none) (s x : Operand) (t : TypeId)
    (ho : o.op = .call { callee := .builtin .append, args := #[s, x], argTypes := #[t, t] })
    (e : TypeId) (i : TypeInfo) (size : Nat) (ht : P.underlying t = some (.slice e)) (hi : P.info? e = some i)
    (v : Value) (n : Nat) (xs : List Value) (hs : a.eval s = v) (hown : w.ownsRow 0 e size v n xs) (hx : a.eval x = .slice none 0 0)
    (h : Hid (wpList P ops Q rest (a.put o.dst v) w)) : wpList P ops Q (o :: rest) a w :=
  wpList_append_own_none hgd s x t ho 0 e i size ht hi v n xs hs hown hx h

end Go.Proofs.YtcgjmkcigmmjjaaGreatDoor

namespace Go.Proofs.YtcgjmkcigmmjjaaGreatDoor
open Go.RowKit
theorem Tryz.mixed : Tryz.prog.follows .mixedOrders = true := by kernel_rfl

theorem hidden {p : Prop} (h : p) : Hid p := h

/-- Bytes as cells. -/
def u8s (bs : List Nat) : List Value := bs.map fun (x : Nat) => Value.int .u8 (x : Int)

theorem Tryz.info5 : (Tryz.prog.info? 5).map (fun i => (i.zero, i.size, i.bytes)) = some (some (.int .u8 0), 1, 1) := by kernel_rfl

theorem u8s_get? (bs : List Nat) (i : Nat) : (u8s bs)[i]? = bs[i]?.map fun (x : Nat) => Value.int .u8 (x : Int) := by simp [u8s]

theorem u8s_length (bs : List Nat) : (u8s bs).length = bs.length := by simp [u8s]

theorem u8s_append (a b : List Nat) : u8s (a ++ b) = u8s a ++ u8s b := by simp [u8s]

theorem u8s_one (bs : List Nat) : ∀ u ∈ u8s bs, u.oneCell' = true := by
  intro u hu
  obtain ⟨_, _, rfl⟩ := List.mem_map.1 hu
  rfl

/-- The slice v reads as the bytes bs. -/
def Rd (w : World) (v : Value) (bs : List Nat) : Prop :=
  ∃ ao cap, v = .slice ao bs.length cap ∧ (ao = none → bs = [] ∧ cap = 0) ∧
    ∀ a, ao = some a → bs ≠ [] → ∃ b off, a = ⟨b, off, none⟩ ∧ ∀ k, k < bs.length → w.cell? ⟨b, off + k, none⟩ = some (.int .u8 ((bs.getD k 0 : Nat) : Int))

theorem Rd.of_own {w : World} {v : Value} {n : Nat} {bs : List Nat} (h : w.ownsRow 0 5 1 v n (u8s bs)) : Rd w v bs := by
  have hl := h.1
  rw [u8s_length, Nat.mul_one] at hl
  rcases h.2 with ⟨rfl, rfl⟩ | ⟨g, cap, cur, rfl, _, hg, _⟩
  · refine ⟨none, 0, by rw [hl], fun _ => ⟨List.eq_nil_of_length_eq_zero hl, rfl⟩, fun a h => by cases h⟩
  · refine ⟨some ⟨g, 0, none⟩, cap, by rw [hl], (fun h => by cases h), fun a ha _ => ⟨g, 0, (Option.some.inj ha).symm, fun k hk => ?_⟩⟩
    rw [Nat.zero_add, h.cellAt k (by omega), u8s_get?]
    simp [List.getD, hk]

theorem Rd.step {S : Nat → Prop} {w w' : World} {v : Value} {bs : List Nat} (h : Rd w v bs) (hs : Step S w w') (hS : ∀ a n c, v = .slice (some a) n c → bs ≠ [] → ¬ S a.block) : Rd w' v bs := by
  obtain ⟨ao, cap, rfl, h1, h2⟩ := h
  refine ⟨ao, cap, rfl, h1, fun a ha hb => ?_⟩
  obtain ⟨b, off, rfl, hc⟩ := h2 a ha hb
  subst ha
  exact ⟨b, off, rfl, fun k hk => hs.cell (hc k hk) (hS ⟨b, off, none⟩ _ _ rfl hb)⟩

theorem Rd.slot {w : World} {ao : Option Addr} {n cap : Nat} {bs : List Nat} (h : Rd w (.slice ao n cap) bs) : n = bs.length := by
  obtain ⟨_, _, h, _⟩ := h
  injection h

theorem Rd.news {w : World} {a : Addr} {n cap : Nat} {B : List Nat} (h : Rd w (.slice (some a) n cap) B) : ∀ j u, (u8s B)[j]? = some u → w.cell? (a.add j) = some u := by
  obtain ⟨ao, c, e, h1, h2⟩ := h
  injection e with e1
  intro j u hu
  have hne : B ≠ [] := by intro e; subst e; simp [u8s] at hu
  obtain ⟨b, off, rfl, hc⟩ := h2 a e1.symm hne
  have hj : j < B.length := by
    have := (List.getElem?_eq_some_iff.1 hu).1
    rwa [u8s_length] at this
  rw [Addr.add_lit, hc j hj, ← hu, u8s_get?]
  simp [List.getD, hj]

theorem rd_of_ints {w : World} {x : Addr} {len cap : Nat} {zs : List Int} (hl : len ≤ cap) (hz : zs.length = cap) (hc : ∀ i, i < zs.length → w.cell? (x.add i) = some (.int .u8 (zs.getD i 0)))
    (hw : ∀ n ∈ zs, (Lit.int .u8 n).wf = true) : ∃ B : List Nat, B.length = len ∧ Rd w (.slice (some x) B.length cap) B ∧ (∀ y ∈ B, y < 256) ∧ (zs.take len = B.map fun (y : Nat) => (y : Int)) := by
  have hlen : ((zs.take len).map Int.toNat).length = len := by simp; omega
  refine ⟨(zs.take len).map Int.toNat, hlen, ⟨some x, cap, rfl, fun h => (by cases h), fun a ha hne => ?_⟩, ?_, ?_⟩
  · have hp : 0 < len := by
      rcases Nat.eq_zero_or_pos len with h | h
      · exact absurd (List.eq_nil_of_length_eq_zero (by omega)) hne
      · exact h
    obtain ⟨b, off, rfl, hcl⟩ := ints_at hc (by omega)
    refine ⟨b, off, (Option.some.inj ha).symm, fun k hk => ?_⟩
    rw [hlen] at hk
    rw [hcl k (by omega)]
    have hk2 : k < zs.length := by omega
    have hb := bounds_u8 (hw zs[k] (List.getElem_mem hk2))
    simp [List.getD, hk2, hk]
    omega
  · intro y hy
    obtain ⟨z, hz1, rfl⟩ := List.mem_map.1 hy
    have hb := bounds_u8 (hw z (List.mem_of_mem_take hz1))
    omega
  · rw [List.map_map]
    symm
    rw [List.map_congr_left (g := id)]
    · simp
    · intro z hz1
      have hb := bounds_u8 (hw z (List.mem_of_mem_take hz1))
      simp; omega

theorem rd_none (w : World) : Rd w (.slice none ([] : List Nat).length 0) [] := ⟨none, 0, rfl, fun _ => ⟨rfl, rfl⟩, fun a h => (by cases h)⟩

theorem Step.made {w w1 w2 : World} (h : Step (fun _ => False) w w1) (h2 : Step (fun _ => False) w1 w2) : Step (fun _ => False) w w2 := h.trans h2 (fun _ hi => hi.elim)

theorem Rd.lit (w : World) (x : Nat) : Rd (w.alloc (.cells #[.int .u8 (x : Int)] 5)) (.slice (some ⟨w.heap.size, 0, none⟩) 1 1) [x] := by
  refine ⟨some ⟨w.heap.size, 0, none⟩, 1, rfl, fun h => (by cases h), fun a ha _ => ⟨w.heap.size, 0, (Option.some.inj ha).symm, fun k hk => ?_⟩⟩
  have : k = 0 := by simp at hk; omega
  subst this
  simp

theorem eq_of_getD {A B : List Nat} (hl : A.length = B.length) (h : ∀ j, j < A.length → A.getD j 0 = B.getD j 0) : A = B := by
  apply List.ext_getElem hl
  intro j h1 h2
  have := h j h1
  simpa [List.getD, h1, h2] using this

end Go.Proofs.YtcgjmkcigmmjjaaGreatDoor

namespace Go.Proofs.YtcgjmkcigmmjjaaGreatDoor
open Go.RowKit
set_option maxRecDepth 100000
set_option linter.unusedVariables false
set_option maxHeartbeats 400000 in
theorem lowest_any (v n : Int) (w : World) (hv : 0 ≤ v) (hv2 : v ≤ 9223372036854775807) (hn : 0 ≤ n) (hn2 : n ≤ 24) :
    Calls Tryz.prog 94 #[.int .i64 v, .int .i64 n] w fun e w' => e = .returned (.int .i64 (v % 2 ^ n.toNat)) ∧ w' = w := by
  have hm := i64_mask v n.toNat hv hv2 (by omega)
  go_enter Tryz.func94, Tryz.ntmps94
  go_wp2
  go_ret
  refine ⟨?_, rfl⟩
  rw [← hm]; rfl

set_option maxHeartbeats 400000 in
theorem fresh_any (v : Value) (bs : List Nat) (w : World) (h : Rd w v bs) (hl : bs.length ≤ 137438953600) :
    Calls Tryz.prog 40 #[v] w fun e w' => ∃ v', e = .returned v' ∧ w'.ownsRow 0 5 1 v' bs.length (u8s bs) ∧ Step (fun _ => False) w w' ∧ (v'.ownBlock = none ∨ v'.ownBlock = some w.heap.size) := by
  obtain ⟨i0, hi, hz0, hz1, hz2⟩ := info_parts Tryz.info5
  obtain ⟨ao, cap, rfl, h1, h2⟩ := h
  have hm : bs.length ≤ maxLen := by unfold maxLen; omega
  cases ao with
  | none =>
    obtain ⟨rfl, rfl⟩ := h1 rfl
    go_enter Tryz.func40, Tryz.ntmps40
    go_wp2
    go_ret
    exact ⟨_, rfl, World.ownsRow_nil _ _ _ _, Step.refl _ _, .inl rfl⟩
  | some a =>
    have hc : ∀ j u, (u8s bs)[j]? = some u → w.cell? (a.add j) = some u := by
      intro j u hu
      have hne : bs ≠ [] := by intro e; subst e; simp [u8s] at hu
      obtain ⟨b, off, rfl, hcell⟩ := h2 a rfl hne
      have hj : j < bs.length := by
        have := (List.getElem?_eq_some_iff.1 hu).1
        rwa [u8s_length] at this
      rw [Addr.add_lit, hcell j hj, ← hu, u8s_get?]
      simp [List.getD, hj]
    go_enter Tryz.func40, Tryz.ntmps40
    go_wp2_with (at_builtin; refine wpList_append_at _ rfl _ _ 22 rfl 5 i0 (.int .u8 0) 1 1 Tryz.underlying22 hi hz0 hz1 hz2 rfl (by decide) _ 0 [] rfl (World.ownsRow_nil _ _ _ _) a bs.length cap (u8s bs) rfl (by simp [u8s_length]) hc (u8s_one _) (by omega) (by omega) ?_)
    intro v' w1 hown' hgrow hnil hv'
    have H := hidden (show w1.ownsRow 0 5 1 v' bs.length (u8s bs) ∧ Step (fun _ => False) w w1 ∧ (v'.ownBlock = none ∨ v'.ownBlock = some w.heap.size) from
      ⟨by simpa using hown', (Step.refl _ _).grown hgrow (fun k hk => by simp [Value.ownBlock] at hk), hv'⟩)
    clear hown' hgrow hnil hv' hc h1 h2
    go_wp2
    go_ret
    exact ⟨_, rfl, H.out⟩

/-- The Reader in block b reads the first m bytes of the number M, in the row s; so many bits are taken. -/
structure Rr (w : World) (b : Nat) (s : Value) (M m t : Nat) : Prop where
  ins : w.cell? ⟨b, 0, none⟩ = some s
  at_ : w.cell? ⟨b, 1, none⟩ = some (.int .i64 (t : Int))
  f1 : w.frozen? ⟨b, 1, none⟩ = false
  own : w.ownsRow 0 5 1 s m (u8s (bytesOf M m))
  ne : s.ownBlock ≠ some b
  le : t ≤ 8 * m

theorem Rr.step {S : Nat → Prop} {w w' : World} {b : Nat} {s : Value} {M m t : Nat} (R : Rr w b s M m t) (hs : Step S w w') (h1 : ¬ S b) (h2 : ∀ k, s.ownBlock = some k → ¬ S k) : Rr w' b s M m t := by
  have hb : b < w.heap.size := World.block_lt_of_cell? w _ R.ins
  exact ⟨hs.cell R.ins h1, hs.cell R.at_ h1, (hs.frozen (p := ⟨b, 1, none⟩) hb h1).trans R.f1, owns_step R.own hs h2, R.ne, R.le⟩

theorem fresh_n (v : Value) (M m : Nat) (w : World) (h : Rd w v (bytesOf M m)) (hm : m ≤ 137438953600) :
    Calls Tryz.prog 40 #[v] w fun e w' => ∃ v', e = .returned v' ∧ w'.ownsRow 0 5 1 v' m (u8s (bytesOf M m)) ∧ Step (fun _ => False) w w' ∧ (v'.ownBlock = none ∨ v'.ownBlock = some w.heap.size) := by
  have H := fresh_any v (bytesOf M m) w h (by rw [bytesOf_length]; exact hm)
  rw [bytesOf_length] at H
  exact H

/-- Bits of one byte of a number are bits of the number. -/
theorem byte_bits (M q u k : Nat) (h : u + k ≤ 8) : M / 2 ^ (8 * q) % 256 / 2 ^ u % 2 ^ k = M / 2 ^ (8 * q + u) % 2 ^ k := by
  have e : (256 : Nat) = 2 ^ u * 2 ^ (8 - u) := by rw [← Nat.pow_add, show u + (8 - u) = 8 by omega]
  rw [e, Nat.mod_mul_right_div_self, Nat.div_div_eq_div_mul, ← Nat.pow_add]
  have e2 : (2 : Nat) ^ (8 - u) = 2 ^ k * 2 ^ (8 - u - k) := by rw [← Nat.pow_add, show k + (8 - u - k) = 8 - u by omega]
  rw [e2, Nat.mod_mul_right_mod]

theorem mod_step (A g k : Nat) : A % 2 ^ g ||| (A / 2 ^ g % 2 ^ k) * 2 ^ g = A % 2 ^ (g + k) := by
  rw [Nat.pow_add, Nat.mod_mul]
  have := Nat.two_pow_add_eq_or_of_lt (Nat.mod_lt A (Nat.two_pow_pos g)) (A / 2 ^ g % 2 ^ k)
  rw [Nat.add_comm, this, Nat.or_comm, Nat.mul_comm]

theorem get_or (M t d T k : Nat) (hT : t + d = T) (hk : k ≤ 8 - T % 8) (hd : d + k ≤ 24) :
    bits BinOp.or IntKind.i64 ((M / 2 ^ t % 2 ^ d : Nat) : Int) (wrap64 (((M / 2 ^ (8 * (T / 8)) % 256 : Nat) : Int) / 2 ^ (T % 8) % 2 ^ k * 2 ^ d)) = ((M / 2 ^ t % 2 ^ (d + k) : Nat) : Int) := by
  have e1 : (((M / 2 ^ (8 * (T / 8)) % 256 : Nat) : Int) / 2 ^ (T % 8) % 2 ^ k * 2 ^ d) = ((M / 2 ^ (8 * (T / 8)) % 256 / 2 ^ (T % 8) % 2 ^ k * 2 ^ d : Nat) : Int) := by simp
  have h8 : 8 * (T / 8) + T % 8 = T := by omega
  rw [e1, byte_bits M (T / 8) (T % 8) k (by omega), h8]
  have hlt : M / 2 ^ T % 2 ^ k * 2 ^ d < 2 ^ k * 2 ^ d := Nat.mul_lt_mul_of_pos_right (Nat.mod_lt _ (Nat.two_pow_pos _)) (Nat.two_pow_pos _)
  rw [← Nat.pow_add] at hlt
  have h24 := pow_le_24 (k + d) (by omega)
  have hacc : M / 2 ^ t % 2 ^ d < 2 ^ d := Nat.mod_lt _ (Nat.two_pow_pos _)
  have h24' := pow_le_24 d (by omega)
  rw [wrap64_id _ (by omega) (by omega), i64_or_nat _ _ (by omega) (by omega), ← hT, Nat.pow_add, ← Nat.div_div_eq_div_mul, mod_step]

/-- What a call on a Reader leaves: some bits are taken. -/
def Took (w w' : World) (b : Nat) (s : Value) (M m t : Nat) : Prop := Rr w' b s M m t ∧ Step (fun k => k = b) w w'

theorem Rr.took {w w1 : World} {b : Nat} {s : Value} {M m t t' : Nat} (R : Rr w1 b s M m t) (St : Step (fun k => k = b) w w1) (h : t' ≤ 8 * m) (z : Int) (hz : z = (t' : Int)) : Took w (w1.setCell ⟨b, 1, none⟩ (.int .i64 z)) b s M m t' := by
  have hS : Step (fun k => k = b) w1 (w1.setCell ⟨b, 1, none⟩ (.int .i64 z)) := (Step.refl (fun k => k = b) w1).setCell ⟨b, 1, none⟩ (.int .i64 z) (.inl rfl)
  refine ⟨⟨?_, ?_, ?_, owns_step R.own hS (fun k hk hb => R.ne (by rw [hk, hb])), R.ne, h⟩, St.trans hS (fun i hi => .inl hi)⟩
  · rw [World.cell?_setCell_other _ _ _ _ (by simp)]; exact R.ins
  · rw [World.cell?_setCell_same _ _ _ R.at_, hz]
  · simp [R.f1]

theorem Rr.drewN {w : World} {b : Nat} {s : Value} {M m t : Nat} (R : Rr w b s M m t) (n : Nat) : Rr (w.drewN n) b s M m t := ⟨R.ins, R.at_, R.f1, R.own, R.ne, R.le⟩

theorem Rr.cell {w : World} {b : Nat} {s : Value} {M m t : Nat} (R : Rr w b s M m t) (h : t < 8 * m) :
    ∃ g cap, s = .slice (some ⟨g, 0, none⟩) m cap ∧ w.cell? ⟨g, t / 8, none⟩ = some (.int .u8 ((M / 2 ^ (8 * (t / 8)) % 256 : Nat) : Int)) := by
  rcases R.own.2 with ⟨_, h2⟩ | ⟨g, cap, cur, h1, _⟩
  · omega
  · refine ⟨g, cap, h1, ?_⟩
    have o := R.own
    rw [h1] at o
    rw [o.cellAt (t / 8) (by omega), u8s_get?, bytesOf_get? _ _ _ (by omega)]
    rfl

/-- Bytes as a number, the first the lowest. -/
def numOf : List Nat → Nat
  | [] => 0
  | x :: xs => x + 256 * numOf xs

theorem numOf_lt (B : List Nat) (h : ∀ x ∈ B, x < 256) : numOf B < 2 ^ (8 * B.length) := by
  induction B with
  | nil => simp [numOf]
  | cons x xs ih =>
    have h1 := h x (by simp)
    have h2 := ih (fun y hy => h y (by simp [hy]))
    have e : 2 ^ (8 * (x :: xs).length) = 256 * 2 ^ (8 * xs.length) := by
      rw [List.length_cons, Nat.mul_add, Nat.pow_add]; simp; exact Nat.mul_comm _ _
    rw [e]
    simp only [numOf]
    omega

theorem numOf_append (A B : List Nat) : numOf (A ++ B) = numOf A + numOf B * 2 ^ (8 * A.length) := by
  induction A with
  | nil => simp [numOf]
  | cons x xs ih =>
    have e : 2 ^ (8 * (x :: xs).length) = 256 * 2 ^ (8 * xs.length) := by
      rw [List.length_cons, Nat.mul_add, Nat.pow_add]; simp; exact Nat.mul_comm _ _
    simp only [List.cons_append, numOf, ih, e]
    have : numOf B * (256 * 2 ^ (8 * xs.length)) = 256 * (numOf B * 2 ^ (8 * xs.length)) := by ac_rfl
    omega

theorem bytesOf_cons (x M m : Nat) (h : x < 256) : bytesOf (x + 256 * M) (m + 1) = x :: bytesOf M m := by
  simp only [bytesOf, List.range_succ_eq_map, List.map_cons, List.map_map]
  congr 1
  · simp; omega
  · refine List.map_congr_left fun i _ => ?_
    simp only [Function.comp]
    have e : 2 ^ (8 * i.succ) = 256 * 2 ^ (8 * i) := by
      rw [Nat.succ_eq_add_one, Nat.mul_add, Nat.pow_add]; simp; exact Nat.mul_comm _ _
    rw [e, ← Nat.div_div_eq_div_mul, show (x + 256 * M) / 256 = M by omega]

theorem bytesOf_numOf (B : List Nat) (h : ∀ x ∈ B, x < 256) : bytesOf (numOf B) B.length = B := by
  induction B with
  | nil => rfl
  | cons x xs ih =>
    rw [List.length_cons, numOf, bytesOf_cons _ _ _ (h x (by simp)), ih (fun y hy => h y (by simp [hy]))]

theorem bytesOf_add (N M a c : Nat) (h : N < 2 ^ (8 * a)) : bytesOf (N + M * 2 ^ (8 * a)) (a + c) = bytesOf N a ++ bytesOf M c := by
  rw [← bytesOf_low N M (8 * a) a (Nat.le_refl _)]
  simp only [bytesOf, List.range_add, List.map_append, List.map_map]
  congr 1
  refine List.map_congr_left fun i _ => ?_
  simp only [Function.comp]
  rw [Nat.mul_add, Nat.pow_add, ← Nat.div_div_eq_div_mul, Nat.add_mul_div_right _ _ (Nat.two_pow_pos _), Nat.div_eq_of_lt h, Nat.zero_add]

theorem Rd.sub {w : World} {s : Value} {M m cap : Nat} {ao : Option Addr} (hs : s = .slice ao m cap) (ho : w.ownsRow 0 5 1 s m (u8s (bytesOf M m))) {j n : Nat} (hj : j + n ≤ m) (ao' : Option Addr) (cap' : Nat) (h1 : ao = none → ao' = none ∧ cap' = 0) (h2 : ∀ g, ao = some ⟨g, 0, none⟩ → n ≠ 0 → ao' = some ⟨g, j, none⟩) (h3 : ao ≠ none → ao' ≠ none) :
    Rd w (.slice ao' n cap') (bytesOf (M / 2 ^ (8 * j)) n) := by
  have hl := bytesOf_length (M / 2 ^ (8 * j)) n
  refine ⟨ao', cap', by rw [hl], ?_, ?_⟩
  · intro e
    rcases ho.2 with ⟨e1, e2⟩ | ⟨g, c, cur, e1, _⟩
    · subst hs
      injection e1 with e3 e4 e5
      subst e4
      have : n = 0 := by omega
      subst this
      exact ⟨rfl, (h1 e3).2⟩
    · subst hs
      injection e1 with e3 e4 e5
      exact absurd e (h3 (by rw [e3]; simp))
  · intro a ha hne
    have hn : n ≠ 0 := by intro e; subst e; exact hne rfl
    rcases ho.2 with ⟨e1, e2⟩ | ⟨g, c, cur, e1, _⟩
    · omega
    · subst hs
      injection e1 with e3 e4 e5
      subst e3
      rw [h2 g rfl hn] at ha
      refine ⟨g, j, (Option.some.inj ha).symm, fun k hk => ?_⟩
      rw [hl] at hk
      rw [ho.cellAt (j + k) (by omega), u8s_get?, bytesOf_get? _ _ _ (by omega), bytesOf_getD _ _ _ hk, Nat.div_div_eq_div_mul, ← Nat.pow_add, ← Nat.mul_add]
      rfl

end Go.Proofs.YtcgjmkcigmmjjaaGreatDoor

namespace Go.Proofs.YtcgjmkcigmmjjaaGreatDoor
open Go.RowKit
set_option maxRecDepth 100000
set_option linter.unusedVariables false
/-- How much room a slice has. -/
def capOf : Value → Nat
  | .slice _ _ c => c
  | _ => 0

theorem cap_ge {w : World} {v : Value} {n : Nat} {C : List Nat} (h : w.ownsRow 0 5 1 v n (u8s C)) : n ≤ capOf v := by
  rcases h.2 with ⟨rfl, rfl⟩ | ⟨g, cap, cur, rfl, _, _, hc, _⟩
  · exact Nat.zero_le _
  · exact hc

theorem append_cap {w : World} {ops : Array Oper} {rest : List Oper} {o : Oper} {a : Act} {Q : Exit → Act → World → Prop} (hgd : o.guard = none) (s x : Operand)
    (ho : o.op = .call { callee := .builtin .append, args := #[s, x], argTypes := #[22, 22] })
    (v : Value) (n : Nat) (C : List Nat) (hs : a.eval s = v) (hown : w.ownsRow 0 5 1 v n (u8s C))
    (xv : Value) (B : List Nat) (hx : a.eval x = xv) (hr : Rd w xv B) (hb : n + B.length ≤ 137438953600) (hc : n + B.length ≤ capOf v)
    (h : ∀ v' w', w'.ownsRow 0 5 1 v' (n + B.length) (u8s (C ++ B)) → w.grownBy w' v.ownBlock → v'.ownBlock = v.ownBlock → capOf v' = capOf v → wpList Tryz.prog ops Q rest (a.put o.dst v') w') :
    wpList Tryz.prog ops Q (o :: rest) a w := by
  obtain ⟨i0, hi, hz0, hz1, hz2⟩ := info_parts Tryz.info5
  obtain ⟨ao, cap, e, h1, _⟩ := id hr
  subst e
  cases ao with
  | none =>
    obtain ⟨rfl, rfl⟩ := h1 rfl
    exact wpList_append_own_none hgd s x 22 ho 0 5 i0 1 Tryz.underlying22 hi v n (u8s C) hs hown hx (h v w (by simpa using hown) (World.grownBy.refl _ _) rfl rfl)
  | some ad =>
    refine wpList_plain hgd fun K hK' => ?_
    obtain ⟨v', w', hrun, h2, h3, h4⟩ := run_append_own (P := Tryz.prog) w 0 22 o.type 5 i0 (.int .u8 0) 1 1 Tryz.underlying22 hi hz0 hz1 hz2 rfl (by decide) v n (u8s C) hown ad B.length cap (u8s B) (by rw [u8s_length]; omega) hr.news (u8s_one _) (by unfold maxLen; omega) (by omega) (Nat.zero_le _)
    have hv : v'.ownBlock = v.ownBlock ∧ capOf v' = capOf v := by
      rcases hown.2 with ⟨e1, e2⟩ | ⟨g, c, cur, e1, _, hg, _, _, hsz, _⟩
      · subst e1
        have hB : B.length = 0 := by have hc' : n + B.length ≤ 0 := hc; omega
        rw [h4.2 ⟨rfl, hB⟩]
        exact ⟨rfl, rfl⟩
      · subst e1
        have hc' : n + B.length ≤ c := hc
        have hr' := run_append_room (P := Tryz.prog) w 22 o.type 5 i0 Tryz.underlying22 hi g n c cur hg ad B.length cap (u8s B) (by rw [u8s_length, hz1]; omega) hr.news (u8s_one _) hc' (by rw [u8s_length, hz1, hsz]; omega)
        rw [hr'] at hrun
        injection hrun with hv _
        rw [← hv]
        exact ⟨rfl, rfl⟩
    unfold Oper.wp
    simp [execOp, ho, resolve, invoke, builtin, hs, hx, hrun, Result.andThen]
    exact hK' _ _ (h v' w' (by rw [u8s_append]; exact h2) h3 hv.1 hv.2)

/-- A row made anew, with the first bytes of another one. -/
theorem made_copied {w : World} {cur : List Value} {c : Nat} {C : List Nat} {g : Nat} (hg : w.heap[g]? = some (.cells cur.toArray 5 (0, 0))) (hl : cur.length = c) (hc : C.length ≤ c) (hm : c ≤ maxLen) (ht : cur.take C.length = u8s C) :
    w.ownsRow 0 5 1 (.slice (some ⟨g, 0, none⟩) C.length c) C.length (u8s C) :=
  ⟨by rw [u8s_length]; omega, .inr ⟨g, c, _, rfl, Nat.zero_le _, hg, hc, hm, by simp [hl], by simpa using ht⟩⟩

/-- What came out so far, in a stream in block p. -/
structure Out (w : World) (p : Nat) (v : Value) (O : List Nat) (most : Int) : Prop where
  co : w.cell? ⟨p, 1, none⟩ = some v
  cm : w.cell? ⟨p, 2, none⟩ = some (.int .i64 most)
  f1 : w.frozen? ⟨p, 1, none⟩ = false
  ow : w.ownsRow 0 5 1 v O.length (u8s O)
  ne : v.ownBlock ≠ some p
  ca : capOf v ≤ 100000000000
  by_ : ∀ y ∈ O, y < 256

theorem Out.drewN {w : World} {p : Nat} {v : Value} {O : List Nat} {most : Int} (h : Out w p v O most) (n : Nat) : Out (w.drewN n) p v O most := ⟨h.co, h.cm, h.f1, h.ow, h.ne, h.ca, h.by_⟩

theorem Out.step {S : Nat → Prop} {w w' : World} {p : Nat} {v : Value} {O : List Nat} {most : Int} (h : Out w p v O most) (hs : Step S w w') (h1 : ¬ S p) (h2 : ∀ k, v.ownBlock = some k → ¬ S k) : Out w' p v O most :=
  ⟨hs.cell h.co h1, hs.cell h.cm h1, (hs.frozen (p := ⟨p, 1, none⟩) (World.block_lt_of_cell? w _ h.co) h1).trans h.f1, owns_step h.ow hs h2, h.ne, h.ca, h.by_⟩

/-- What room leaves. -/
def Roomed (w w' : World) (p : Nat) (v : Value) (O : List Nat) (most : Int) (n : Nat) : Prop :=
  ∃ v', Out w' p v' O most ∧ O.length + n ≤ capOf v' ∧ Step (fun k => k = p) w w' ∧ (v'.ownBlock = v.ownBlock ∨ ∃ k, v'.ownBlock = some k ∧ w.heap.size ≤ k) ∧
    (∀ j u, j ≠ 1 → w.cell? ⟨p, j, none⟩ = some u → w'.cell? ⟨p, j, none⟩ = some u) ∧ ∀ j, w'.frozen? ⟨p, j, none⟩ = w.frozen? ⟨p, j, none⟩

end Go.Proofs.YtcgjmkcigmmjjaaGreatDoor

namespace Go.Proofs.YtcgjmkcigmmjjaaGreatDoor
open Go.RowKit
set_option linter.unusedVariables false
/-- A stream in block p: its Reader in block b, over the row s; what came out, the row v. -/
structure Str (w : World) (p b : Nat) (s v : Value) (M m t : Nat) (O : List Nat) (most : Int) : Prop where
  ci : w.cell? ⟨p, 0, none⟩ = some (.pointer (some ⟨b, 0, none⟩))
  rr : Rr w b s M m t
  ou : Out w p v O most
  pb : p ≠ b
  sp : s.ownBlock ≠ some p
  vb : v.ownBlock ≠ some b
  vs : ∀ k, v.ownBlock = some k → s.ownBlock ≠ some k

/-- The blocks of a stream that are written. -/
def Sb (p b : Nat) (v : Value) (k : Nat) : Prop := k = p ∨ k = b ∨ v.ownBlock = some k

theorem Str.step {S : Nat → Prop} {w w' : World} {p b : Nat} {s v : Value} {M m t : Nat} {O : List Nat} {most : Int} (h : Str w p b s v M m t O most) (hs : Step S w w') (h1 : ¬ S p) (h2 : ¬ S b) (h3 : ∀ k, v.ownBlock = some k → ¬ S k) (h4 : ∀ k, s.ownBlock = some k → ¬ S k) : Str w' p b s v M m t O most :=
  ⟨hs.cell h.ci h1, h.rr.step hs h2 h4, h.ou.step hs h1 h3, h.pb, h.sp, h.vb, h.vs⟩

theorem Str.made {w w' : World} {p b : Nat} {s v : Value} {M m t : Nat} {O : List Nat} {most : Int} (h : Str w p b s v M m t O most) (hs : Step (fun _ => False) w w') : Str w' p b s v M m t O most :=
  h.step hs (fun h => h) (fun h => h) (fun _ _ h => h) (fun _ _ h => h)

theorem Str.drewN {w : World} {p b : Nat} {s v : Value} {M m t : Nat} {O : List Nat} {most : Int} (h : Str w p b s v M m t O most) (n : Nat) : Str (w.drewN n) p b s v M m t O most := h.made ((Step.refl _ w).drewN n)

/-- The place of the fixed codes stays. -/
def Keep (p : Nat) (w w' : World) : Prop := (∀ u, w.cell? ⟨p, 3, none⟩ = some u → w'.cell? ⟨p, 3, none⟩ = some u) ∧ w'.frozen? ⟨p, 3, none⟩ = w.frozen? ⟨p, 3, none⟩

theorem Keep.refl (p : Nat) (w : World) : Keep p w w := ⟨fun _ h => h, rfl⟩

theorem Keep.trans {p : Nat} {a b c : World} (h : Keep p a b) (k : Keep p b c) : Keep p a c := ⟨fun u hu => k.1 u (h.1 u hu), k.2.trans h.2⟩

theorem Keep.step {S : Nat → Prop} {p : Nat} {w w' : World} (hs : Step S w w') (hp : p < w.heap.size) (h : ¬ S p) : Keep p w w' := ⟨fun u hu => hs.cell hu h, hs.frozen (p := ⟨p, 3, none⟩) hp h⟩

theorem Keep.drewN {p : Nat} {a b : World} (h : Keep p a b) (n : Nat) : Keep p a (b.drewN n) := h

/-- What a call on such a stream leaves. -/
def After (w w' : World) (p b : Nat) (s v : Value) (M m t : Nat) (O : List Nat) (most : Int) : Prop :=
  ∃ v', Str w' p b s v' M m t O most ∧ Step (Sb p b v) w w' ∧ (v'.ownBlock = v.ownBlock ∨ ∃ k, v'.ownBlock = some k ∧ w.heap.size ≤ k) ∧ Keep p w w'

theorem Sb.lt {w : World} {p b : Nat} {s v : Value} {M m t : Nat} {O : List Nat} {most : Int} (h : Str w p b s v M m t O most) {k : Nat} (hk : Sb p b v k) : k < w.heap.size := by
  rcases hk with e | e | e
  · subst e; exact World.block_lt_of_cell? w _ h.ci
  · subst e; exact World.block_lt_of_cell? w _ h.rr.ins
  · exact (h.ou.ow.lt _ e).2

theorem Sb.trans {w w1 w2 : World} {p b : Nat} {v v1 : Value} (S1 : Step (Sb p b v) w w1) (hv : v1.ownBlock = v.ownBlock ∨ ∃ k, v1.ownBlock = some k ∧ w.heap.size ≤ k) (S2 : Step (Sb p b v1) w1 w2) : Step (Sb p b v) w w2 := by
  refine S1.trans S2 (fun i hi => ?_)
  rcases hi with e | e | e
  · exact .inl (.inl e)
  · exact .inl (.inr (.inl e))
  · rcases hv with h | ⟨k, h, hk⟩
    · exact .inl (.inr (.inr (by rw [← h]; exact e)))
    · rw [h] at e; have := Option.some.inj e; exact .inr (by omega)

theorem After.trans {w w1 w2 : World} {p b : Nat} {s v v1 : Value} {M m t : Nat} {O : List Nat} {most : Int} (S1 : Step (Sb p b v) w w1) (hv : v1.ownBlock = v.ownBlock ∨ ∃ k, v1.ownBlock = some k ∧ w.heap.size ≤ k) (hk : Keep p w w1) (h : After w1 w2 p b s v1 M m t O most) : After w w2 p b s v M m t O most := by
  obtain ⟨v2, a, S2, h2, h3⟩ := h
  refine ⟨v2, a, Sb.trans S1 hv S2, ?_, hk.trans h3⟩
  rcases h2 with e | ⟨k, e, hk⟩
  · rw [e]; exact hv
  · exact .inr ⟨k, e, Nat.le_trans S1.size hk⟩

theorem Str.took {w w' : World} {p b : Nat} {s v : Value} {M m t t' : Nat} {O : List Nat} {most : Int} (h : Str w p b s v M m t O most) (T : Took w w' b s M m t') : Str w' p b s v M m t' O most ∧ Step (Sb p b v) w w' ∧ Keep p w w' :=
  ⟨⟨T.2.cell h.ci h.pb, T.1, h.ou.step T.2 h.pb (fun k hk e => h.vb (by rw [hk, e])), h.pb, h.sp, h.vb, h.vs⟩, T.2.mono (fun i hi => .inr (.inl hi)), Keep.step T.2 (World.block_lt_of_cell? w _ h.ci) h.pb⟩

theorem Str.roomed {w w' : World} {p b : Nat} {s v : Value} {M m t n : Nat} {O : List Nat} {most : Int} (h : Str w p b s v M m t O most) (R : Roomed w w' p v O most n) :
    ∃ v', Str w' p b s v' M m t O most ∧ O.length + n ≤ capOf v' ∧ Step (Sb p b v) w w' ∧ (v'.ownBlock = v.ownBlock ∨ ∃ k, v'.ownBlock = some k ∧ w.heap.size ≤ k) ∧ Keep p w w' := by
  obtain ⟨v', ho, hc, hs, hv, hcell, hfz⟩ := R
  have hb : b < w.heap.size := World.block_lt_of_cell? w _ h.rr.ins
  refine ⟨v', ⟨?_, h.rr.step hs (fun e => h.pb e.symm) (fun k hk e => h.sp (by rw [hk, e])), ho, h.pb, h.sp, ?_, ?_⟩, hc, hs.mono (fun i hi => .inl hi), hv, fun u hu => hcell 3 u (by omega) hu, hfz 3⟩
  · exact hcell 0 _ (by omega) h.ci
  · rcases hv with e | ⟨k, e, hk⟩
    · rw [e]; exact h.vb
    · rw [e]; intro e2; have := Option.some.inj e2; omega
  · intro k hk e2
    rcases hv with e | ⟨j, e, hj⟩
    · exact h.vs k (by rw [← e]; exact hk) e2
    · rw [e] at hk; have := Option.some.inj hk
      have := (h.rr.own.lt _ e2).2
      omega

/-- Bytes went behind those that came out. -/
theorem Str.appended {w w1 : World} {p b : Nat} {s v v1 : Value} {M m t : Nat} {O B : List Nat} {most : Int} (h : Str w p b s v M m t O most)
    (hown : w1.ownsRow 0 5 1 v1 (O.length + B.length) (u8s (O ++ B))) (hg : w.grownBy w1 v.ownBlock) (hv : v1.ownBlock = v.ownBlock) (hc : capOf v1 = capOf v) (hB : ∀ y ∈ B, y < 256) :
    w1.cell? ⟨p, 1, none⟩ = some v ∧ w1.frozen? ⟨p, 1, none⟩ = false ∧ Str (w1.setCell ⟨p, 1, none⟩ v1) p b s v1 M m t (O ++ B) most ∧ Step (Sb p b v) w (w1.setCell ⟨p, 1, none⟩ v1) ∧ Keep p w (w1.setCell ⟨p, 1, none⟩ v1) := by
  have St : Step (fun k => v.ownBlock = some k) w w1 := (Step.refl _ w).grown hg (fun k hk => .inl hk)
  have hpw : p < w.heap.size := World.block_lt_of_cell? w _ h.ci
  have hnp : ¬ v.ownBlock = some p := h.ou.ne
  have c1 := St.cell h.ou.co hnp
  have c2 := St.cell h.ou.cm hnp
  have c0 := St.cell h.ci hnp
  have f1 := (St.frozen (p := ⟨p, 1, none⟩) hpw hnp).trans h.ou.f1
  have S2 : Step (fun k => k = p) w1 (w1.setCell ⟨p, 1, none⟩ v1) := (Step.refl (fun k => k = p) w1).setCell ⟨p, 1, none⟩ v1 (.inl rfl)
  refine ⟨c1, f1, ⟨?_, ?_, ⟨?_, ?_, ?_, ?_, ?_, ?_, ?_⟩, h.pb, h.sp, ?_, ?_⟩, ?_, ?_, ?_⟩
  · rw [World.cell?_setCell_other _ _ _ _ (by simp)]; exact c0
  · refine (h.rr.step St (fun e => h.vb e) (fun k hk e => h.vs k e hk)).step S2 (fun e => h.pb e.symm) (fun k hk e => h.sp (by rw [hk, e]))
  · rw [World.cell?_setCell_same _ _ _ c1]
  · rw [World.cell?_setCell_other _ _ _ _ (by simp)]; exact c2
  · rw [World.frozen?_setCell]; exact f1
  · rw [List.length_append]
    exact owns_step hown S2 (fun k hk e => hnp (by rw [← hv, hk, e]))
  · rw [hv]; exact hnp
  · rw [hc]; exact h.ou.ca
  · intro y hy
    rcases List.mem_append.1 hy with e | e
    · exact h.ou.by_ y e
    · exact hB y e
  · rw [hv]; exact h.vb
  · intro k hk; exact h.vs k (by rw [← hv]; exact hk)
  · exact (St.mono (fun i hi => .inr (.inr hi))).trans S2 (fun i hi => .inl (.inl hi))
  · intro u hu
    rw [World.cell?_setCell_other _ _ _ _ (by simp)]
    exact St.cell hu hnp
  · rw [World.frozen?_setCell]
    exact St.frozen (p := ⟨p, 3, none⟩) hpw hnp

theorem bytesOf_lt (N m : Nat) : ∀ y ∈ bytesOf N m, y < 256 := by
  intro y hy
  obtain ⟨i, _, rfl⟩ := List.mem_map.1 hy
  exact Nat.mod_lt _ (by omega)

end Go.Proofs.YtcgjmkcigmmjjaaGreatDoor

namespace Go.Proofs.YtcgjmkcigmmjjaaGreatDoor
open Go.RowKit
set_option maxRecDepth 100000
theorem Tryz.info3 : (Tryz.prog.info? 3).map (fun i => (i.zero, i.size, i.bytes)) = some (some (.int .i64 0), 1, 8) := by kernel_rfl

/-- Numbers as cells. -/
def i64s (L : List Int) : List Value := L.map fun x => Value.int .i64 x

theorem i64s_get? (L : List Int) (i : Nat) : (i64s L)[i]? = L[i]?.map fun x => Value.int .i64 x := by simp [i64s]

theorem i64s_length (L : List Int) : (i64s L).length = L.length := by simp [i64s]

theorem i64s_append (a b : List Int) : i64s (a ++ b) = i64s a ++ i64s b := by simp [i64s]

theorem i64s_one (L : List Int) : ∀ u ∈ i64s L, u.oneCell' = true := by
  intro u hu
  obtain ⟨_, _, rfl⟩ := List.mem_map.1 hu
  rfl

theorem getD_i (L : List Int) (k : Nat) (h : k < L.length) : L.getD k 0 = L[k] := by simp [List.getD, h]

/-- The slice v reads as the numbers L. -/
def Ri (w : World) (v : Value) (L : List Int) : Prop :=
  ∃ ao cap, v = .slice ao L.length cap ∧ L.length ≤ cap ∧ (ao = none → L = [] ∧ cap = 0) ∧
    ∀ a, ao = some a → L ≠ [] → ∃ b off, a = ⟨b, off, none⟩ ∧ ∀ k, k < L.length → w.cell? ⟨b, off + k, none⟩ = some (.int .i64 (L.getD k 0))

theorem Ri.step {S : Nat → Prop} {w w' : World} {v : Value} {L : List Int} (h : Ri w v L) (hs : Step S w w') (hS : ∀ a n c, v = .slice (some a) n c → L ≠ [] → ¬ S a.block) : Ri w' v L := by
  obtain ⟨ao, cap, rfl, hc, h1, h2⟩ := h
  refine ⟨ao, cap, rfl, hc, h1, fun a ha hne => ?_⟩
  obtain ⟨b, off, rfl, hc⟩ := h2 a ha hne
  subst ha
  exact ⟨b, off, rfl, fun k hk => hs.cell (hc k hk) (hS ⟨b, off, none⟩ _ _ rfl hne)⟩

theorem Ri.made {w w' : World} {v : Value} {L : List Int} (h : Ri w v L) (hs : Step (fun _ => False) w w') : Ri w' v L := h.step hs (fun _ _ _ _ _ h => h)

theorem Ri.drewN {w : World} {v : Value} {L : List Int} (h : Ri w v L) (n : Nat) : Ri (w.drewN n) v L := h

theorem ri_none (w : World) : Ri w (.slice none ([] : List Int).length 0) [] := ⟨none, 0, rfl, by simp, fun _ => ⟨rfl, rfl⟩, fun a h _ => (by cases h)⟩

theorem ri_nil (w : World) : Ri w (.slice none 0 0) [] := ri_none w

theorem Ri.news {w : World} {a : Addr} {n cap : Nat} {B : List Int} (h : Ri w (.slice (some a) n cap) B) : ∀ j u, (i64s B)[j]? = some u → w.cell? (a.add j) = some u := by
  obtain ⟨ao, c, e, _, h1, h2⟩ := h
  injection e with e1
  intro j u hu
  have hne : B ≠ [] := by intro e; subst e; simp [i64s] at hu
  obtain ⟨b, off, rfl, hc⟩ := h2 a e1.symm hne
  have hj : j < B.length := by
    have := (List.getElem?_eq_some_iff.1 hu).1
    rwa [i64s_length] at this
  rw [Addr.add_lit, hc j hj, ← hu, i64s_get?]
  simp [List.getD, hj]

theorem Ri.of_own {w : World} {v : Value} {n : Nat} {L : List Int} (h : w.ownsRow 0 3 1 v n (i64s L)) : Ri w v L := by
  have hl := h.1
  rw [i64s_length, Nat.mul_one] at hl
  rcases h.2 with ⟨rfl, rfl⟩ | ⟨g, cap, cur, rfl, _, hg, hnc, _⟩
  · refine ⟨none, 0, by rw [hl], by omega, fun _ => ⟨List.eq_nil_of_length_eq_zero hl, rfl⟩, fun a h _ => by cases h⟩
  · refine ⟨some ⟨g, 0, none⟩, cap, by rw [hl], by omega, (fun h => by cases h), fun a ha _ => ⟨g, 0, (Option.some.inj ha).symm, fun k hk => ?_⟩⟩
    rw [Nat.zero_add, h.cellAt k (by omega), i64s_get?]
    simp [List.getD, hk]

/-- Cells of a block that may be written. -/
def Af (w : World) (b n : Nat) (f : Nat → Int) : Prop := ∀ k, k < n → w.cell? ⟨b, k, none⟩ = some (.int .i64 (f k)) ∧ w.frozen? ⟨b, k, none⟩ = false

def upd (f : Nat → Int) (j : Nat) (x : Int) : Nat → Int := fun k => if k = j then x else f k

theorem Af.drewN {w : World} {b n : Nat} {f : Nat → Int} (h : Af w b n f) (q : Nat) : Af (w.drewN q) b n f := h

theorem Af.congr {w : World} {b n : Nat} {f g : Nat → Int} (h : Af w b n f) (e : ∀ k, k < n → f k = g k) : Af w b n g := fun k hk => by rw [← e k hk]; exact h k hk

theorem Af.lt {w : World} {b n : Nat} {f : Nat → Int} (h : Af w b n f) (h0 : 0 < n) : b < w.heap.size := World.block_lt_of_cell? w _ (h 0 h0).1

theorem Af.step {S : Nat → Prop} {w w' : World} {b n : Nat} {f : Nat → Int} (h : Af w b n f) (hs : Step S w w') (hS : ¬ S b) : Af w' b n f := fun k hk =>
  ⟨hs.cell (h k hk).1 hS, (hs.frozen (p := ⟨b, k, none⟩) (World.block_lt_of_cell? w _ (h k hk).1) hS).trans (h k hk).2⟩

theorem Af.made {w w' : World} {b n : Nat} {f : Nat → Int} (h : Af w b n f) (hs : Step (fun _ => False) w w') : Af w' b n f := h.step hs (fun h => h)

theorem Af.far {w : World} {b n : Nat} {f : Nat → Int} (h : Af w b n f) (p : Addr) (v : Value) (hp : p.block ≠ b) : Af (w.setCell p v) b n f := fun k hk =>
  ⟨by rw [World.cell?_setCell_other (a := p) (b := ⟨b, k, none⟩) _ _ (by intro e; apply hp; rw [e])]; exact (h k hk).1, by rw [World.frozen?_setCell]; exact (h k hk).2⟩

theorem Af.set {w : World} {b n : Nat} {f : Nat → Int} (h : Af w b n f) (j : Nat) (x : Int) : Af (w.setCell ⟨b, j, none⟩ (.int .i64 x)) b n (upd f j x) := by
  intro k hk
  refine ⟨?_, by rw [World.frozen?_setCell]; exact (h k hk).2⟩
  unfold upd
  by_cases e : k = j
  · subst e
    rw [World.cell?_setCell_same' _ _ _ (by rw [(h k hk).1]; rfl)]
    simp
  · rw [World.cell?_setCell_other (a := ⟨b, j, none⟩) (b := ⟨b, k, none⟩) _ _ (by intro e2; apply e; injection e2 with _ e3; omega)]
    rw [(h k hk).1]
    simp [e]

theorem Af.new (w : World) (C : Array Value) (t : TypeId) (n : Nat) (f : Nat → Int) (hC : ∀ k, k < n → C[k]? = some (.int .i64 (f k))) : Af (w.alloc (.cells C t)) w.heap.size n f := fun k hk =>
  ⟨by rw [World.cell?_alloc_at _ _ _ _ rfl]; exact hC k hk, World.frozen?_alloc_at _ _ _ _ rfl⟩

theorem Af.ri {w : World} {b n : Nat} {f : Nat → Int} {L : List Int} {cap : Nat} (h : Af w b n f) (hn : L.length = n) (hc : n ≤ cap) (hL : ∀ k, k < n → L.getD k 0 = f k) : Ri w (.slice (some ⟨b, 0, none⟩) n cap) L :=
  ⟨some ⟨b, 0, none⟩, cap, by rw [hn], by omega, (fun h => by cases h), fun a ha _ => ⟨b, 0, (Option.some.inj ha).symm, fun k hk => by rw [Nat.zero_add, hL k (by omega)]; exact (h k (by omega)).1⟩⟩

end Go.Proofs.YtcgjmkcigmmjjaaGreatDoor

namespace Go.Proofs.YtcgjmkcigmmjjaaGreatDoor
open Go.RowKit
set_option maxRecDepth 100000
/-- Sixteen numbers as a value. -/
def A16 (f : Nat → Int) : Array Value := #[.int .i64 (f 0), .int .i64 (f 1), .int .i64 (f 2), .int .i64 (f 3), .int .i64 (f 4), .int .i64 (f 5), .int .i64 (f 6), .int .i64 (f 7), .int .i64 (f 8), .int .i64 (f 9), .int .i64 (f 10), .int .i64 (f 11), .int .i64 (f 12), .int .i64 (f 13), .int .i64 (f 14), .int .i64 (f 15)]

theorem A16_get (f : Nat → Int) (k : Nat) (h : k < 16) : (A16 f)[k]? = some (.int .i64 (f k)) := by
  have : k = 0 ∨ k = 1 ∨ k = 2 ∨ k = 3 ∨ k = 4 ∨ k = 5 ∨ k = 6 ∨ k = 7 ∨ k = 8 ∨ k = 9 ∨ k = 10 ∨ k = 11 ∨ k = 12 ∨ k = 13 ∨ k = 14 ∨ k = 15 := by omega
  rcases this with rfl | rfl | rfl | rfl | rfl | rfl | rfl | rfl | rfl | rfl | rfl | rfl | rfl | rfl | rfl | rfl <;> rfl

theorem run_index16 (f : Nat → Int) (k : Nat) (h : k < 16) (w : World) : (Instr.index 137 (.agg (A16 f)) (.int .i64 (k : Int))).run Tryz.prog w = .ok (.int .i64 (f k)) w := by
  have : k = 0 ∨ k = 1 ∨ k = 2 ∨ k = 3 ∨ k = 4 ∨ k = 5 ∨ k = 6 ∨ k = 7 ∨ k = 8 ∨ k = 9 ∨ k = 10 ∨ k = 11 ∨ k = 12 ∨ k = 13 ∨ k = 14 ∨ k = 15 := by omega
  rcases this with rfl | rfl | rfl | rfl | rfl | rfl | rfl | rfl | rfl | rfl | rfl | rfl | rfl | rfl | rfl | rfl <;> rfl

theorem A16_size (f : Nat → Int) : (A16 f).size = 16 := rfl

theorem A16_one (f : Nat → Int) : (A16 f).all (·.oneCell') = true := by unfold A16; simp [Value.oneCell']

theorem Tryz.info16 : (Tryz.prog.info? 137).map (·.size) = some 16 := by kernel_rfl

theorem A16_congr {f g : Nat → Int} (h : ∀ k, k < 16 → f k = g k) : A16 f = A16 g := by
  unfold A16
  rw [h 0 (by omega), h 1 (by omega), h 2 (by omega), h 3 (by omega), h 4 (by omega), h 5 (by omega), h 6 (by omega), h 7 (by omega), h 8 (by omega), h 9 (by omega), h 10 (by omega), h 11 (by omega), h 12 (by omega), h 13 (by omega), h 14 (by omega), h 15 (by omega)]

theorem Af.range {w : World} {b : Nat} {f : Nat → Int} (h : Af w b 16 f) : w.rangeAt b 0 (A16 f).toList := by
  intro j v hv
  have hj : j < 16 := (List.getElem?_eq_some_iff.1 hv).1
  rw [Nat.zero_add, (h j hj).1, ← hv]
  have := A16_get f j hj
  simpa using this.symm

theorem Af.there {w : World} {b : Nat} {f : Nat → Int} (h : Af w b 16 f) : w.there b 0 16 := fun j hj => by
  rw [Nat.zero_add, (h j hj).1]
  exact ⟨rfl, (h j hj).2⟩

theorem setCells_step (b : Nat) : ∀ (vs : List Value) (o : Nat) (w : World), Step (fun k => k = b) w (w.setCells b o vs)
  | [], _, w => Step.refl _ w
  | v :: r, o, w => by
    rw [World.setCells]
    exact ((Step.refl (fun k => k = b) w).setCell ⟨b, o, none⟩ v (.inl rfl)).trans (setCells_step b r (o + 1) _) (fun i h => .inl h)

theorem setCells_af {w : World} {b : Nat} {f g : Nat → Int} (h : Af w b 16 g) : Af (w.setCells b 0 (A16 f).toList) b 16 f := by
  intro k hk
  refine ⟨?_, by rw [World.frozen?_setCells]; exact (h k hk).2⟩
  have hk2 : k < (A16 f).toList.length := by simpa [A16_size] using hk
  have h1 := World.cell?_setCells_in b (A16 f).toList 0 w (fun j hj => (h.there j (by simpa [A16_size] using hj)).1) k hk2
  rw [Nat.zero_add] at h1
  rw [h1]
  have := A16_get f k hk
  have hk' : k < (A16 f).size := by simpa [A16_size] using hk
  simp [Array.getElem?_eq_getElem hk'] at this
  rw [Array.getElem_toList, this]

theorem load16 {ops : Array Oper} {rest : List Oper} {a : Act} {w : World} {Q : Exit → Act → World → Prop} {dst : Option Tmp} {p : Operand} {ty : TypeId} {pos : String} {aft : Array Edge}
    (b : Nat) (f : Nat → Int) (hp : a.eval p = .pointer (some ⟨b, 0, none⟩)) (hA : Af w b 16 f) (h : wpList Tryz.prog ops Q rest (a.put dst (.agg (A16 f))) w) :
    wpList Tryz.prog ops Q (⟨dst, .load 137 p, ty, pos, aft, none⟩ :: rest) a w :=
  wpList_load_mid rfl 137 p rfl b 0 hp (A16 f).toList _ hA.range Tryz.underlying137 rfl Tryz.info16 h

theorem store16 {ops : Array Oper} {rest : List Oper} {a : Act} {w : World} {Q : Exit → Act → World → Prop} {p x : Operand} {ty : TypeId} {pos : String} {aft : Array Edge}
    (b : Nat) (f g : Nat → Int) (hp : a.eval p = .pointer (some ⟨b, 0, none⟩)) (hx : a.eval x = .agg (A16 f)) (hA : Af w b 16 g)
    (h : ∀ w', Step (fun k => k = b) w w' → Af w' b 16 f → wpList Tryz.prog ops Q rest a w') :
    wpList Tryz.prog ops Q (⟨none, .store 137 p x, ty, pos, aft, none⟩ :: rest) a w := by
  refine wpList_store_mid rfl 137 p x rfl b 0 (A16 f) hp hx hA.there Tryz.info16 (A16_one f) ?_
  exact h _ (setCells_step b _ _ _) (setCells_af hA)

theorem box16 {ops : Array Oper} {rest : List Oper} {a : Act} {w : World} {Q : Exit → Act → World → Prop} {dst : Option Tmp} {x : Operand} {ty : TypeId} {pos : String} {aft : Array Edge}
    (f : Nat → Int) (hx : a.eval x = .agg (A16 f))
    (h : ∀ w', Step (fun _ => False) w w' → w.heap.size < w'.heap.size → Af w' w.heap.size 16 f → wpList Tryz.prog ops Q rest (a.put dst (.pointer (some ⟨w.heap.size, 0, none⟩))) w') :
    wpList Tryz.prog ops Q (⟨dst, .box 137 x, ty, pos, aft, none⟩ :: rest) a w := by
  refine wpList_plain rfl fun K hK => ?_
  unfold Oper.wp
  simp only [execOp, hx, Instr.box, newVar, Value.cells]
  simp
  exact hK _ _ (h _ ((Step.refl _ w).alloc _) (by simp) (Af.new w (A16 f) _ 16 f (fun k hk => A16_get f k hk)))

theorem alloc16 {ops : Array Oper} {rest : List Oper} {a : Act} {w : World} {Q : Exit → Act → World → Prop} {dst : Option Tmp} {ty : TypeId} {pos : String} {aft : Array Edge}
    (h : ∀ w', Step (fun _ => False) w w' → w.heap.size < w'.heap.size → Af w' w.heap.size 16 (fun _ => 0) → wpList Tryz.prog ops Q rest (a.put dst (.pointer (some ⟨w.heap.size, 0, none⟩))) w') :
    wpList Tryz.prog ops Q (⟨dst, .alloc 137, ty, pos, aft, none⟩ :: rest) a w := by
  refine wpList_plain rfl fun K hK => ?_
  unfold Oper.wp
  simp [execOp, go_sem]
  exact hK _ _ (h _ ((Step.refl _ w).alloc _) (by simp) (Af.new w (A16 fun _ => 0) _ 16 (fun _ => 0) (fun k hk => A16_get (fun _ => 0) k hk)))

theorem Af.load {w : World} {b : Nat} {f : Nat → Int} (h : Af w b 16 f) : (loadVar 137 ⟨b, 0, none⟩).run Tryz.prog w = .ok (.agg (A16 f)) w :=
  run_loadVar_mid w b 0 137 (A16 f).toList _ h.range Tryz.underlying137 rfl Tryz.info16

/-- Cells of whatever kind. -/
def Vf (w : World) (b n : Nat) (g : Nat → Value) : Prop := ∀ k, k < n → w.cell? ⟨b, k, none⟩ = some (g k) ∧ w.frozen? ⟨b, k, none⟩ = false

theorem Vf.congr {w : World} {b n : Nat} {f g : Nat → Value} (h : Vf w b n f) (e : ∀ k, k < n → f k = g k) : Vf w b n g := fun k hk => by rw [← e k hk]; exact h k hk

theorem Vf.step {S : Nat → Prop} {w w' : World} {b n : Nat} {g : Nat → Value} (h : Vf w b n g) (hs : Step S w w') (hS : ¬ S b) : Vf w' b n g := fun k hk =>
  ⟨hs.cell (h k hk).1 hS, (hs.frozen (p := ⟨b, k, none⟩) (World.block_lt_of_cell? w _ (h k hk).1) hS).trans (h k hk).2⟩

theorem Vf.made {w w' : World} {b n : Nat} {g : Nat → Value} (h : Vf w b n g) (hs : Step (fun _ => False) w w') : Vf w' b n g := h.step hs (fun h => h)

theorem Vf.far {w : World} {b n : Nat} {g : Nat → Value} (h : Vf w b n g) (p : Addr) (v : Value) (hp : p.block ≠ b) : Vf (w.setCell p v) b n g := fun k hk =>
  ⟨by rw [World.cell?_setCell_other (a := p) (b := ⟨b, k, none⟩) _ _ (by intro e; apply hp; rw [e])]; exact (h k hk).1, by rw [World.frozen?_setCell]; exact (h k hk).2⟩

theorem Vf.set {w : World} {b n : Nat} {g : Nat → Value} (h : Vf w b n g) (j : Nat) (x : Value) : Vf (w.setCell ⟨b, j, none⟩ x) b n (fun k => if k = j then x else g k) := by
  intro k hk
  refine ⟨?_, by rw [World.frozen?_setCell]; exact (h k hk).2⟩
  by_cases e : k = j
  · subst e
    rw [World.cell?_setCell_same' _ _ _ (by rw [(h k hk).1]; rfl)]
    simp
  · rw [World.cell?_setCell_other (a := ⟨b, j, none⟩) (b := ⟨b, k, none⟩) _ _ (by intro e2; apply e; injection e2 with _ e3; omega)]
    rw [(h k hk).1]
    simp [e]

theorem Vf.af {w : World} {b n : Nat} {g : Nat → Value} {f : Nat → Int} (h : Vf w b n g) (e : ∀ k, k < n → g k = .int .i64 (f k)) : Af w b n f := fun k hk => by rw [← e k hk]; exact h k hk

theorem Vf.new (w : World) (C : Array Value) (t : TypeId) (n : Nat) (g : Nat → Value) (hC : ∀ k, k < n → C[k]? = some (g k)) : Vf (w.alloc (.cells C t)) w.heap.size n g := fun k hk =>
  ⟨by rw [World.cell?_alloc_at _ _ _ _ rfl]; exact hC k hk, World.frozen?_alloc_at _ _ _ _ rfl⟩

theorem madeCells_get (z : Value) (n k : Nat) (h : k < n) : (madeCells #[z] n)[k]? = some z := by
  simp [madeCells, h, Nat.mod_one]

theorem makeRow {ops : Array Oper} {rest : List Oper} {a : Act} {w : World} {Q : Exit → Act → World → Prop} {dst : Option Tmp} {l c : Operand} {t ty : TypeId} {pos : String} {aft : Array Edge}
    (e : TypeId) (z : Value) (bytes : Nat) (ht : Tryz.prog.underlying t = some (.slice e)) (hi : (Tryz.prog.info? e).map (fun i => (i.zero, i.size, i.bytes)) = some (some z, 1, bytes)) (hz : z.cells = #[z])
    (n : Nat) (x : Int) (hl : a.eval l = .int .i64 x) (hc : a.eval c = .int .i64 x) (hx : x = (n : Int)) (hb : bytes * n ≤ 281474976710656) (hn : n ≤ 9223372036854775807)
    (h : ∀ w', Step (fun _ => False) w w' → w.heap.size < w'.heap.size → Vf w' w.heap.size n (fun _ => z) → wpList Tryz.prog ops Q rest (a.put dst (.slice (some ⟨w.heap.size, 0, none⟩) n n)) w') :
    wpList Tryz.prog ops Q (⟨dst, .makeSlice t l c, ty, pos, aft, none⟩ :: rest) a w := by
  subst hx
  obtain ⟨i0, h1, h2, h3, h4⟩ := info_parts hi
  refine wpList_make_row w rfl l c t rfl e i0 z ht h1 h2 h3 hz .i64 .i64 n hl hc (by rw [h4]; exact hb) hn ?_
  exact h _ ((Step.refl _ w).alloc _) (by simp) (Vf.new w _ e n (fun _ => z) (fun k hk => madeCells_get z n k hk))

theorem makeInts {ops : Array Oper} {rest : List Oper} {a : Act} {w : World} {Q : Exit → Act → World → Prop} {dst : Option Tmp} {l c : Operand} {ty : TypeId} {pos : String} {aft : Array Edge}
    (n : Nat) (x : Int) (hl : a.eval l = .int .i64 x) (hc : a.eval c = .int .i64 x) (hx : x = (n : Int)) (hn : n ≤ 1000000)
    (h : ∀ w', Step (fun _ => False) w w' → w.heap.size < w'.heap.size → Af w' w.heap.size n (fun _ => 0) → wpList Tryz.prog ops Q rest (a.put dst (.slice (some ⟨w.heap.size, 0, none⟩) n n)) w') :
    wpList Tryz.prog ops Q (⟨dst, .makeSlice 30 l c, ty, pos, aft, none⟩ :: rest) a w :=
  makeRow 3 (.int .i64 0) 8 Tryz.underlying30 Tryz.info3 rfl n x hl hc hx (by omega) (by omega) (fun w' h1 h2 h3 => h w' h1 h2 (h3.af (fun _ _ => rfl)))

end Go.Proofs.YtcgjmkcigmmjjaaGreatDoor

namespace Go.Proofs.YtcgjmkcigmmjjaaGreatDoor
open Go.RowKit
set_option maxRecDepth 100000
/-- How much counts fill. -/
def fl (f : Nat → Int) : Nat → Int
  | 0 => 0
  | k + 1 => fl f k + f k * 2 ^ (15 - k)

theorem fl_bd (f : Nat → Int) (h0 : ∀ k, 0 ≤ f k) (h1 : ∀ k, f k ≤ 320) : ∀ k, 0 ≤ fl f k ∧ fl f k ≤ 10485760 * k
  | 0 => by simp [fl]
  | k + 1 => by
    have ih := fl_bd f h0 h1 k
    have p0 : (1 : Int) ≤ 2 ^ (15 - k) := ipow_pos _
    have p1 : (2 : Int) ^ (15 - k) ≤ 32768 := by
      have : (2 ^ (15 - k) : Nat) ≤ 2 ^ 15 := Nat.pow_le_pow_right (by omega) (by omega)
      have e : ((2 ^ (15 - k) : Nat) : Int) = (2 : Int) ^ (15 - k) := by simp
      omega
    have a := h0 k
    have b := h1 k
    have c0 : 0 ≤ f k * 2 ^ (15 - k) := Int.mul_nonneg a (by omega)
    have c1 : f k * 2 ^ (15 - k) ≤ 320 * 32768 := Int.mul_le_mul b p1 (by omega) (by omega)
    simp only [fl]
    omega

set_option maxHeartbeats 1000000 in
theorem fill_any (f : Nat → Int) (w : World) (h0 : ∀ k, 0 ≤ f k) (h1 : ∀ k, f k ≤ 320) :
    Calls Tryz.prog 96 #[.agg (A16 f)] w fun e w' => e = .returned (.int .i64 (fl f 16)) ∧ Step (fun _ => False) w w' := by
  have H0 := hidden h0
  have H1 := hidden h1
  clear h0 h1
  have hix := fun (k : Nat) (h : k < 16) w => run_index16 f k h w
  have Hix := hidden hix
  clear hix
  go_enter Tryz.func96, Tryz.ntmps96
  go_wp2_with (first | (refine box16 f rfl ?_; intro w1 hs1 hz1 hbox) | (refine load16 w.heap.size f rfl hbox ?_))
  have Hs1 := hidden hs1
  clear hbox hs1
  go_loop [3, 7] (fun s i => ∃ k : Nat, k ≤ 16 ∧ i = .int .i64 k ∧ s = .int .i64 (fl f k)) (fun _ i => 16 - (intOf i).toNat)
  case atStart => exact ⟨0, by omega, rfl, rfl⟩
  case round =>
    obtain ⟨k, hk, rfl, rfl⟩ := hrel
    by_cases hlt : k < 16
    · have hx := Hix.out k hlt
      have k0 := H0.out k
      have k1 := H1.out k
      have hb := fl_bd f H0.out H1.out k
      have Hs : Hid (wrap64 (fl f k + wrap64 (f k * 2 ^ (15 - k))) = fl f (k + 1)) := by
        have hb2 := fl_bd f H0.out H1.out (k + 1)
        have e : fl f (k + 1) = fl f k + f k * 2 ^ (15 - k) := rfl
        have : wrap64 (f k * 2 ^ (15 - k)) = f k * 2 ^ (15 - k) := wrap64_id _ (by omega) (by omega)
        unfold Hid
        rw [this, ← e, wrap64_id _ (by omega) (by omega)]
      go_wp2
      go_round
      case rel => exact ⟨k + 1, by omega, by go_num, by rw [Hs.out]⟩
      case measure => simp [intOf]; omega
    · have e : k = 16 := by omega
      subst e
      go_wp2
      go_ret
      exact ⟨rfl, Hs1.out⟩

end Go.Proofs.YtcgjmkcigmmjjaaGreatDoor

namespace Go.Proofs.YtcgjmkcigmmjjaaGreatDoor
open Go.RowKit
set_option maxRecDepth 100000
/-- Are they lengths? -/
def okB (L : List Int) : Bool := decide (L.length ≤ 320) && L.all fun x => decide (0 ≤ x) && decide (x ≤ 15)

theorem okB_iff (L : List Int) : okB L = true ↔ L.length ≤ 320 ∧ ∀ x ∈ L, 0 ≤ x ∧ x ≤ 15 := by
  unfold okB
  simp [List.all_eq_true]

/-- How many codes of each length. -/
def cf (L : List Int) (k : Nat) : Int := if k = 0 then 0 else (L.count (k : Int) : Int)

theorem cf_nil (k : Nat) : cf [] k = 0 := by simp [cf]

theorem cf_bd (L : List Int) (k : Nat) : 0 ≤ cf L k ∧ cf L k ≤ L.length := by
  unfold cf
  have := List.count_le_length (a := (k : Int)) (l := L)
  split <;> omega

theorem cf_zero (L : List Int) (k : Nat) : cf (L ++ [0]) k = cf L k := by
  unfold cf
  split
  · rfl
  · rw [List.count_append, List.count_singleton]
    have : ¬ ((0 : Int) = (k : Int)) := by omega
    simp [this]

theorem cf_snoc (L : List Int) (n k : Nat) (h : 0 < n) : cf (L ++ [(n : Int)]) k = upd (cf L) n (cf L n + 1) k := by
  unfold cf upd
  rw [List.count_append, List.count_singleton]
  by_cases e : k = n
  · subst e
    have : ¬ k = 0 := by omega
    simp [this]
  · have e2 : ¬ ((n : Int) = (k : Int)) := by omega
    by_cases e3 : k = 0
    · simp [e3]
      omega
    · simp [e, e2, e3]

theorem take_snoc_i (L : List Int) (k : Nat) (h : k < L.length) : L.take (k + 1) = L.take k ++ [L.getD k 0] := by
  rw [List.take_succ_eq_append_getElem h, getD_i L k h]

theorem okB_bad {L : List Int} {k : Nat} (hk : k < L.length) (h : ¬ (0 ≤ L.getD k 0 ∧ L.getD k 0 ≤ 15)) : okB L = false := by
  cases e : okB L with
  | false => rfl
  | true =>
    refine absurd (((okB_iff L).1 e).2 (L.getD k 0) ?_) h
    rw [getD_i L k hk]
    exact List.getElem_mem hk

/-- The first k are lengths. -/
def okTo (L : List Int) (k : Nat) : Prop := ∀ j, j < k → 0 ≤ L.getD j 0 ∧ L.getD j 0 ≤ 15

theorem okTo_all {L : List Int} (h : okTo L L.length) (h2 : L.length ≤ 320) : okB L = true := by
  rw [okB_iff]
  refine ⟨h2, fun x hx => ?_⟩
  obtain ⟨j, hj, rfl⟩ := List.mem_iff_getElem.1 hx
  have := h j hj
  rwa [getD_i L j hj] at this

theorem okTo_succ {L : List Int} {k : Nat} (h : okTo L k) (h2 : 0 ≤ L.getD k 0 ∧ L.getD k 0 ≤ 15) : okTo L (k + 1) := by
  intro j hj
  by_cases e : j = k
  · rw [e]; exact h2
  · exact h j (by omega)

theorem hs_cell {S : Nat → Prop} {w w' : World} (h : Step S w w') {p : Addr} {v : Value} (hc : w.cell? p = some v) (hS : ¬ S p.block := by exact fun h => h) : w'.cell? p = some v := h.cell hc hS

/-- What a call of count leaves. -/
def Counted (L : List Int) (w : World) (e : Ending) (w' : World) : Prop :=
  ∃ i, e = .returned (.tuple #[.agg (A16 (cf (L.take i))), .bool (okB L)]) ∧ (okB L = true → L.take i = L) ∧ Step (fun _ => False) w w'

set_option maxHeartbeats 1000000 in
theorem count_any (v : Value) (L : List Int) (w : World) (h : Ri w v L) (hl : L.length ≤ 9223372036854775807) :
    Calls Tryz.prog 95 #[v] w (Counted L w) := by
  obtain ⟨ao, cap, rfl, hcap, h1, h2⟩ := h
  by_cases h320 : L.length ≤ 320
  · have H1 := hidden h1
    have H2 := hidden h2
    obtain ⟨n, hn⟩ : ∃ n, n = L.length := ⟨_, rfl⟩
    have Hn := hidden hn
    rw [← hn] at h320 hl hcap ⊢
    clear h1 h2 hn
    go_enter Tryz.func95, Tryz.ntmps95
    go_wp2_with (refine alloc16 ?_)
    intro w1 hs1 hz1 ha1
    go_wp2_with (refine alloc16 ?_)
    intro w2 hs2 hz2 ha2
    have HR := hidden (And.intro (hs1.made hs2) (And.intro (ha1.made hs2) ha2))
    clear hs1 ha1 hs2 ha2
    go_wp2
    go_loopw [6, 13] (fun _ i wr => ∃ k : Nat, k ≤ n ∧ i = .int .i64 k ∧ Hid (Step (fun _ => False) w wr ∧ Af wr w.heap.size 16 (fun _ => 0) ∧ Af wr w1.heap.size 16 (cf (L.take k)) ∧ okTo L k)) (fun _ i _ => n - (intOf i).toNat)
    case atStart => exact ⟨0, Nat.zero_le _, rfl, HR.out.1, HR.out.2.1, HR.out.2.2.congr (fun k _ => (cf_nil k).symm), fun j hj => by omega⟩
    case round =>
      obtain ⟨k, hk, rfl, hrest⟩ := hrel
      obtain ⟨hst, hA0, hA, hok⟩ := hrest.out
      have HS := hidden hst
      have HA0 := hidden hA0
      have HA := hidden hA
      have HO := hidden hok
      clear hst hA0 hA hok hrest
      by_cases hlt : k < n
      · cases ao with
        | none => have := (H1.out rfl).1; have := Hn.out; subst L; simp at this; omega
        | some a =>
          obtain ⟨ba, oa, rfl, ka⟩ := H2.out a rfl (by intro e; have := Hn.out; subst e; simp at this; omega)
          have hkL : k < L.length := by have := Hn.out; omega
          have ca := hs_cell HS.out (ka k hkL)
          have ts := take_snoc_i L k hkL
          have HT := hidden ts
          clear ka ts
          have k1 : (k : Int) < (n : Int) := by omega
          by_cases hin : 0 ≤ L.getD k 0 ∧ L.getD k 0 ≤ 15
          · have HO2 := hidden (okTo_succ HO.out hin)
            obtain ⟨x0, x1⟩ := hin
            obtain ⟨x, hx⟩ := Int.eq_ofNat_of_zero_le x0
            rw [hx] at ca x0 x1 HT
            have HX := hidden hx
            clear hx x0
            by_cases hz : x = 0
            · subst hz
              go_wp2
              go_roundw
              case rel => exact ⟨k + 1, by omega, by go_num, HS.out, HA0.out, HA.out.congr (fun j _ => by rw [HT.out]; exact (cf_zero _ j).symm), HO2.out⟩
              case measure => simp [intOf]; omega
            · have hx0 : (0 : Int) < (x : Int) := by omega
              have hx16 : x < 16 := by omega
              have hc := HA.out x hx16
              have hb := cf_bd (L.take k) x
              have hlen : (L.take k).length ≤ 320 := by simp; omega
              obtain ⟨hc1, hc2⟩ := hc
              go_wp2
              go_roundw
              case rel =>
                refine ⟨k + 1, by omega, by go_num, HS.out.setCell _ _ (.inr ?_), ?_, ?_, HO2.out⟩
                · show w.heap.size ≤ w1.heap.size
                  omega
                · exact HA0.out.far _ _ (by show w1.heap.size ≠ w.heap.size; omega)
                · exact (HA.out.set x _).congr (fun j _ => by rw [HT.out, cf_snoc _ _ _ (by omega)])
              case measure => simp [intOf]; omega
          · have HB := hidden (okB_bad hkL hin)
            clear HT
            generalize L.getD k 0 = x at *
            by_cases hneg : x < 0
            · go_wp2_with (first | (refine load16 w1.heap.size (cf (L.take k)) rfl HA.out ?_) | (refine store16 w.heap.size (cf (L.take k)) (fun _ => 0) rfl rfl HA0.out ?_))
              intro w3 hs3 ha3
              have HR3 := hidden (And.intro (HS.out.trans hs3 (fun i hi => .inr (by omega))) ha3)
              clear hs3 ha3
              go_wp2
              refine bodyPost_ret (v := .tuple #[.agg (A16 (cf (L.take k))), .bool (okB L)]) ?_ rfl ⟨k, rfl, fun h => ?_, HR3.out.1⟩
              · have := HR3.out.2.load
                rw [HB.out]
                simp [results, Tryz.results95, asAddr, Result.andThen, this]
              · rw [HB.out] at h; cases h
            · have hpos : ¬ x < 0 := hneg
              have hbig : 15 < x := by omega
              go_wp2_with (first | (refine load16 w1.heap.size (cf (L.take k)) rfl HA.out ?_) | (refine store16 w.heap.size (cf (L.take k)) (fun _ => 0) rfl rfl HA0.out ?_))
              intro w3 hs3 ha3
              have HR3 := hidden (And.intro (HS.out.trans hs3 (fun i hi => .inr (by omega))) ha3)
              clear hs3 ha3
              go_wp2
              refine bodyPost_ret (v := .tuple #[.agg (A16 (cf (L.take k))), .bool (okB L)]) ?_ rfl ⟨k, rfl, fun h => ?_, HR3.out.1⟩
              · have := HR3.out.2.load
                rw [HB.out]
                simp [results, Tryz.results95, asAddr, Result.andThen, this]
              · rw [HB.out] at h; cases h
      · have hkn : k = L.length := by have := Hn.out; omega
        have HB := hidden (okTo_all (hkn ▸ HO.out) (by omega))
        clear hkn
        go_wp2_with (first | (refine load16 w1.heap.size (cf (L.take k)) rfl HA.out ?_) | (refine store16 w.heap.size (cf (L.take k)) (fun _ => 0) rfl rfl HA0.out ?_))
        intro w3 hs3 ha3
        have HR3 := hidden (And.intro (HS.out.trans hs3 (fun i hi => .inr (by omega))) ha3)
        clear hs3 ha3
        go_wp2
        refine bodyPost_ret (v := .tuple #[.agg (A16 (cf (L.take k))), .bool (okB L)]) ?_ rfl ⟨k, rfl, fun h => ?_, HR3.out.1⟩
        · have := HR3.out.2.load
          rw [HB.out]
          simp [results, Tryz.results95, asAddr, Result.andThen, this]
        · exact List.take_of_length_le (by have := Hn.out; omega)
  · have e1 : okB L = false := by
      cases e : okB L with
      | false => rfl
      | true => exact absurd ((okB_iff L).1 e).1 h320
    have hgt : (320 : Int) < (L.length : Int) := by omega
    generalize hn : L.length = n at *
    have E1 := hidden e1
    clear h320 e1 h1 h2 hn
    go_enter Tryz.func95, Tryz.ntmps95
    go_wp2_with (refine alloc16 ?_)
    intro w1 hs1 hz1 ha1
    go_wp2_with (refine alloc16 ?_)
    intro w2 hs2 hz2 ha2
    have HR := hidden (And.intro (hs1.made hs2) (And.intro (ha1.made hs2) ha2))
    clear hs1 ha1 hs2 ha2
    go_wp2_with (first | (refine load16 _ (fun _ => 0) rfl HR.out.2.2 ?_) | (refine store16 w.heap.size (fun _ => 0) (fun _ => 0) rfl rfl HR.out.2.1 ?_))
    intro w3 hs3 ha3
    have HR3 := hidden (And.intro (HR.out.1.trans hs3 (fun i hi => .inr (by omega))) ha3)
    clear hs3 ha3
    go_wp2
    refine bodyPost_ret (v := .tuple #[.agg (A16 (cf (L.take 0))), .bool (okB L)]) ?_ rfl ⟨0, rfl, fun h => ?_, HR3.out.1⟩
    · have := HR3.out.2.load
      rw [E1.out]
      simp [results, Tryz.results95, asAddr, Result.andThen, this]
      exact A16_congr (fun k _ => (cf_nil k).symm)
    · rw [E1.out] at h; cases h

end Go.Proofs.YtcgjmkcigmmjjaaGreatDoor

namespace Go.Proofs.YtcgjmkcigmmjjaaGreatDoor
open Go.RowKit
/-- The first code of each length. -/
def stf (f : Nat → Int) : Nat → Int
  | 0 => 0
  | k + 1 => (stf f k + f k) * 2

theorem stf_bd (f : Nat → Int) (h0 : ∀ k, 0 ≤ f k) (h1 : ∀ k, f k ≤ 320) : ∀ k, 0 ≤ stf f k ∧ stf f k + 640 ≤ 640 * 2 ^ k
  | 0 => by simp [stf]
  | k + 1 => by
    have ih := stf_bd f h0 h1 k
    have a := h0 k
    have b := h1 k
    simp only [stf, Int.pow_succ]
    omega

theorem stf_bd' (f : Nat → Int) (h0 : ∀ k, 0 ≤ f k) (h1 : ∀ k, f k ≤ 320) (k : Nat) (hk : k ≤ 16) : 0 ≤ stf f k ∧ stf f k ≤ 41943040 := by
  have h := stf_bd f h0 h1 k
  have : (2 ^ k : Nat) ≤ 2 ^ 16 := Nat.pow_le_pow_right (by omega) hk
  have e : ((2 ^ k : Nat) : Int) = (2 : Int) ^ k := by simp
  omega

end Go.Proofs.YtcgjmkcigmmjjaaGreatDoor

namespace Go.Proofs.YtcgjmkcigmmjjaaGreatDoor
/-- The code of each symbol. -/
def codeOf (L : List Int) (i : Nat) : Int := if L.getD i 0 = 0 then 0 else stf (cf L) (L.getD i 0).toNat + cf (L.take i) (L.getD i 0).toNat

def codes (L : List Int) : List Int := (List.range L.length).map (codeOf L)

theorem codes_length (L : List Int) : (codes L).length = L.length := by simp [codes]

theorem codes_getD (L : List Int) (k : Nat) (h : k < L.length) : (codes L).getD k 0 = codeOf L k := by simp [codes, List.getD, h]

/-- The error of Codes. -/
def codeErr (L : List Int) : Int := if okB L = true then (if fl (cf L) 16 ≤ 32768 then 0 else 21) else 1

def codesR (L : List Int) : List Int := if okB L = true then (if fl (cf L) 16 ≤ 32768 then codes L else []) else []

theorem cf_get (L : List Int) (k : Nat) (h : L.length ≤ 320) : 0 ≤ cf L k ∧ cf L k ≤ 320 := by
  have := cf_bd L k
  omega

theorem cf_take_snoc (L : List Int) (k x : Nat) (h : k < L.length) (hx : L.getD k 0 = (x : Int)) (h0 : 0 < x) (j : Nat) : cf (L.take (k + 1)) j = upd (cf (L.take k)) x (cf (L.take k) x + 1) j := by
  rw [take_snoc_i L k h, hx, cf_snoc _ _ _ h0]

theorem cf_take_zero (L : List Int) (k : Nat) (h : k < L.length) (hx : L.getD k 0 = 0) (j : Nat) : cf (L.take (k + 1)) j = cf (L.take k) j := by
  rw [take_snoc_i L k h, hx, cf_zero]

end Go.Proofs.YtcgjmkcigmmjjaaGreatDoor

namespace Go.Proofs.YtcgjmkcigmmjjaaGreatDoor
set_option linter.unusedVariables false
theorem fl_upd (f : Nat → Int) (n : Nat) : ∀ k, fl (upd f n (f n + 1)) k = fl f k + if n < k then 2 ^ (15 - n) else 0
  | 0 => by simp [fl]
  | k + 1 => by
    have ih := fl_upd f n k
    simp only [fl]
    rw [ih]
    unfold upd
    by_cases e : k = n
    · subst e
      rw [if_neg (by omega), if_pos rfl, if_pos (by omega), Int.add_mul]
      omega
    · rw [if_neg e]
      by_cases h : n < k
      · rw [if_pos h, if_pos (by omega)]; omega
      · rw [if_neg h, if_neg (by omega)]; omega

theorem fl_congr {f g : Nat → Int} (h : ∀ k, f k = g k) : ∀ k, fl f k = fl g k
  | 0 => rfl
  | k + 1 => by simp only [fl]; rw [fl_congr h k, h k]

/-- How much the first k fill. -/
def flt (L : List Int) : Nat → Int
  | 0 => 0
  | k + 1 => flt L k + if 0 < L.getD k 0 then 2 ^ (15 - (L.getD k 0).toNat) else 0

theorem flt_fl (L : List Int) (h : ∀ x ∈ L, 0 ≤ x ∧ x ≤ 15) : ∀ k, k ≤ L.length → flt L k = fl (cf (L.take k)) 16
  | 0, _ => by
    rw [show (L.take 0) = [] from rfl, fl_congr (g := fun _ => 0) (fun k => cf_nil k)]
    simp [flt, fl]
  | k + 1, hk => by
    have ih := flt_fl L h k (by omega)
    have hm := h (L.getD k 0) (by rw [getD_i L k (by omega)]; exact List.getElem_mem _)
    obtain ⟨x, hx⟩ := Int.eq_ofNat_of_zero_le hm.1
    simp only [flt]
    rw [ih, hx]
    by_cases e : x = 0
    · subst e
      rw [if_neg (by simp), fl_congr (fun j => cf_take_zero L k (by omega) hx j)]
      omega
    · rw [if_pos (by omega), fl_congr (fun j => cf_take_snoc L k x (by omega) hx (by omega) j), fl_upd, if_pos (by omega), Int.toNat_natCast]

theorem flt_all (L : List Int) (h : ∀ x ∈ L, 0 ≤ x ∧ x ≤ 15) : flt L L.length = fl (cf L) 16 := by
  rw [flt_fl L h L.length (Nat.le_refl _), List.take_of_length_le (Nat.le_refl _)]

theorem flt_bd (L : List Int) : ∀ k, 0 ≤ flt L k ∧ flt L k ≤ 32768 * k
  | 0 => by simp [flt]
  | k + 1 => by
    have ih := flt_bd L k
    have p0 : (1 : Int) ≤ 2 ^ (15 - (L.getD k 0).toNat) := ipow_pos _
    have p1 : (2 : Int) ^ (15 - (L.getD k 0).toNat) ≤ 32768 := by
      have : (2 ^ (15 - (L.getD k 0).toNat) : Nat) ≤ 2 ^ 15 := Nat.pow_le_pow_right (by omega) (by omega)
      have e : ((2 ^ (15 - (L.getD k 0).toNat) : Nat) : Int) = (2 : Int) ^ (15 - (L.getD k 0).toNat) := by simp
      omega
    simp only [flt]
    split <;> omega

theorem stf_succ (f : Nat → Int) (n : Nat) (h : 1 ≤ n) : stf f n = (stf f (n - 1) + f (n - 1)) * 2 := by
  cases n with
  | zero => omega
  | succ n => rfl

/-- What the page has laid when lengths below n are through, and of n the first i symbols. -/
def laid (L : List Int) (n i j : Nat) : Int := if (0 < L.getD j 0 ∧ L.getD j 0 < (n : Int)) ∨ (L.getD j 0 = (n : Int) ∧ j < i) then codeOf L j else 0

theorem laid_start (L : List Int) (h : ∀ x ∈ L, 0 ≤ x ∧ x ≤ 15) (j : Nat) (hj : j < L.length) : laid L 1 0 j = 0 := by
  unfold laid
  rw [if_neg]
  rintro (⟨h1, h2⟩ | ⟨_, h2⟩)
  · omega
  · omega

theorem laid_yes (L : List Int) (n i j : Nat) (hn : 0 < n) (hi : L.getD i 0 = (n : Int)) : laid L n (i + 1) j = upd (laid L n i) i (stf (cf L) n + cf (L.take i) n) j := by
  unfold upd
  by_cases e : j = i
  · subst e
    rw [if_pos rfl]
    unfold laid
    rw [if_pos (.inr ⟨hi, by omega⟩)]
    unfold codeOf
    rw [hi, if_neg (by omega), Int.toNat_natCast]
  · rw [if_neg e]
    unfold laid
    have : (L.getD j 0 = (n : Int) ∧ j < i + 1) ↔ (L.getD j 0 = (n : Int) ∧ j < i) := by
      constructor
      · rintro ⟨h1, h2⟩; exact ⟨h1, by omega⟩
      · rintro ⟨h1, h2⟩; exact ⟨h1, by omega⟩
    simp only [this]

theorem laid_no (L : List Int) (n i j : Nat) (hi : ¬ L.getD i 0 = (n : Int)) : laid L n (i + 1) j = laid L n i j := by
  unfold laid
  have : (L.getD j 0 = (n : Int) ∧ j < i + 1) ↔ (L.getD j 0 = (n : Int) ∧ j < i) := by
    constructor
    · rintro ⟨h1, h2⟩
      refine ⟨h1, ?_⟩
      by_cases e : j = i
      · subst e; exact absurd h1 hi
      · omega
    · rintro ⟨h1, h2⟩; exact ⟨h1, by omega⟩
  simp only [this]

theorem laid_next (L : List Int) (h : ∀ x ∈ L, 0 ≤ x ∧ x ≤ 15) (n j : Nat) (hn : 0 < n) (hj : j < L.length) : laid L (n + 1) 0 j = laid L n L.length j := by
  have hm := h (L.getD j 0) (by rw [getD_i L j hj]; exact List.getElem_mem _)
  unfold laid
  have : ((0 < L.getD j 0 ∧ L.getD j 0 < ((n + 1 : Nat) : Int)) ∨ (L.getD j 0 = ((n + 1 : Nat) : Int) ∧ j < 0)) ↔ ((0 < L.getD j 0 ∧ L.getD j 0 < (n : Int)) ∨ (L.getD j 0 = (n : Int) ∧ j < L.length)) := by
    constructor
    · rintro (⟨h1, h2⟩ | ⟨_, h2⟩)
      · by_cases e : L.getD j 0 = (n : Int)
        · exact .inr ⟨e, hj⟩
        · exact .inl ⟨h1, by omega⟩
      · omega
    · rintro (⟨h1, h2⟩ | ⟨h1, h2⟩)
      · exact .inl ⟨h1, by omega⟩
      · exact .inl ⟨by omega, by omega⟩
  simp only [this]

theorem laid_end (L : List Int) (h : ∀ x ∈ L, 0 ≤ x ∧ x ≤ 15) (j : Nat) (hj : j < L.length) : laid L 16 0 j = codeOf L j := by
  have hm := h (L.getD j 0) (by rw [getD_i L j hj]; exact List.getElem_mem _)
  unfold laid
  by_cases e : L.getD j 0 = 0
  · rw [if_neg (by omega)]
    unfold codeOf
    rw [if_pos e]
  · rw [if_pos (.inl ⟨by omega, by omega⟩)]

theorem cf_take_yes (L : List Int) (n i : Nat) (hn : 0 < n) (hi : i < L.length) (h : L.getD i 0 = (n : Int)) : cf (L.take (i + 1)) n = cf (L.take i) n + 1 := by
  rw [cf_take_snoc L i n hi h hn]
  unfold upd
  rw [if_pos rfl]

theorem cf_take_not (L : List Int) (n i : Nat) (hi : i < L.length) (h : ¬ L.getD i 0 = (n : Int)) : cf (L.take (i + 1)) n = cf (L.take i) n := by
  rw [take_snoc_i L i hi]
  unfold cf
  split
  · rfl
  · rw [List.count_append, List.count_singleton, if_neg (by simpa using h)]
    simp

end Go.Proofs.YtcgjmkcigmmjjaaGreatDoor

namespace Go.Proofs.YtcgjmkcigmmjjaaGreatDoor
set_option linter.unusedVariables false
theorem pow15 (n : Nat) (h : n ≤ 14) : (2 : Int) ^ (15 - n) = 2 * 2 ^ (15 - (n + 1)) := by
  rw [show 15 - n = (15 - (n + 1)) + 1 by omega, Int.pow_succ]
  omega

theorem stf_fl (f : Nat → Int) : ∀ n, n ≤ 15 → stf f n * 2 ^ (15 - n) = fl f n
  | 0, _ => by simp [stf, fl]
  | n + 1, h => by
    have ih := stf_fl f n (by omega)
    simp only [stf, fl]
    rw [← ih, pow15 n (by omega), ← Int.add_mul, Int.mul_assoc]

theorem fl_mono (f : Nat → Int) (h0 : ∀ k, 0 ≤ f k) (a : Nat) : ∀ d, fl f a ≤ fl f (a + d)
  | 0 => Int.le_refl _
  | d + 1 => by
    have ih := fl_mono f h0 a d
    have p := ipow_pos (15 - (a + d))
    have q : 0 ≤ f (a + d) * 2 ^ (15 - (a + d)) := Int.mul_nonneg (h0 _) (by omega)
    show fl f a ≤ fl f (a + d) + f (a + d) * 2 ^ (15 - (a + d))
    omega

theorem cf_take_lt (L : List Int) (i x : Nat) (hi : i < L.length) (hx : L.getD i 0 = (x : Int)) (h0 : 0 < x) : cf (L.take i) x + 1 ≤ cf L x := by
  have h1 := cf_take_yes L x i h0 hi hx
  have h2 : cf (L.take (i + 1)) x ≤ cf L x := by
    unfold cf
    rw [if_neg (by omega), if_neg (by omega)]
    have := (List.take_sublist (i + 1) L).count_le (x : Int)
    omega
  omega

theorem cf_take_mono (L : List Int) (i k x : Nat) (hik : i < k) (hi : i < L.length) (hx : L.getD i 0 = (x : Int)) (h0 : 0 < x) : cf (L.take i) x + 1 ≤ cf (L.take k) x := by
  have h1 := cf_take_yes L x i h0 hi hx
  have h2 : cf (L.take (i + 1)) x ≤ cf (L.take k) x := by
    unfold cf
    rw [if_neg (by omega), if_neg (by omega)]
    have e : L.take (i + 1) = (L.take k).take (i + 1) := by rw [List.take_take]; congr 1; omega
    rw [e]
    have := (List.take_sublist (i + 1) (L.take k)).count_le (x : Int)
    omega
  omega

theorem codeOf_eq (L : List Int) (i x : Nat) (hx : L.getD i 0 = (x : Int)) (h0 : 0 < x) : codeOf L i = stf (cf L) x + cf (L.take i) x := by
  unfold codeOf
  rw [hx, if_neg (by omega), Int.toNat_natCast]

theorem codeOf_nonneg (L : List Int) (i : Nat) : 0 ≤ codeOf L i := by
  unfold codeOf
  split
  · omega
  · have := cf_bd (L.take i) (L.getD i 0).toNat
    have h : ∀ n, 0 ≤ stf (cf L) n := by
      intro n
      induction n with
      | zero => simp [stf]
      | succ n ih => have := cf_bd L n; simp only [stf]; omega
    have := h (L.getD i 0).toNat
    omega

/-- Where a code's share begins and ends. -/
theorem share (L : List Int) (i x : Nat) (hi : i < L.length) (hx : L.getD i 0 = (x : Int)) (h0 : 0 < x) (h15 : x ≤ 15) :
    fl (cf L) x ≤ codeOf L i * 2 ^ (15 - x) ∧ (codeOf L i + 1) * 2 ^ (15 - x) ≤ fl (cf L) (x + 1) := by
  have p := ipow_pos (15 - x)
  have h1 := stf_fl (cf L) x h15
  have h2 := cf_take_lt L i x hi hx h0
  have h3 := cf_bd (L.take i) x
  rw [codeOf_eq L i x hx h0]
  constructor
  · rw [← h1]
    exact Int.mul_le_mul_of_nonneg_right (by omega) (by omega)
  · show _ ≤ fl (cf L) x + cf L x * 2 ^ (15 - x)
    rw [← h1, ← Int.add_mul]
    exact Int.mul_le_mul_of_nonneg_right (by omega) (by omega)

theorem code_lt (L : List Int) (i x : Nat) (hi : i < L.length) (hx : L.getD i 0 = (x : Int)) (h0 : 0 < x) (h15 : x ≤ 15) (hf : fl (cf L) 16 ≤ 32768) : codeOf L i * 2 ^ (15 - x) < 32768 ∧ codeOf L i < 2 ^ x := by
  have s := (share L i x hi hx h0 h15).2
  have m := fl_mono (cf L) (fun k => (cf_bd L k).1) (x + 1) (15 - x)
  rw [show x + 1 + (15 - x) = 16 by omega] at m
  have p := ipow_pos (15 - x)
  rw [Int.add_mul] at s
  refine ⟨by omega, ?_⟩
  have e : (2 : Int) ^ x * 2 ^ (15 - x) = 32768 := by
    rw [← Int.pow_add, show x + (15 - x) = 15 by omega]; rfl
  apply Classical.byContradiction
  intro hc
  have : (2 : Int) ^ x * 2 ^ (15 - x) ≤ codeOf L i * 2 ^ (15 - x) := Int.mul_le_mul_of_nonneg_right (by omega) (by omega)
  omega

theorem code_below (L : List Int) (i k x y : Nat) (hi : i < L.length) (hk : k < L.length) (hx : L.getD i 0 = (x : Int)) (hy : L.getD k 0 = (y : Int)) (h0 : 0 < x) (hxy : x < y) (h15 : y ≤ 15) :
    codeOf L i * 2 ^ (15 - x) < codeOf L k * 2 ^ (15 - y) := by
  have s1 := (share L i x hi hx h0 (by omega)).2
  have s2 := (share L k y hk hy (by omega) h15).1
  have m := fl_mono (cf L) (fun k => (cf_bd L k).1) (x + 1) (y - (x + 1))
  rw [show x + 1 + (y - (x + 1)) = y by omega] at m
  have p := ipow_pos (15 - x)
  rw [Int.add_mul] at s1
  omega

theorem code_rank (L : List Int) (i k x : Nat) (hi : i < L.length) (hx : L.getD i 0 = (x : Int)) (hy : L.getD k 0 = (x : Int)) (h0 : 0 < x) (hik : i < k) : codeOf L i < codeOf L k := by
  rw [codeOf_eq L i x hx h0, codeOf_eq L k x hy h0]
  have := cf_take_mono L i k x hik hi hx h0
  omega

/-- A longer code begins behind all codes of a lesser length. -/
theorem code_prefix (L : List Int) (i k x y : Nat) (hi : i < L.length) (hk : k < L.length) (hx : L.getD i 0 = (x : Int)) (hy : L.getD k 0 = (y : Int)) (h0 : 0 < x) (hxy : x < y) (h15 : y ≤ 15) :
    codeOf L i < codeOf L k / 2 ^ (y - x) := by
  have s1 := (share L i x hi hx h0 (by omega)).2
  have s2 := (share L k y hk hy (by omega) h15).1
  have m := fl_mono (cf L) (fun k => (cf_bd L k).1) (x + 1) (y - (x + 1))
  rw [show x + 1 + (y - (x + 1)) = y by omega] at m
  have p := ipow_pos (15 - y)
  have pd := ipow_pos (y - x)
  have e : (2 : Int) ^ (15 - x) = 2 ^ (y - x) * 2 ^ (15 - y) := by
    rw [← Int.pow_add, show y - x + (15 - y) = 15 - x by omega]
  rw [e, ← Int.mul_assoc] at s1
  have h : (codeOf L i + 1) * 2 ^ (y - x) ≤ codeOf L k := by
    apply Classical.byContradiction
    intro hc
    have : (codeOf L k + 1) * 2 ^ (15 - y) ≤ (codeOf L i + 1) * 2 ^ (y - x) * 2 ^ (15 - y) := Int.mul_le_mul_of_nonneg_right (by omega) (by omega)
    rw [Int.add_mul] at this
    omega
  have := (Int.le_ediv_iff_mul_le (c := 2 ^ (y - x)) (by omega)).2 h
  omega

end Go.Proofs.YtcgjmkcigmmjjaaGreatDoor

namespace Go.Proofs.YtcgjmkcigmmjjaaGreatDoor
set_option linter.unusedVariables false
/-- How many codes are shorter. -/
def plc (f : Nat → Int) : Nat → Int
  | 0 => 0
  | k + 1 => plc f k + f k

theorem plc_mono (f : Nat → Int) (h0 : ∀ k, 0 ≤ f k) (a : Nat) : ∀ d, plc f a ≤ plc f (a + d)
  | 0 => Int.le_refl _
  | d + 1 => by
    have ih := plc_mono f h0 a d
    have := h0 (a + d)
    show plc f a ≤ plc f (a + d) + f (a + d)
    omega

theorem plc_nonneg (f : Nat → Int) (h0 : ∀ k, 0 ≤ f k) (a : Nat) : 0 ≤ plc f a := by
  have := plc_mono f h0 0 a
  rw [Nat.zero_add] at this
  exact this

theorem plc_le (f : Nat → Int) (h0 : ∀ k, 0 ≤ f k) (a b : Nat) (h : a ≤ b) : plc f a ≤ plc f b := by
  have := plc_mono f h0 a (b - a)
  rwa [show a + (b - a) = b by omega] at this

/-- The place of a symbol. -/
def pos (L : List Int) (i : Nat) : Int := plc (cf L) (L.getD i 0).toNat + cf (L.take i) (L.getD i 0).toNat

theorem pos_eq (L : List Int) (i x : Nat) (hx : L.getD i 0 = (x : Int)) : pos L i = plc (cf L) x + cf (L.take i) x := by
  unfold pos; rw [hx, Int.toNat_natCast]

theorem pos_bd (L : List Int) (i x : Nat) (hi : i < L.length) (hx : L.getD i 0 = (x : Int)) (h0 : 0 < x) : 0 ≤ pos L i ∧ pos L i < plc (cf L) (x + 1) := by
  rw [pos_eq L i x hx]
  have h1 := cf_take_lt L i x hi hx h0
  have h2 := plc_nonneg (cf L) (fun k => (cf_bd L k).1) x
  have h3 := cf_bd (L.take i) x
  show _ ∧ _ < plc (cf L) x + cf L x
  omega

theorem pos_lt (L : List Int) (i x : Nat) (hi : i < L.length) (hx : L.getD i 0 = (x : Int)) (h0 : 0 < x) (h15 : x ≤ 15) : 0 ≤ pos L i ∧ pos L i < plc (cf L) 16 := by
  have h1 := pos_bd L i x hi hx h0
  have h2 := plc_le (cf L) (fun k => (cf_bd L k).1) (x + 1) 16 (by omega)
  omega

theorem pos_ne (L : List Int) (i j x y : Nat) (hi : i < L.length) (hj : j < L.length) (hx : L.getD i 0 = (x : Int)) (hy : L.getD j 0 = (y : Int)) (h0 : 0 < x) (h1 : 0 < y) (hij : i < j) : pos L i ≠ pos L j := by
  have a := pos_bd L i x hi hx h0
  have b := pos_bd L j y hj hy h1
  rcases Nat.lt_trichotomy x y with h | h | h
  · have := plc_le (cf L) (fun k => (cf_bd L k).1) (x + 1) y (by omega)
    have c : plc (cf L) y ≤ pos L j := by rw [pos_eq L j y hy]; have := cf_bd (L.take j) y; omega
    omega
  · subst h
    rw [pos_eq L i x hx, pos_eq L j x hy]
    have := cf_take_mono L i j x hij hi hx h0
    omega
  · have := plc_le (cf L) (fun k => (cf_bd L k).1) (y + 1) x (by omega)
    have c : plc (cf L) x ≤ pos L i := by rw [pos_eq L i x hx]; have := cf_bd (L.take i) x; omega
    omega

/-- Each rank is some symbol's. -/
theorem rank_hit (L : List Int) (x : Nat) (h0 : 0 < x) : ∀ k, k ≤ L.length → ∀ r : Int, 0 ≤ r → r < cf (L.take k) x → ∃ i, i < k ∧ L.getD i 0 = (x : Int) ∧ cf (L.take i) x = r
  | 0, _, r, hr, h => by rw [show L.take 0 = [] from rfl, cf_nil] at h; omega
  | k + 1, hk, r, hr, h => by
    by_cases e : L.getD k 0 = (x : Int)
    · rw [cf_take_yes L x k h0 (by omega) e] at h
      by_cases e2 : r = cf (L.take k) x
      · exact ⟨k, by omega, e, e2.symm⟩
      · obtain ⟨i, h1, h2, h3⟩ := rank_hit L x h0 k (by omega) r hr (by omega)
        exact ⟨i, by omega, h2, h3⟩
    · rw [cf_take_not L x k (by omega) e] at h
      obtain ⟨i, h1, h2, h3⟩ := rank_hit L x h0 k (by omega) r hr h
      exact ⟨i, by omega, h2, h3⟩

theorem rank_hit' (L : List Int) (x : Nat) (h0 : 0 < x) (r : Int) (hr : 0 ≤ r) (h : r < cf L x) : ∃ i, i < L.length ∧ L.getD i 0 = (x : Int) ∧ cf (L.take i) x = r :=
  rank_hit L x h0 L.length (Nat.le_refl _) r hr (by rw [List.take_of_length_le (Nat.le_refl _)]; exact h)

/-- Is there a longer code? -/
theorem plc_more (L : List Int) (h : ∀ x ∈ L, 0 ≤ x ∧ x ≤ 15) (n : Nat) (i x : Nat) (hi : i < L.length) (hx : L.getD i 0 = (x : Int)) (hn : n ≤ x) (h0 : 0 < x) : plc (cf L) n < plc (cf L) 16 := by
  have hm := h (L.getD i 0) (by rw [getD_i L i hi]; exact List.getElem_mem _)
  have a := pos_lt L i x hi hx h0 (by omega)
  have b : plc (cf L) x ≤ pos L i := by rw [pos_eq L i x hx]; have := cf_bd (L.take i) x; omega
  have c := plc_le (cf L) (fun k => (cf_bd L k).1) n x hn
  omega

theorem plc_bd (L : List Int) (h : L.length ≤ 320) (n : Nat) (hn : n ≤ 16) : 0 ≤ plc (cf L) n ∧ plc (cf L) n ≤ 5120 := by
  refine ⟨plc_nonneg _ (fun k => (cf_bd L k).1) n, ?_⟩
  have : ∀ k, plc (cf L) k ≤ 320 * k := by
    intro k
    induction k with
    | zero => simp [plc]
    | succ k ih => have := (cf_get L k h).2; simp only [plc]; omega
  have := this n
  omega

end Go.Proofs.YtcgjmkcigmmjjaaGreatDoor

namespace Go.Proofs.YtcgjmkcigmmjjaaGreatDoor
open Go.RowKit
set_option maxRecDepth 100000
set_option linter.unusedVariables false
theorem far_cell' {W : World} {q : Addr} {u v : Value} {b o : Nat} (h : W.cell? ⟨b, o, none⟩ = some v) (hq : q.block ≠ b) : (W.setCell q u).cell? ⟨b, o, none⟩ = some v := by
  rw [World.cell?_setCell_other (a := q) (b := ⟨b, o, none⟩) _ _ (by intro e; apply hq; rw [e])]
  exact h

end Go.Proofs.YtcgjmkcigmmjjaaGreatDoor

namespace Go.Proofs.YtcgjmkcigmmjjaaGreatDoor
open Go.RowKit
theorem count_set_lt (listed : Array Bool) (i : Nat) (h : listed.getD i true = false) : (listed.setIfInBounds i true).toList.count false < listed.toList.count false := by
  have hi : i < listed.size := by
    rcases Nat.lt_or_ge i listed.size with h' | h'
    · exact h'
    · simp [Array.getElem?_eq_none h'] at h
  have hv : listed[i] = false := by simpa [hi] using h
  have hl : i < listed.toList.length := by simpa using hi
  have hc : 0 < listed.toList.count false := List.count_pos_iff.2 (by
    have := List.getElem_mem hl
    rwa [Array.getElem_toList, hv] at this)
  rw [Array.toList_setIfInBounds, List.count_set hl]
  have e : listed.toList[i] = false := by rw [Array.getElem_toList, hv]
  rw [e]
  simp only [beq_self_eq_true, if_true]
  have e2 : ((true : Bool) == false) = false := rfl
  rw [e2]
  simp only [Bool.false_eq_true, if_false, Nat.add_zero]
  omega

theorem wpAny_inv {P : Program} {md : Region.Mode} {ops : Array Oper} {Q : Exit → Act → World → Prop} (J : Array Bool → Act → World → Prop)
    (hsize : ∀ listed a w, J listed a w → listed.size = ops.size)
    (hend : ∀ listed a w, J listed a w → Region.ready md ops listed = [] → Q .normal a w)
    (hstep : ∀ listed a w, J listed a w → ∀ i ∈ Region.ready md ops listed, wpOp P ops Q i (J (listed.setIfInBounds i true)) a w) :
    ∀ fuel listed a w, listed.toList.count false ≤ fuel → J listed a w → wpAny P md ops Q fuel listed a w
  | 0, listed, a, w, hc, hJ => by
    have hr : Region.ready md ops listed = [] := by
      apply List.eq_nil_iff_forall_not_mem.2
      intro i hi
      have := count_set_lt listed i (mem_ready.1 hi).1
      omega
    exact ⟨hr, hend _ _ _ hJ hr⟩
  | fuel + 1, listed, a, w, hc, hJ => by
    refine ⟨hend _ _ _ hJ, fun i hi => wpOp_mono (fun a' w' h' => ?_) (hstep _ _ _ hJ i hi)⟩
    refine wpAny_inv J hsize hend hstep fuel _ a' w' ?_ h'
    have := count_set_lt listed i (mem_ready.1 hi).1
    omega

/-- Each operation has a slot of its own, none of those that are read as they were; it waits for earlier ones alone. -/
def regionOk (ops : Array Oper) (n : Nat) (dst : Nat → Nat) (base : List Nat) : Bool :=
  (List.range ops.size).all fun k => match ops[k]? with
    | none => false
    | some o => (o.dst == some (dst k)) && decide (dst k < n) && !base.contains (dst k) && (o.after.all fun e => decide (e.on < k)) && (List.range ops.size).all fun j => j == k || dst j != dst k

structure RegionOk (ops : Array Oper) (n : Nat) (dst : Nat → Nat) (base : List Nat) : Prop where
  slot : ∀ (k : Nat) (o : Oper), ops[k]? = some o → o.dst = some (dst k)
  lt : ∀ k, k < ops.size → dst k < n
  free : ∀ k, k < ops.size → dst k ∉ base
  after : ∀ (k : Nat) (o : Oper), ops[k]? = some o → ∀ e ∈ o.after, e.on < k
  inj : ∀ j k, j < ops.size → k < ops.size → j ≠ k → dst j ≠ dst k

theorem regionOk_spec {ops : Array Oper} {n : Nat} {dst : Nat → Nat} {base : List Nat} (h : regionOk ops n dst base = true) : RegionOk ops n dst base := by
  have each : ∀ (k : Nat) (o : Oper), ops[k]? = some o → k < ops.size ∧ o.dst = some (dst k) ∧ dst k < n ∧ dst k ∉ base ∧ (∀ e ∈ o.after, e.on < k) ∧ ∀ j, j < ops.size → j = k ∨ dst j ≠ dst k := by
    intro k o ho
    have hk : k < ops.size := (Array.getElem?_eq_some_iff.1 ho).1
    have := List.all_eq_true.1 h k (List.mem_range.2 hk)
    simp only [ho, Bool.and_eq_true, beq_iff_eq, decide_eq_true_eq, Bool.not_eq_true', List.all_eq_true, List.mem_range, Bool.or_eq_true, bne_iff_ne, Array.all_eq_true_iff_forall_mem] at this
    obtain ⟨⟨⟨⟨h1, h2⟩, h3⟩, h4⟩, h5⟩ := this
    exact ⟨hk, h1, h2, by simpa using h3, h4, h5⟩
  have get : ∀ k, k < ops.size → ∃ o, ops[k]? = some o := fun k hk => ⟨ops[k], by simp [hk]⟩
  refine ⟨fun k o ho => (each k o ho).2.1, fun k hk => ?_, fun k hk => ?_, fun k o ho => (each k o ho).2.2.2.2.1, fun j k hj hk hne => ?_⟩
  · obtain ⟨o, ho⟩ := get k hk; exact (each k o ho).2.2.1
  · obtain ⟨o, ho⟩ := get k hk; exact (each k o ho).2.2.2.1
  · obtain ⟨o, ho⟩ := get k hk
    rcases (each k o ho).2.2.2.2.2 j hj with e | e
    · exact absurd e hne
    · exact e

theorem eval_put_same (a : Act) (d : Nat) (v : Value) (h : d < a.tmps.size) : (a.put (some d) v).eval (.tmp d) = v := by
  simp [Act.put, Act.eval, h]

theorem eval_put_other (a : Act) (d t : Nat) (v : Value) (h : d ≠ t) : (a.put (some d) v).eval (.tmp t) = a.eval (.tmp t) :=
  Act.eval_put fun d' hd e => by
    have h1 : d = d' := Option.some.inj hd
    have h2 : t = d' := by injection e
    exact h (h1.trans h2.symm)

/-- What is known while such a region runs. -/
structure RInv (ops : Array Oper) (n : Nat) (dst : Nat → Nat) (base : List (Nat × Value)) (w0 : World) (F : Nat → World → Value → Prop) (listed : Array Bool) (a : Act) (w : World) : Prop where
  size : listed.size = ops.size
  defers : a.defers = []
  tmps : a.tmps.size = n
  step : Step (fun _ => False) w0 w
  base : ∀ x ∈ base, a.eval (.tmp x.1) = x.2
  fact : ∀ k, listed.getD k false = true → F k w (a.eval (.tmp (dst k)))

theorem region_inv {P : Program} {ops : Array Oper} {Q : Exit → Act → World → Prop} {id : Nat} {a : Act} {w : World} (hm : P.follows .mixedOrders = true) (n : Nat) (dst : Nat → Nat) (base : List (Nat × Value)) (F : Nat → World → Value → Prop)
    (hok : regionOk ops n dst (base.map (·.1)) = true)
    (hmono : ∀ k u u' v, F k u v → Step (fun _ => False) u u' → F k u' v)
    (hd : a.defers = []) (hn : a.tmps.size = n) (hb : ∀ x ∈ base, a.eval (.tmp x.1) = x.2)
    (hops : ∀ (k : Nat) (o : Oper), ops[k]? = some o → ∀ (b : Act) (u : World), b.tmps.size = n → Step (fun _ => False) w u → (∀ x ∈ base, b.eval (.tmp x.1) = x.2) → (∀ e ∈ o.after, Region.binds .any e = true → F e.on u (b.eval (.tmp (dst e.on)))) →
      Region.wanted o (yielded ops b.tmps) = true ∧ o.wp P b u (fun b' u' => ∃ v, b' = b.put o.dst v ∧ Step (fun _ => False) u u' ∧ F k u' v) Q)
    (hend : ∀ (b : Act) (u : World), b.defers = [] → b.tmps.size = n → Step (fun _ => False) w u → (∀ x ∈ base, b.eval (.tmp x.1) = x.2) → (∀ k, k < ops.size → F k u (b.eval (.tmp (dst k)))) → Q .normal b u) :
    (Code.region id ops true).wp P Q a w := by
  have ok := regionOk_spec hok
  refine wp_region_any hm ?_
  refine wpAny_inv (RInv ops n dst base w F) (fun _ _ _ h => h.size) ?_ ?_ _ _ _ _ ?_ ?_
  · intro listed b u h hr
    refine hend b u h.defers h.tmps h.step h.base fun k hk => h.fact k ?_
    have all : ∀ k, k < ops.size → listed.getD k false = true := by
      intro k
      induction k using Nat.strongRecOn with
      | _ k ih =>
        intro hk
        cases hl : listed.getD k false with
        | true => rfl
        | false =>
          exfalso
          have hks : k < listed.size := by rw [h.size]; exact hk
          have hmem : k ∈ Region.ready .any ops listed := mem_ready.2 ⟨getD_in hks hl, ops[k], by simp [hk], fun e he _ => by
            have hlt := ok.after k ops[k] (by simp [hk]) e he
            exact ih e.on hlt (by omega)⟩
          rw [hr] at hmem
          cases hmem
    exact all k hk
  · intro listed b u h i hi
    obtain ⟨hun, o, ho, hall⟩ := mem_ready.1 hi
    have hisz : i < ops.size := (Array.getElem?_eq_some_iff.1 ho).1
    obtain ⟨hw, hwp⟩ := hops i o ho b u h.tmps h.step h.base (fun e he hbd => h.fact e.on (hall e he hbd))
    unfold wpOp
    simp only [ho, hw, if_true]
    refine .inl (Oper.wp_mono (fun b' u' hh => ?_) hwp)
    obtain ⟨v, rfl, hst, hf⟩ := hh
    rw [ok.slot i o ho]
    refine ⟨by simp [h.size], ?_, ?_, h.step.trans hst (fun _ hx => .inl hx), fun x hx => ?_, fun k hk => ?_⟩
    · simpa [Act.put] using h.defers
    · simpa [Act.put] using h.tmps
    · rw [eval_put_other b _ _ v (fun e => ok.free i hisz (by rw [e]; exact List.mem_map.2 ⟨x, hx, rfl⟩))]
      exact h.base x hx
    · by_cases hki : i = k
      · subst hki
        rw [eval_put_same b _ v (by rw [h.tmps]; exact ok.lt i hisz)]
        exact hf
      · rw [getD_set_ne false hki] at hk
        have hksz : k < ops.size := by
          rcases Nat.lt_or_ge k listed.size with h' | h'
          · rw [← h.size]; exact h'
          · simp [Array.getElem?_eq_none h'] at hk
        rw [eval_put_other b _ _ v (ok.inj i k hisz hksz hki)]
        exact hmono k u u' _ (h.fact k hk) hst
  · simp
  · refine ⟨by simp, hd, hn, (Step.refl (fun _ => False) w).drew, hb, fun k hk => ?_⟩
    rw [getD_replicate_false] at hk
    cases hk

theorem wp_run {P : Program} {o : Oper} {a : Act} {w w' : World} {K : Act → World → Prop} {Q : Exit → Act → World → Prop} {v : Value} (h : (execOp a.eval o).run P w = .ok (.value v) w') (hK : K (a.put o.dst v) w') : o.wp P a w K Q := by
  unfold Oper.wp
  rw [h]
  exact hK

theorem wp_enter {P : Program} {o : Oper} {a : Act} {w : World} {K : Act → World → Prop} {Q : Exit → Act → World → Prop} {f : FuncId} {args : Array Value} (h : (execOp a.eval o).run P w = .ok (.enter f args) w)
    (hc : Calls P f args w fun e w' => ∃ v, e = .returned v ∧ K (a.put o.dst v) w') : o.wp P a w K Q := by
  unfold Oper.wp
  rw [h]
  exact Calls.mono hc fun e w' he => by obtain ⟨v, rfl, hk⟩ := he; exact hk

theorem yielded_of {ops : Array Oper} {a : Act} {j d n : Nat} {b : Bool} (ho : (ops[j]?).bind (·.dst) = some d) (hn : a.tmps.size = n) (hd : d < n) (h : a.eval (.tmp d) = .bool b) : yielded ops a.tmps j = some b := by
  have e : a.tmps[d]? = some (.bool b) := by
    have hd' : d < a.tmps.size := by omega
    have : a.tmps.getD d undef = .bool b := h
    simp [hd'] at this
    simp [hd', this]
  unfold yielded
  rw [ho]
  simp [e]

end Go.Proofs.YtcgjmkcigmmjjaaGreatDoor

namespace Go.Proofs.YtcgjmkcigmmjjaaGreatDoor
open Go.RowKit
set_option maxRecDepth 100000
set_option linter.unusedVariables false
/-- No code, or one alone, of length 1. -/
def fewB (f : Nat → Int) : Bool := fl f 16 == 0 || (fl f 16 == 16384 && f 1 == 1)

end Go.Proofs.YtcgjmkcigmmjjaaGreatDoor

namespace Go.Proofs.YtcgjmkcigmmjjaaGreatDoor
open Go.RowKit
set_option maxRecDepth 100000
set_option linter.unusedVariables false
/-- A decoder's cells as New lays them. -/
def D21 (f : Nat → Int) (b tot : Nat) : Array Value := #[.int .i64 (f 0), .int .i64 (f 1), .int .i64 (f 2), .int .i64 (f 3), .int .i64 (f 4), .int .i64 (f 5), .int .i64 (f 6), .int .i64 (f 7), .int .i64 (f 8), .int .i64 (f 9), .int .i64 (f 10), .int .i64 (f 11), .int .i64 (f 12), .int .i64 (f 13), .int .i64 (f 14), .int .i64 (f 15), .slice (some ⟨b, 0, none⟩) tot tot, .int .i64 0, .int .i64 0, .int .i64 0, .int .i64 0]

/-- A decoder of lengths L in block d: its code so far, and how many bits. -/
structure Dec (w : World) (d : Nat) (L : List Int) (bs tot : Nat) (code len : Nat) : Prop where
  cn : ∀ k, k < 16 → w.cell? ⟨d, k, none⟩ = some (.int .i64 (cf L k))
  cs : w.cell? ⟨d, 16, none⟩ = some (.slice (some ⟨bs, 0, none⟩) tot tot)
  sy : ∀ i, i < L.length → 0 < L.getD i 0 → w.cell? ⟨bs, (pos L i).toNat, none⟩ = some (.int .i64 (i : Int))
  c1 : w.cell? ⟨d, 17, none⟩ = some (.int .i64 (code : Int))
  c2 : w.cell? ⟨d, 18, none⟩ = some (.int .i64 (len : Int))
  c3 : w.cell? ⟨d, 19, none⟩ = some (.int .i64 (stf (cf L) len))
  c4 : w.cell? ⟨d, 20, none⟩ = some (.int .i64 (plc (cf L) len))
  fz : ∀ k, 17 ≤ k → k ≤ 20 → w.frozen? ⟨d, k, none⟩ = false
  to : plc (cf L) 16 = (tot : Int)
  ne : bs ≠ d

theorem D21_get (f : Nat → Int) (b tot k : Nat) (h : k < 16) : (D21 f b tot)[k]? = some (.int .i64 (f k)) := by
  have : k = 0 ∨ k = 1 ∨ k = 2 ∨ k = 3 ∨ k = 4 ∨ k = 5 ∨ k = 6 ∨ k = 7 ∨ k = 8 ∨ k = 9 ∨ k = 10 ∨ k = 11 ∨ k = 12 ∨ k = 13 ∨ k = 14 ∨ k = 15 := by omega
  rcases this with rfl | rfl | rfl | rfl | rfl | rfl | rfl | rfl | rfl | rfl | rfl | rfl | rfl | rfl | rfl | rfl <;> rfl

theorem Dec.new {w : World} {L : List Int} {bs tot : Nat} (hb : bs < w.heap.size) (hs : ∀ i, i < L.length → 0 < L.getD i 0 → w.cell? ⟨bs, (pos L i).toNat, none⟩ = some (.int .i64 (i : Int))) (ht : plc (cf L) 16 = (tot : Int)) (t : TypeId) :
    Dec (w.alloc (.cells (D21 (cf L) bs tot) t)) w.heap.size L bs tot 0 0 := by
  have hc : ∀ k v, (D21 (cf L) bs tot)[k]? = some v → (w.alloc (.cells (D21 (cf L) bs tot) t)).cell? ⟨w.heap.size, k, none⟩ = some v := fun k v h => by rw [World.cell?_alloc_at _ _ _ _ rfl]; exact h
  refine ⟨fun k hk => hc k _ (D21_get _ _ _ k hk), hc 16 _ rfl, fun i h1 h2 => ?_, hc 17 _ rfl, hc 18 _ rfl, hc 19 _ rfl, hc 20 _ rfl, fun k _ _ => World.frozen?_alloc_at _ _ _ _ rfl, ht, by omega⟩
  rw [World.cell?_alloc_past _ _ _ hb]
  exact hs i h1 h2

theorem Dec.made {w w' : World} {d : Nat} {L : List Int} {bs tot code len : Nat} (h : Dec w d L bs tot code len) (hs : Step (fun _ => False) w w') : Dec w' d L bs tot code len :=
  ⟨fun k hk => hs.cell (h.cn k hk) (fun h => h), hs.cell h.cs (fun h => h), fun i h1 h2 => hs.cell (h.sy i h1 h2) (fun h => h), hs.cell h.c1 (fun h => h), hs.cell h.c2 (fun h => h), hs.cell h.c3 (fun h => h), hs.cell h.c4 (fun h => h),
    fun k h1 h2 => (hs.frozen (p := ⟨d, k, none⟩) (World.block_lt_of_cell? w ⟨d, 17, none⟩ h.c1) (fun h => h)).trans (h.fz k h1 h2), h.to, h.ne⟩

/-- The error of New. -/
def newErr (L : List Int) : Int := if okB L = true then (if fl (cf L) 16 = 32768 ∨ fewB (cf L) = true then 0 else 21) else 1

/-- What New leaves. -/
def NewP (L : List Int) (w : World) (e : Ending) (w' : World) : Prop :=
  (newErr L ≠ 0 ∧ e = .returned (.tuple #[.pointer none, .int .i64 (newErr L)]) ∧ Step (fun _ => False) w w') ∨
  (newErr L = 0 ∧ ∃ d bs tot, e = .returned (.tuple #[.pointer (some ⟨d, 0, none⟩), .int .i64 0]) ∧ w.heap.size ≤ d ∧ w.heap.size ≤ bs ∧ Dec w' d L bs tot 0 0 ∧ Step (fun _ => False) w w')

/-- What each operation of New's last region leaves. -/
def NF (a : Option Addr) (len cap : Nat) (w0 : World) (L : List Int) (tot : Nat) : Nat → World → Value → Prop
  | 1, _, v => v = .slice a len cap
  | 3, u, v => ∃ b, v = .slice (some ⟨b, 0, none⟩) tot tot ∧ w0.heap.size ≤ b ∧ b < u.heap.size ∧ ∀ i, i < L.length → 0 < L.getD i 0 → u.cell? ⟨b, (pos L i).toNat, none⟩ = some (.int .i64 (i : Int))
  | 4, u, v => ∃ b, v = .agg (D21 (cf L) b tot) ∧ w0.heap.size ≤ b ∧ b < u.heap.size ∧ ∀ i, i < L.length → 0 < L.getD i 0 → u.cell? ⟨b, (pos L i).toNat, none⟩ = some (.int .i64 (i : Int))
  | 5, u, v => ∃ d b, v = .pointer (some ⟨d, 0, none⟩) ∧ w0.heap.size ≤ d ∧ w0.heap.size ≤ b ∧ Dec u d L b tot 0 0
  | 6, u, v => ∃ d b, v = .pointer (some ⟨d, 0, none⟩) ∧ w0.heap.size ≤ d ∧ w0.heap.size ≤ b ∧ Dec u d L b tot 0 0
  | 7, _, v => v = .int .i64 0
  | _, _, v => v = .agg (A16 (cf L))

theorem NF.mono {a : Option Addr} {len cap : Nat} {w0 : World} {L : List Int} {tot : Nat} (k : Nat) (u u' : World) (v : Value) (h : NF a len cap w0 L tot k u v) (hs : Step (fun _ => False) u u') : NF a len cap w0 L tot k u' v := by
  have hsz := hs.size
  match k, h with
  | 0, h => exact h
  | 1, h => exact h
  | 2, h => exact h
  | 3, ⟨b, h1, h2, h3, h4⟩ => exact ⟨b, h1, h2, by omega, fun i a1 a2 => hs.cell (h4 i a1 a2) (fun h => h)⟩
  | 4, ⟨b, h1, h2, h3, h4⟩ => exact ⟨b, h1, h2, by omega, fun i a1 a2 => hs.cell (h4 i a1 a2) (fun h => h)⟩
  | 5, ⟨d, b, h1, h2, h3, h4⟩ => exact ⟨d, b, h1, h2, h3, h4.made hs⟩
  | 6, ⟨d, b, h1, h2, h3, h4⟩ => exact ⟨d, b, h1, h2, h3, h4.made hs⟩
  | 7, h => exact h
  | n + 8, h => exact h

theorem hrun_enter {f : FuncId} {fn : Func} {c : Code} (hf : Tryz.prog.funcs[f]? = some fn) (hname : (fn.name == "runtime.NumGoroutine") = false) (hb : fn.body = some c) (args : Array Value) (u : World) :
    (callFunc f args).run Tryz.prog u = .ok (.enter f args) u := by
  have h1 : fn.name ≠ "runtime.NumGoroutine" := by simpa using hname
  simp [callFunc, hf, h1, hb]

theorem run_call2 {f : FuncId} {fn : Func} {c : Code} (hf : Tryz.prog.funcs[f]? = some fn) (hname : (fn.name == "runtime.NumGoroutine") = false) (hb : fn.body = some c) (v v' : Value) (u : World) (o : Oper) (b : Act) (p q : Nat) (t t' : TypeId) (ho : o.op = .call { callee := .value (.func f), args := #[.tmp p, .tmp q], argTypes := #[t, t'] }) (hp : b.eval (.tmp p) = v) (hq : b.eval (.tmp q) = v') :
    (execOp b.eval o).run Tryz.prog u = .ok (.enter f #[v, v']) u := by
  subst hp
  subst hq
  simp [execOp, ho]
  simp [go_sem, hrun_enter hf hname hb]

end Go.Proofs.YtcgjmkcigmmjjaaGreatDoor

namespace Go.Proofs.YtcgjmkcigmmjjaaGreatDoor
open Go.RowKit
set_option maxRecDepth 100000
set_option linter.unusedVariables false
theorem oth {W : World} {b i j : Nat} {u v : Value} (h : W.cell? ⟨b, i, none⟩ = some v) (hij : j ≠ i) : (W.setCell ⟨b, j, none⟩ u).cell? ⟨b, i, none⟩ = some v := by
  rw [World.cell?_setCell_other (a := ⟨b, j, none⟩) (b := ⟨b, i, none⟩) _ _ (by intro e; injection e with _ e2; exact hij e2)]
  exact h

theorem sam {W : World} {b i : Nat} {u v : Value} (h : W.cell? ⟨b, i, none⟩ = some v) : (W.setCell ⟨b, i, none⟩ u).cell? ⟨b, i, none⟩ = some u := World.cell?_setCell_same' _ _ _ (by rw [h]; rfl)

/-- Whatever is written into the four last cells. -/
structure Four (w : World) (d : Nat) (x1 x2 x3 x4 : Int) (w' : World) : Prop where
  c1 : w'.cell? ⟨d, 17, none⟩ = some (.int .i64 x1)
  c2 : w'.cell? ⟨d, 18, none⟩ = some (.int .i64 x2)
  c3 : w'.cell? ⟨d, 19, none⟩ = some (.int .i64 x3)
  c4 : w'.cell? ⟨d, 20, none⟩ = some (.int .i64 x4)
  lo : ∀ k v, k < 17 → w.cell? ⟨d, k, none⟩ = some v → w'.cell? ⟨d, k, none⟩ = some v
  fz : ∀ k, w'.frozen? ⟨d, k, none⟩ = w.frozen? ⟨d, k, none⟩
  st : Step (fun k => k = d) w w'

theorem Four.refl {w : World} {d : Nat} {x1 x2 x3 x4 : Int} (h1 : w.cell? ⟨d, 17, none⟩ = some (.int .i64 x1)) (h2 : w.cell? ⟨d, 18, none⟩ = some (.int .i64 x2)) (h3 : w.cell? ⟨d, 19, none⟩ = some (.int .i64 x3)) (h4 : w.cell? ⟨d, 20, none⟩ = some (.int .i64 x4)) : Four w d x1 x2 x3 x4 w :=
  ⟨h1, h2, h3, h4, fun _ _ _ h => h, fun _ => rfl, Step.refl _ _⟩

theorem Four.drew {w : World} {d : Nat} {x1 x2 x3 x4 : Int} {w' : World} (h : Four w d x1 x2 x3 x4 w') : Four w d x1 x2 x3 x4 w'.drew := ⟨h.c1, h.c2, h.c3, h.c4, h.lo, h.fz, h.st.drew⟩

theorem Four.drewN {w : World} {d : Nat} {x1 x2 x3 x4 : Int} {w' : World} (h : Four w d x1 x2 x3 x4 w') (q : Nat) : Four w d x1 x2 x3 x4 (w'.drewN q) := ⟨h.c1, h.c2, h.c3, h.c4, h.lo, h.fz, h.st.drewN q⟩

theorem Four.s1 {w : World} {d : Nat} {x1 x2 x3 x4 : Int} {w' : World} (h : Four w d x1 x2 x3 x4 w') (y : Int) : Four w d y x2 x3 x4 (w'.setCell ⟨d, 17, none⟩ (.int .i64 y)) :=
  ⟨sam h.c1, oth h.c2 (by omega), oth h.c3 (by omega), oth h.c4 (by omega), fun k v hk hv => oth (h.lo k v hk hv) (by omega), fun k => by rw [World.frozen?_setCell]; exact h.fz k, h.st.setCell _ _ (.inl rfl)⟩

theorem Four.s2 {w : World} {d : Nat} {x1 x2 x3 x4 : Int} {w' : World} (h : Four w d x1 x2 x3 x4 w') (y : Int) : Four w d x1 y x3 x4 (w'.setCell ⟨d, 18, none⟩ (.int .i64 y)) :=
  ⟨oth h.c1 (by omega), sam h.c2, oth h.c3 (by omega), oth h.c4 (by omega), fun k v hk hv => oth (h.lo k v hk hv) (by omega), fun k => by rw [World.frozen?_setCell]; exact h.fz k, h.st.setCell _ _ (.inl rfl)⟩

theorem Four.s3 {w : World} {d : Nat} {x1 x2 x3 x4 : Int} {w' : World} (h : Four w d x1 x2 x3 x4 w') (y : Int) : Four w d x1 x2 y x4 (w'.setCell ⟨d, 19, none⟩ (.int .i64 y)) :=
  ⟨oth h.c1 (by omega), oth h.c2 (by omega), sam h.c3, oth h.c4 (by omega), fun k v hk hv => oth (h.lo k v hk hv) (by omega), fun k => by rw [World.frozen?_setCell]; exact h.fz k, h.st.setCell _ _ (.inl rfl)⟩

theorem Four.s4 {w : World} {d : Nat} {x1 x2 x3 x4 : Int} {w' : World} (h : Four w d x1 x2 x3 x4 w') (y : Int) : Four w d x1 x2 x3 y (w'.setCell ⟨d, 20, none⟩ (.int .i64 y)) :=
  ⟨oth h.c1 (by omega), oth h.c2 (by omega), oth h.c3 (by omega), sam h.c4, fun k v hk hv => oth (h.lo k v hk hv) (by omega), fun k => by rw [World.frozen?_setCell]; exact h.fz k, h.st.setCell _ _ (.inl rfl)⟩

theorem Dec.four {w w' : World} {d : Nat} {L : List Int} {bs tot code len code' len' : Nat} (h : Dec w d L bs tot code len) (f : Four w d (code' : Int) (len' : Int) (stf (cf L) len') (plc (cf L) len') w') : Dec w' d L bs tot code' len' :=
  ⟨fun k hk => f.lo k _ (by omega) (h.cn k hk), f.lo 16 _ (by omega) h.cs, fun i h1 h2 => f.st.cell (h.sy i h1 h2) h.ne, f.c1, f.c2, f.c3, f.c4, fun k h1 h2 => (f.fz k).trans (h.fz k h1 h2), h.to, h.ne⟩

/-- A bit as a number. -/
def bitOf (b : Int) : Nat := if b = 0 then 0 else 1

/-- What Next answers, and what it keeps. -/
def NextR (L : List Int) (code len : Nat) (r : Int) (c l : Nat) : Prop :=
  (∃ i : Nat, i < L.length ∧ L.getD i 0 = (len : Int) ∧ codeOf L i = (code : Int) ∧ r = (i : Int) ∧ c = 0 ∧ l = 0) ∨
  (stf (cf L) len + cf L len ≤ (code : Int) ∧ plc (cf L) (len + 1) = plc (cf L) 16 ∧ r = -2 ∧ c = 0 ∧ l = 0) ∨
  (stf (cf L) len + cf L len ≤ (code : Int) ∧ plc (cf L) (len + 1) ≠ plc (cf L) 16 ∧ r = -1 ∧ c = code ∧ l = len)

end Go.Proofs.YtcgjmkcigmmjjaaGreatDoor

namespace Go.Proofs.YtcgjmkcigmmjjaaGreatDoor
set_option linter.unusedVariables false
/-- What holds of a decoder's state. -/
def Inv (L : List Int) (c l : Nat) : Prop := l ≤ 14 ∧ c < 2 ^ l ∧ stf (cf L) (l + 1) ≤ 2 * (c : Int)

theorem Inv.zero (L : List Int) : Inv L 0 0 := ⟨by omega, by simp, by simp [stf, cf]⟩

theorem Inv.next {L : List Int} (hok : ∀ x ∈ L, 0 ≤ x ∧ x ≤ 15) {C N : Nat} (h15 : N ≤ 15) (hC : C < 2 ^ N) {r : Int} {c l : Nat} (a : NextR L C N r c l) : Inv L c l := by
  rcases a with ⟨i, hi, hiN, hiC, rfl, rfl, rfl⟩ | ⟨hge, hp, rfl, rfl, rfl⟩ | ⟨hge, hp, rfl, rfl, rfl⟩
  · exact Inv.zero L
  · exact Inv.zero L
  · refine ⟨?_, hC, ?_⟩
    · apply Classical.byContradiction
      intro h
      apply hp
      rw [show l = 15 by omega]
    · show (stf (cf L) l + cf L l) * 2 ≤ _
      omega

theorem Inv.bit {L : List Int} {c l : Nat} (h : Inv L c l) (b : Int) : 2 * c + bitOf b < 2 ^ (l + 1) ∧ stf (cf L) (l + 1) ≤ ((2 * c + bitOf b : Nat) : Int) ∧ c ≤ 100000 := by
  obtain ⟨h1, h2, h3⟩ := h
  have hb : bitOf b ≤ 1 := by unfold bitOf; split <;> omega
  have : (2 ^ l : Nat) ≤ 2 ^ 14 := Nat.pow_le_pow_right (by omega) h1
  rw [Nat.pow_succ]
  exact ⟨by omega, by omega, by omega⟩

end Go.Proofs.YtcgjmkcigmmjjaaGreatDoor
