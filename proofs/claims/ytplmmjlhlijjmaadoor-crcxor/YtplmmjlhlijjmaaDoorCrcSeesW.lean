/-
  The walk of the law on one byte that is another one.
-/
import Derived.Test.YtplmmjlhlijjmaaDoorCrcS
namespace Go.Proofs.YtplmmjlhlijjmaaDoor
open Go.RowKit

theorem i64_mask_any (v : Int) : ∃ a : Nat, bits .and .i64 v 1073741823 = (a : Int) ∧ a < 1073741824 := by
  refine ⟨(BitVec.ofInt 64 v).toNat % 1073741824, ?_, by omega⟩
  show IntKind.i64.wrap ((BitVec.ofInt 64 v &&& BitVec.ofInt 64 1073741823).toNat : Int) = _
  have e : (BitVec.ofInt 64 1073741823).toNat = 2 ^ 30 - 1 := by decide
  rw [BitVec.toNat_and, e, Nat.and_two_pow_sub_one_eq_mod]
  exact wrap_i64_nat _ (by have := Nat.mod_lt (BitVec.ofInt 64 v).toNat (show 0 < 2 ^ 30 by decide); omega)

theorem ofInt_u8 (a : Nat) (ha : a < 256) : (BitVec.ofInt 8 (a : Int)).toNat = a := by
  rw [BitVec.ofInt_natCast, BitVec.toNat_ofNat]; exact Nat.mod_eq_of_lt (by omega)
theorem wrap_u8_nat (a : Nat) (ha : a < 256) : IntKind.u8.wrap (a : Int) = (a : Int) := by
  simp [IntKind.wrap, IntKind.bits, IntKind.signed]; omega
theorem u8_xor (a b : Nat) (ha : a < 256) (hb : b < 256) : bits .xor .u8 (a : Int) (b : Int) = ((a ^^^ b : Nat) : Int) := by
  show IntKind.u8.wrap ((BitVec.ofInt 8 (a : Int) ^^^ BitVec.ofInt 8 (b : Int)).toNat : Int) = _
  rw [BitVec.toNat_xor, ofInt_u8 a ha, ofInt_u8 b hb]
  exact wrap_u8_nat _ (Nat.xor_lt_two_pow (n := 8) ha hb)

theorem u8s_set (B : List Nat) (k z : Nat) : (u8s B).set k (.int .u8 (z : Int)) = u8s (B.set k z) := by simp [u8s, List.map_set]

theorem set_split (B : List Nat) (k z : Nat) (h : k < B.length) : B.set k z = B.take k ++ z :: B.drop (k + 1) := by
  rw [List.set_eq_take_append_cons_drop, if_pos h]

theorem sum_set (B : List Nat) (k y : Nat) (h : k < B.length) (hB : ∀ x ∈ B, x < 256) (hy : y < 256) (hy0 : y ≠ 0) : crcSum B ≠ crcSum (B.set k (B.getD k 0 ^^^ y)) := by
  have e : B.getD k 0 = B[k] := by simp [List.getD, h]
  have e2 : B = B.take k ++ B[k] :: B.drop (k + 1) := by rw [← List.drop_eq_getElem_cons h, List.take_append_drop]
  have hx := hB _ (List.getElem_mem h)
  rw [e, set_split B k _ h]
  have := crcSum_sees (B.take k) (B.drop (k + 1)) B[k] (B[k] ^^^ y) (fun z hz => hB z (List.mem_of_mem_take hz)) (fun z hz => hB z (List.mem_of_mem_drop hz)) hx (Nat.xor_lt_two_pow (n := 8) hx hy) (by
    intro he
    apply hy0
    have := congrArg (fun z => B[k] ^^^ z) he
    simp only [Nat.xor_self, ← Nat.xor_assoc, Nat.zero_xor] at this
    exact this.symm)
  rw [← e2] at this
  exact this

theorem set_byte (B : List Nat) (k z : Nat) (hB : ∀ x ∈ B, x < 256) (hz : z < 256) : ∀ x ∈ B.set k z, x < 256 := by
  intro x hx
  rcases List.mem_or_eq_of_mem_set hx with h | h
  · exact hB x h
  · omega

set_option maxHeartbeats 2000000 in
theorem sees_in (ao : Option Addr) (cap : Nat) (B : List Nat) (at_ : Int) (y : Nat) (w : World) (hB : ∀ x ∈ B, x < 256) (T : Tab w) (h : Rd w (.slice ao B.length cap) B) (hl : B.length ≤ 4000) (h0 : 0 < B.length) (hy : y < 256) (hy0 : y ≠ 0) :
    Calls Tryd.prog 5 #[.slice ao B.length cap, .int .i64 at_, .int .u8 y] w fun e w' => e = .returned (.bool true) ∧ Step (fun _ => False) w w' := by
  obtain ⟨i0, hi, hz0, hz1, hz2⟩ := info_parts Tryd.info5
  obtain ⟨a0, ha0, ha1⟩ := i64_mask_any at_
  have hown := hidden (show (w.alloc (.cells #[] 5)).ownsRow 0 5 1 (.slice (some ⟨w.heap.size, 0, none⟩) 0 0) 0 [] by
    have := World.ownsRow_lit (base := 0) (e := 5) (size := 1) w #[] 0 (Nat.zero_le _) (Nat.zero_le _) rfl
    simpa using this)
  have hrd := h.step ((Step.refl (fun _ => False) w).alloc (.cells #[] 5)) (fun _ _ _ _ _ h => h)
  have HR := hidden h
  have HT := hidden T
  have HB := hidden hB
  have hk : a0 % B.length < B.length := Nat.mod_lt _ h0
  have hmod : Int.tmod (a0 : Int) (B.length : Int) = ((a0 % B.length : Nat) : Int) := by simp [Int.tmod]
  obtain ⟨k, hk2⟩ : ∃ k, a0 % B.length = k := ⟨_, rfl⟩
  rw [hk2] at hk hmod
  have hxl := getD_lt hk hB
  have Hset := hidden (sum_set B k y hk hB hy hy0)
  have Hby := hidden (set_byte B k (B.getD k 0 ^^^ y) hB (Nat.xor_lt_two_pow (n := 8) hxl hy))
  have hxor := u8_xor (B.getD k 0) y hxl hy
  have hyI : ((y : Int) == 0) = false := by simp; omega
  cases ao with
  | none =>
    obtain ⟨_, _, e, h1, _⟩ := h
    simp at e
    have := (h1 e.1.symm).1
    subst this
    simp at h0
  | some a =>
    have hnews := hidden hrd.news
    obtain ⟨L, hL⟩ : ∃ L, B.length = L := ⟨_, rfl⟩
    rw [hL] at HR hmod ⊢
    have HL := hidden hL
    have hLk : k < L := by omega
    have hL4 : L ≤ 4000 := by omega
    have hLz : ((L : Int) == 0) = false := by simp; omega
    have hLd : decide ((4000 : Int) < (L : Int)) = false := by simp; omega
    clear h T hB hrd hL hk hk2 hl h0
    go_enter Tryd.func5, Tryd.ntmps5
    go_wp2_with (at_builtin; refine wpList_append_at _ rfl (.tmp 21) (.tmp 22) 22 rfl 5 i0 (.int .u8 0) 1 1 Tryd.underlying22 hi hz0 hz1 hz2 rfl (by decide) _ 0 [] rfl hown.out a L cap (u8s B) rfl ?c0 hnews.out (u8s_one _) ?c3 ?c4 ?_)
    case c0 => rw [u8s_length, HL.out]; omega
    case c3 => unfold maxLen; omega
    case c4 => omega
    intro v1 w1 hown1 hgrow1 hnil1 hb1
    have hO1 : w1.ownsRow 0 5 1 v1 L (u8s B) := by simpa using hown1
    have hb : ∀ g, v1.ownBlock = some g → w.heap.size ≤ g := by
      intro g hg
      rcases hb1 with e | e
      · rw [e] at hg; simp [Value.ownBlock] at hg; omega
      · rw [e] at hg; have := Option.some.inj hg; omega
    obtain ⟨g, cp, hv1⟩ : ∃ g cp, v1 = .slice (some ⟨g, 0, none⟩) L cp := by
      rcases hO1.2 with ⟨_, h0⟩ | ⟨g, cp, _, hv, _⟩
      · omega
      · exact ⟨g, cp, hv⟩
    have hgs := hb g (by rw [hv1]; rfl)
    have HS1 := hidden (show Step (fun _ => False) w w1 from ((Step.refl _ _).alloc _).grown hgrow1 (fun k hk => .inr (by simp [Value.ownBlock] at hk; omega)))
    rw [hv1] at hO1 ⊢
    clear hown1 hgrow1 hnil1 hb1 hb hv1
    have hc := hO1.cellAt k (by omega)
    have hf := hO1.frozenAt k
    rw [u8s_get?] at hc
    have hc2 : w1.cell? ⟨g, k, none⟩ = some (.int .u8 ((B.getD k 0 : Nat) : Int)) := by
      rw [hc]; simp [List.getD, show k < B.length by have := HL.out; omega]
    have HF := hidden (And.intro (hO1.stored k (.int .u8 ((B.getD k 0 ^^^ y : Nat) : Int))).1 (HS1.out.setCell ⟨g, k, none⟩ (.int .u8 ((B.getD k 0 ^^^ y : Nat) : Int)) (.inr hgs)))
    rw [u8s_set] at HF
    generalize B.set k (B.getD k 0 ^^^ y) = B' at *
    generalize hx : B.getD k 0 = x at *
    generalize x ^^^ y = z at *
    clear hO1 hc hx
    go_wp2_with fail
    refine Calls.mono (sum_one (.slice (some a) L cap) B _ _ (by simp) HB.out ?t1 ?r1 (by have := HL.out; omega)) ?_
    case t1 => exact HT.out.step HF.out.2 (fun h => h)
    case r1 => exact HR.out.step HF.out.2 (fun _ _ _ _ _ h => h)
    rintro e w2 ⟨rfl, q, rfl⟩
    go_wp2_with fail
    refine Calls.mono (sum_one (.slice (some ⟨g, 0, none⟩) L cp) B' _ _ (by simp) Hby.out ?t2 ?r2 ?l2) ?_
    case t2 => exact (HT.out.step (HF.out.2.alloc _) (fun h => h) : Tab _)
    case r2 => exact ((Rd.of_own HF.out.1).step ((Step.refl (fun _ => False) _).alloc _) (fun _ _ _ _ _ h => h) : Rd _ _ _)
    case l2 => have := HF.out.1.1; rw [u8s_length] at this; omega
    rintro e w2 ⟨rfl, q2, rfl⟩
    generalize crcSum B = s1 at *
    generalize crcSum B' = s2 at *
    have hne : ((s1 : Int) != (s2 : Int)) = true := by rw [bne_iff_ne]; have := Hset.out; omega
    have HK := hidden ((((HF.out.2.alloc (.cells #[.slice (some a) L cap] 22)).drewN q).alloc (.cells #[.slice (some ⟨g, 0, none⟩) L cp] 22)).drewN q2)
    go_wp2_with fail
    refine Calls.mono (known_any _ (HT.out.step HK.out (fun h => h))) ?_
    rintro e wk ⟨rfl, hk⟩
    have HKK := hidden (HK.out.made hk)
    clear hk
    go_wp2
    go_ret
    exact ⟨rfl, HKK.out⟩

set_option maxHeartbeats 1000000 in
theorem sees_out (ao : Option Addr) (L cap : Nat) (at_ : Int) (y : Int) (w : World) (hm : L ≤ 9223372036854775807) (hh : 4000 < L ∨ (L ≤ 4000 ∧ L = 0) ∨ (L ≤ 4000 ∧ L ≠ 0 ∧ y = 0)) :
    Calls Tryd.prog 5 #[.slice ao L cap, .int .i64 at_, .int .u8 y] w fun e w' => e = .returned (.bool true) ∧ Step (fun _ => False) w w' := by
  rcases hh with h | ⟨h, rfl⟩ | ⟨h, h2, rfl⟩
  · have hLd : decide ((4000 : Int) < (L : Int)) = true := by simp; omega
    go_enter Tryd.func5, Tryd.ntmps5
    go_wp2
    go_ret
    exact ⟨rfl, Step.refl _ _⟩
  · go_enter Tryd.func5, Tryd.ntmps5
    go_wp2
    go_ret
    exact ⟨rfl, Step.refl _ _⟩
  · have hLz : ((L : Int) == 0) = false := by simp; omega
    have hLd : decide ((4000 : Int) < (L : Int)) = false := by simp; omega
    go_enter Tryd.func5, Tryd.ntmps5
    go_wp2
    go_ret
    exact ⟨rfl, Step.refl _ _⟩

end Go.Proofs.YtplmmjlhlijjmaaDoor
