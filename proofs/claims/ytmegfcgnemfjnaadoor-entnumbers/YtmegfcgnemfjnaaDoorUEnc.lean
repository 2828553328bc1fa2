/-
  The page's Encode: a rune as bytes.
-/
import Derived.Test.YtmegfcgnemfjnaaDoorUPageN
import Derived.Test.YtmegfcgnemfjnaaDoorUBytes
namespace Go.Proofs.YtmegfcgnemfjnaaDoor
open Go.RowKit Go.Lib

theorem wrap32_nat (a : Nat) (h : a < 2147483648) : IntKind.i32.wrap (a : Int) = (a : Int) := by
  simp [IntKind.wrap, IntKind.bits, IntKind.signed]; omega
theorem wrap8_nat (a : Nat) (h : a < 256) : IntKind.u8.wrap (a : Int) = (a : Int) := by
  simp [IntKind.wrap, IntKind.bits, IntKind.signed]; omega
theorem and63_i32 (a : Nat) (_ha : a < 2147483648) : bits .and .i32 (a : Int) 63 = ((a % 64 : Nat) : Int) := by
  have e : (BitVec.ofInt 32 (a : Int) &&& BitVec.ofInt 32 63).toNat = a % 64 := by
    rw [BitVec.toNat_and]
    have h63 : (BitVec.ofInt 32 63).toNat = 2 ^ 6 - 1 := by decide
    rw [h63, Nat.and_two_pow_sub_one_eq_mod, BitVec.toNat_ofInt]
    omega
  show IntKind.i32.wrap ((BitVec.ofInt 32 (a : Int) &&& BitVec.ofInt 32 63).toNat : Int) = _
  rw [e]
  exact wrap32_nat _ (by omega)
theorem or_hi (k a m : Nat) (hm : a < 64) (hk : k = m * 64) (hb : k < 2147483648) : bits .or .i32 (k : Int) (a : Int) = ((k + a : Nat) : Int) := by
  subst hk
  rw [or_i32 _ _ hb (by omega), or_low m a hm]
theorem or192 (a : Nat) (h : a < 32) : bits .or .i32 192 (a : Int) = ((192 + a : Nat) : Int) := or_hi 192 a 3 (by omega) rfl (by omega)
theorem or128 (a : Nat) (h : a < 64) : bits .or .i32 128 (a : Int) = ((128 + a : Nat) : Int) := or_hi 128 a 2 h rfl (by omega)
theorem or224F : ∀ X : Fin 16, bits .or .i32 224 ((X.val : Nat) : Int) = ((224 + X.val : Nat) : Int) := by decide
theorem or240F : ∀ X : Fin 8, bits .or .i32 240 ((X.val : Nat) : Int) = ((240 + X.val : Nat) : Int) := by decide
theorem or224 (a : Nat) (h : a < 16) : bits .or .i32 224 (a : Int) = ((224 + a : Nat) : Int) := or224F ⟨a, h⟩
theorem or240 (a : Nat) (h : a < 8) : bits .or .i32 240 (a : Int) = ((240 + a : Nat) : Int) := or240F ⟨a, h⟩

/-- A list that was just laid, as a text. -/
theorem conv_lit (w : World) (l : List UInt8) (C : Array Value) (hC : C = (l.map fun b => Value.int .u8 (b.toNat : Int)).toArray) :
    (convert 27 9 (.slice (some ⟨w.heap.size, 0, none⟩) C.size C.size)).run Tryd.prog (w.alloc (.cells C 5)) = .ok (str l) (w.alloc (.cells C 5)) := by
  have hs : C.size = l.length := by rw [hC]; simp
  have h : Rb (w.alloc (.cells C 5)) (.slice (some ⟨w.heap.size, 0, none⟩) C.size C.size) l := by
    refine ⟨some ⟨w.heap.size, 0, none⟩, C.size, by rw [hs]; simp, fun h => (by cases h), fun a ha _ => ⟨w.heap.size, 0, (Option.some.inj ha).symm, fun k hk => ?_⟩⟩
    have hk2 : k < l.length := by simpa using hk
    rw [Nat.zero_add, World.cell?_alloc_mark, hC]
    simp [List.getD, hk2]
  exact conv_any h

theorem conv_lit_n (w : World) (l : List UInt8) (C : Array Value) (n : Nat) (s : ByteArray) (hn : C.size = n) (hC : C = (l.map fun b => Value.int .u8 (b.toNat : Int)).toArray) (hs : (⟨l.toArray⟩ : ByteArray) = s) :
    (convert 27 9 (.slice (some ⟨w.heap.size, 0, none⟩) n n)).run Tryd.prog (w.alloc (.cells C 5)) = .ok (.string s) (w.alloc (.cells C 5)) := by
  subst hn
  subst hs
  exact conv_lit w l C hC

set_option maxHeartbeats 4000000 in
theorem pencode_ok (r : Nat) (hr : okR r) (w : World) :
    Calls Tryd.prog 21 #[.int .i32 (r : Int)] w fun e w' => e = .returned (str (encodeRune (r : Int))) ∧ Step (fun _ => False) w w' := by
  have hr' := hr
  unfold okR at hr'
  have g0 : ¬ ((r : Int) < 0) := by omega
  have g1 : ¬ ((1114111 : Int) < (r : Int)) := by omega
  have HS := hidden (fun C => (Step.refl (fun _ => False) w).alloc (.cells C 5))
  obtain ⟨s, hs⟩ : ∃ s : ByteArray, (⟨(encodeRune (r : Int)).toArray⟩ : ByteArray) = s := ⟨_, rfl⟩
  unfold str
  rw [hs]
  by_cases h1 : r < 128
  · have z1 : (r : Int) < 128 := by omega
    have g2 : ¬ ((55296 : Int) ≤ (r : Int)) := by omega
    have w8 := wrap8_nat r (by omega)
    have hcv := conv_lit_n w _ #[.int .u8 (r : Int)] 1 s rfl (by rw [enc1 r h1]; simp [n8 r (by omega)]) hs
    clear hr hr' hs h1
    go_enter Tryd.func21, Tryd.ntmps21
    go_wp2
    go_ret
    exact ⟨rfl, HS.out _⟩
  have z1 : ¬ ((r : Int) < 128) := by omega
  by_cases h2 : r < 2048
  · have z2 : (r : Int) < 2048 := by omega
    have g2 : ¬ ((55296 : Int) ≤ (r : Int)) := by omega
    have m0 := and63_i32 r (by omega)
    have hcv := conv_lit_n w _ #[.int .u8 ((192 + r / 64 : Nat) : Int), .int .u8 ((128 + r % 64 : Nat) : Int)] 2 s rfl (by rw [enc2 r (by omega) h2]; simp only [List.map_cons, List.map_nil]; rw [n8 _ (by omega), n8 _ (by omega)]) hs
    have d6 : (r : Int) / 64 = ((r / 64 : Nat) : Int) := by omega
    obtain ⟨a, ha⟩ : ∃ a, r / 64 = a := ⟨_, rfl⟩
    obtain ⟨b, hb⟩ : ∃ b, r % 64 = b := ⟨_, rfl⟩
    rw [ha] at hcv d6
    rw [hb] at hcv m0
    have o1 := or192 a (by omega)
    have o2 := or128 b (by omega)
    have w1 := wrap8_nat (192 + a) (by omega)
    have w2 := wrap8_nat (128 + b) (by omega)
    obtain ⟨c1, hc1⟩ : ∃ c, 192 + a = c := ⟨_, rfl⟩
    obtain ⟨c2, hc2⟩ : ∃ c, 128 + b = c := ⟨_, rfl⟩
    rw [hc1] at o1 w1 hcv
    rw [hc2] at o2 w2 hcv
    clear hr hr' hs h1 h2 ha hb hc1 hc2
    go_enter Tryd.func21, Tryd.ntmps21
    go_wp2
    go_ret
    exact ⟨rfl, HS.out _⟩
  have z2 : ¬ ((r : Int) < 2048) := by omega
  by_cases h3 : r < 65536
  · have z3 : (r : Int) < 65536 := by omega
    have hcv := conv_lit_n w _ #[.int .u8 ((224 + r / 4096 : Nat) : Int), .int .u8 ((128 + r / 64 % 64 : Nat) : Int), .int .u8 ((128 + r % 64 : Nat) : Int)] 3 s rfl (by rw [enc3 r (by omega) h3 hr]; simp only [List.map_cons, List.map_nil]; rw [n8 _ (by omega), n8 _ (by omega), n8 _ (by omega)]) hs
    have m0 := and63_i32 r (by omega)
    have m1 := and63_i32 (r / 64) (by omega)
    have d6 : (r : Int) / 64 = ((r / 64 : Nat) : Int) := by omega
    have d12 : (r : Int) / 4096 = ((r / 4096 : Nat) : Int) := by omega
    have hor : ¬ ((55296 : Int) ≤ (r : Int)) ∨ ((55296 : Int) ≤ (r : Int) ∧ ¬ ((r : Int) ≤ 57343)) := by omega
    obtain ⟨a, ha⟩ : ∃ a, r / 4096 = a := ⟨_, rfl⟩
    obtain ⟨b, hb⟩ : ∃ b, r / 64 % 64 = b := ⟨_, rfl⟩
    obtain ⟨c, hc⟩ : ∃ c, r % 64 = c := ⟨_, rfl⟩
    obtain ⟨e, he⟩ : ∃ e, r / 64 = e := ⟨_, rfl⟩
    rw [hb] at hcv m1
    rw [ha] at hcv d12
    rw [hc] at hcv m0
    rw [he] at d6 m1
    have o1 := or224 a (by omega)
    have o2 := or128 b (by omega)
    have o3 := or128 c (by omega)
    have w1 := wrap8_nat (224 + a) (by omega)
    have w2 := wrap8_nat (128 + b) (by omega)
    have w3 := wrap8_nat (128 + c) (by omega)
    obtain ⟨c1, hc1⟩ : ∃ x, 224 + a = x := ⟨_, rfl⟩
    obtain ⟨c2, hc2⟩ : ∃ x, 128 + b = x := ⟨_, rfl⟩
    obtain ⟨c3, hc3⟩ : ∃ x, 128 + c = x := ⟨_, rfl⟩
    rw [hc1] at o1 w1 hcv
    rw [hc2] at o2 w2 hcv
    rw [hc3] at o3 w3 hcv
    clear hr hr' hs h1 h2 h3 ha hb hc he hc1 hc2 hc3
    rcases hor with g2 | ⟨g2, g3⟩
    · go_enter Tryd.func21, Tryd.ntmps21
      go_wp2
      go_ret
      exact ⟨rfl, HS.out _⟩
    · go_enter Tryd.func21, Tryd.ntmps21
      go_wp2
      go_ret
      exact ⟨rfl, HS.out _⟩
  · have hr3 : 65536 ≤ r := by omega
    have z3 : ¬ ((r : Int) < 65536) := by omega
    have g2 : (55296 : Int) ≤ (r : Int) := by omega
    have g3 : ¬ ((r : Int) ≤ 57343) := by omega
    have hcv := conv_lit_n w _ #[.int .u8 ((240 + r / 262144 : Nat) : Int), .int .u8 ((128 + r / 4096 % 64 : Nat) : Int), .int .u8 ((128 + r / 64 % 64 : Nat) : Int), .int .u8 ((128 + r % 64 : Nat) : Int)] 4 s rfl (by rw [enc4 r hr3 (by omega)]; simp only [List.map_cons, List.map_nil]; rw [n8 _ (by omega), n8 _ (by omega), n8 _ (by omega), n8 _ (by omega)]) hs
    have m0 := and63_i32 r (by omega)
    have m1 := and63_i32 (r / 64) (by omega)
    have m2 := and63_i32 (r / 4096) (by omega)
    have d6 : (r : Int) / 64 = ((r / 64 : Nat) : Int) := by omega
    have d12 : (r : Int) / 4096 = ((r / 4096 : Nat) : Int) := by omega
    have d18 : (r : Int) / 262144 = ((r / 262144 : Nat) : Int) := by omega
    obtain ⟨a, ha⟩ : ∃ a, r / 262144 = a := ⟨_, rfl⟩
    obtain ⟨d, hd⟩ : ∃ d, r / 4096 % 64 = d := ⟨_, rfl⟩
    obtain ⟨b, hb⟩ : ∃ b, r / 64 % 64 = b := ⟨_, rfl⟩
    obtain ⟨c, hc⟩ : ∃ c, r % 64 = c := ⟨_, rfl⟩
    obtain ⟨e, he⟩ : ∃ e, r / 64 = e := ⟨_, rfl⟩
    obtain ⟨f, hf⟩ : ∃ f, r / 4096 = f := ⟨_, rfl⟩
    rw [hd] at hcv m2
    rw [hb] at hcv m1
    rw [ha] at hcv d18
    rw [hc] at hcv m0
    rw [he] at d6 m1
    rw [hf] at d12 m2
    have o1 := or240 a (by omega)
    have o4 := or128 d (by omega)
    have o2 := or128 b (by omega)
    have o3 := or128 c (by omega)
    have w1 := wrap8_nat (240 + a) (by omega)
    have w4 := wrap8_nat (128 + d) (by omega)
    have w2 := wrap8_nat (128 + b) (by omega)
    have w3 := wrap8_nat (128 + c) (by omega)
    obtain ⟨c1, hc1⟩ : ∃ x, 240 + a = x := ⟨_, rfl⟩
    obtain ⟨c4, hc4⟩ : ∃ x, 128 + d = x := ⟨_, rfl⟩
    obtain ⟨c2, hc2⟩ : ∃ x, 128 + b = x := ⟨_, rfl⟩
    obtain ⟨c3, hc3⟩ : ∃ x, 128 + c = x := ⟨_, rfl⟩
    rw [hc1] at o1 w1 hcv
    rw [hc4] at o4 w4 hcv
    rw [hc2] at o2 w2 hcv
    rw [hc3] at o3 w3 hcv
    clear hr hr' hs h1 h2 h3 ha hb hc hd he hf hc1 hc2 hc3 hc4
    go_enter Tryd.func21, Tryd.ntmps21
    go_wp2
    go_ret
    exact ⟨rfl, HS.out _⟩

/-- Any number as a rune. -/
theorem pencode_any (r : Int) (h0 : -2147483648 ≤ r) (h1 : r ≤ 2147483647) (w : World) :
    Calls Tryd.prog 21 #[.int .i32 r] w fun e w' => e = .returned (str (encodeRune r)) ∧ Step (fun _ => False) w w' := by
  by_cases hr : 0 ≤ r ∧ (r < 55296 ∨ (57344 ≤ r ∧ r ≤ 1114111))
  · have e : r = ((r.toNat : Nat) : Int) := by omega
    rw [e]
    exact pencode_ok r.toNat (by unfold okR; omega) w
  · have he : encodeRune r = encodeRune ((65533 : Nat) : Int) := by
      unfold encodeRune
      rw [encodeRuneZ_bad (by omega)]
      rfl
    have HE := hidden (pencode_ok 65533 (by unfold okR; omega) w)
    rw [he]
    unfold str at *
    generalize (⟨(encodeRune ((65533 : Nat) : Int)).toArray⟩ : ByteArray) = s at *
    have hcase : r < 0 ∨ (0 ≤ r ∧ 1114111 < r) ∨ (0 ≤ r ∧ ¬ (1114111 < r) ∧ 55296 ≤ r ∧ r ≤ 57343) := by omega
    clear he hr
    rcases hcase with g0 | ⟨g0, g1⟩ | ⟨g0, g1, g2, g3⟩
    · go_enter Tryd.func21, Tryd.ntmps21
      go_wp2_with fail
      refine Calls.mono HE.out ?_
      rintro e w' ⟨rfl, S⟩
      go_wp2
      go_ret
      exact ⟨rfl, S⟩
    · have g0' : ¬ r < 0 := by omega
      go_enter Tryd.func21, Tryd.ntmps21
      go_wp2_with fail
      refine Calls.mono HE.out ?_
      rintro e w' ⟨rfl, S⟩
      go_wp2
      go_ret
      exact ⟨rfl, S⟩
    · have g0' : ¬ r < 0 := by omega
      go_enter Tryd.func21, Tryd.ntmps21
      go_wp2_with fail
      refine Calls.mono HE.out ?_
      rintro e w' ⟨rfl, S⟩
      go_wp2
      go_ret
      exact ⟨rfl, S⟩

end Go.Proofs.YtmegfcgnemfjnaaDoor
