/-
  What is spelt at the beginning of a text: the code's way.
-/
import Derived.Test.YtmegfcgnemfjnabDoorEParse
import Derived.Lib.AppendIntMem
import Derived.Lib.IfaceEq
namespace Go.Proofs.YtmegfcgnemfjnabDoor
open Go.RowKit Go.Lib

/-- What the program laid at its start. -/
structure EW (w : World) : Prop where
  pow : Lib.TabIs Tryd.prog w "internal/strconv.uint64pow10" .u64 Lib.pow10Tab
  syn : ∃ tp p, w.cell? ⟨1, 0, none⟩ = some (.iface tp p)
theorem EW.step {w w' : World} (h : EW w) (hs : Step (fun _ => False) w w') : EW w' := by
  obtain ⟨tp, p, hp⟩ := h.syn
  exact ⟨Lib.tabBelow_of_tabIs h.pow w' (hs.below _ (Nat.le_refl _) (fun _ h => h.elim)), tp, p, hs.cell hp (fun h => h)⟩

theorem utf8enc (r : Nat) (hr : okR r) : Utf8.encode (r : Int) = ⟨(encodeRune (r : Int)).toArray⟩ := by
  have hv : Utf8.valid (r : Int) = true := by
    unfold okR at hr
    unfold Utf8.valid
    simp
    omega
  unfold Utf8.encode
  simp only [hv, if_true, Int.toNat_natCast]
  have hr' := hr
  unfold okR at hr'
  by_cases h1 : r < 128
  · rw [if_pos h1, enc1 r h1]
  by_cases h2 : r < 2048
  · rw [if_neg h1, if_pos h2, enc2 r (by omega) h2]
  by_cases h3 : r < 65536
  · rw [if_neg h1, if_neg h2, if_pos h3, enc3 r (by omega) h3 hr]
  · rw [if_neg h1, if_neg h2, if_neg h3, enc4 r (by omega) (by omega)]

def spT : Option Nat → Value
  | some r => .tuple #[.int .i32 (r : Int), .bool true]
  | none => .tuple #[.int .i32 0, .bool false]

theorem lits (s : ByteArray) (l : List UInt8) (h : s.data.toList = l) (k : List UInt8) : (s.toList == k) = decide (l = k) := by
  rw [ByteArray.toList_eq, h, Bool.eq_iff_iff]
  simp

set_option maxHeartbeats 2000000 in
theorem named_any (s : ByteArray) (l : List UInt8) (h : s.data.toList = l) (w : World) :
    Calls Tryd.prog 35 #[.string s] w fun e w' => e = .returned (spT (nameC l)) ∧ w' = w := by
  have HL := hidden (lits s l h)
  clear h
  have g0 := HL.out [97, 109, 112]
  have g1 := HL.out [108, 116]
  have g2 := HL.out [103, 116]
  have g3 := HL.out [113, 117, 111, 116]
  have g4 := HL.out [97, 112, 111, 115]
  have g5 := HL.out [110, 98, 115, 112]
  have g6 := HL.out [99, 111, 112, 121]
  have g7 := HL.out [104, 101, 108, 108, 105, 112]
  have g8 := HL.out [109, 100, 97, 115, 104]
  by_cases h0 : l = [97, 109, 112]
  · have HV := hidden (show nameC l = some 38 by unfold nameC; rw [if_pos h0])
    rw [decide_eq_true h0] at g0
    clear h0 g1 g2 g3 g4 g5 g6 g7 g8
    go_enter Tryd.func35, Tryd.ntmps35
    go_wp2
    go_ret2
    exact ⟨by rw [HV.out]; rfl, rfl⟩
  rw [decide_eq_false h0] at g0
  by_cases h1 : l = [108, 116]
  · have HV := hidden (show nameC l = some 60 by unfold nameC; rw [if_neg h0, if_pos h1])
    rw [decide_eq_true h1] at g1
    clear h0 h1 g2 g3 g4 g5 g6 g7 g8
    go_enter Tryd.func35, Tryd.ntmps35
    go_wp2
    go_ret2
    exact ⟨by rw [HV.out]; rfl, rfl⟩
  rw [decide_eq_false h1] at g1
  by_cases h2 : l = [103, 116]
  · have HV := hidden (show nameC l = some 62 by unfold nameC; rw [if_neg h0, if_neg h1, if_pos h2])
    rw [decide_eq_true h2] at g2
    clear h0 h1 h2 g3 g4 g5 g6 g7 g8
    go_enter Tryd.func35, Tryd.ntmps35
    go_wp2
    go_ret2
    exact ⟨by rw [HV.out]; rfl, rfl⟩
  rw [decide_eq_false h2] at g2
  by_cases h3 : l = [113, 117, 111, 116]
  · have HV := hidden (show nameC l = some 34 by unfold nameC; rw [if_neg h0, if_neg h1, if_neg h2, if_pos h3])
    rw [decide_eq_true h3] at g3
    clear h0 h1 h2 h3 g4 g5 g6 g7 g8
    go_enter Tryd.func35, Tryd.ntmps35
    go_wp2
    go_ret2
    exact ⟨by rw [HV.out]; rfl, rfl⟩
  rw [decide_eq_false h3] at g3
  by_cases h4 : l = [97, 112, 111, 115]
  · have HV := hidden (show nameC l = some 39 by unfold nameC; rw [if_neg h0, if_neg h1, if_neg h2, if_neg h3, if_pos h4])
    rw [decide_eq_true h4] at g4
    clear h0 h1 h2 h3 h4 g5 g6 g7 g8
    go_enter Tryd.func35, Tryd.ntmps35
    go_wp2
    go_ret2
    exact ⟨by rw [HV.out]; rfl, rfl⟩
  rw [decide_eq_false h4] at g4
  by_cases h5 : l = [110, 98, 115, 112]
  · have HV := hidden (show nameC l = some 160 by unfold nameC; rw [if_neg h0, if_neg h1, if_neg h2, if_neg h3, if_neg h4, if_pos h5])
    rw [decide_eq_true h5] at g5
    clear h0 h1 h2 h3 h4 h5 g6 g7 g8
    go_enter Tryd.func35, Tryd.ntmps35
    go_wp2
    go_ret2
    exact ⟨by rw [HV.out]; rfl, rfl⟩
  rw [decide_eq_false h5] at g5
  by_cases h6 : l = [99, 111, 112, 121]
  · have HV := hidden (show nameC l = some 169 by unfold nameC; rw [if_neg h0, if_neg h1, if_neg h2, if_neg h3, if_neg h4, if_neg h5, if_pos h6])
    rw [decide_eq_true h6] at g6
    clear h0 h1 h2 h3 h4 h5 h6 g7 g8
    go_enter Tryd.func35, Tryd.ntmps35
    go_wp2
    go_ret2
    exact ⟨by rw [HV.out]; rfl, rfl⟩
  rw [decide_eq_false h6] at g6
  by_cases h7 : l = [104, 101, 108, 108, 105, 112]
  · have HV := hidden (show nameC l = some 8230 by unfold nameC; rw [if_neg h0, if_neg h1, if_neg h2, if_neg h3, if_neg h4, if_neg h5, if_neg h6, if_pos h7])
    rw [decide_eq_true h7] at g7
    clear h0 h1 h2 h3 h4 h5 h6 h7 g8
    go_enter Tryd.func35, Tryd.ntmps35
    go_wp2
    go_ret2
    exact ⟨by rw [HV.out]; rfl, rfl⟩
  rw [decide_eq_false h7] at g7
  by_cases h8 : l = [109, 100, 97, 115, 104]
  · have HV := hidden (show nameC l = some 8212 by unfold nameC; rw [if_neg h0, if_neg h1, if_neg h2, if_neg h3, if_neg h4, if_neg h5, if_neg h6, if_neg h7, if_pos h8])
    rw [decide_eq_true h8] at g8
    clear h0 h1 h2 h3 h4 h5 h6 h7 h8
    go_enter Tryd.func35, Tryd.ntmps35
    go_wp2
    go_ret2
    exact ⟨by rw [HV.out]; rfl, rfl⟩
  rw [decide_eq_false h8] at g8
  have HV := hidden (show nameC l = none by unfold nameC; rw [if_neg h0, if_neg h1, if_neg h2, if_neg h3, if_neg h4, if_neg h5, if_neg h6, if_neg h7, if_neg h8])
  clear h0 h1 h2 h3 h4 h5 h6 h7 h8
  go_enter Tryd.func35, Tryd.ntmps35
  go_wp2
  go_ret2
  exact ⟨by rw [HV.out]; rfl, rfl⟩

theorem hasHash_any (s : ByteArray) (l : List UInt8) (h : s.data.toList = l) (hl : l.length ≤ 100000) (w : World) :
    Calls Tryd.prog 39 #[.string s, .string ⟨#[35]⟩] w fun e w' => e = .returned (.bool (decide (l.take 1 = [35]))) ∧ w' = w := by
  have hsz : s.size = l.length := by rw [← h]; rfl
  by_cases h0 : 1 ≤ s.size
  · have z0 : (1 : Int) ≤ (s.size : Int) := by omega
    have hb : s.size ≤ 100000 := by omega
    have he : (s.extract 0 1).data.toList = l.take 1 := by
      rw [← h]; simp
    have g := lits (s.extract 0 1) _ he [35]
    clear h hsz he h0 hl
    by_cases hx : l.take 1 = [35]
    · rw [decide_eq_true hx] at g ⊢
      clear hx
      go_enter Tryd.func39, Tryd.ntmps39
      go_wp2
      go_ret
      exact ⟨rfl, rfl⟩
    · rw [decide_eq_false hx] at g ⊢
      clear hx
      go_enter Tryd.func39, Tryd.ntmps39
      go_wp2
      go_ret
      exact ⟨rfl, rfl⟩
  · have HD : decide (l.take 1 = [35]) = false := by
      rw [decide_eq_false_iff_not]
      intro e
      have := congrArg List.length e
      simp at this
      omega
    rw [HD]
    have z0 : ¬ (1 : Int) ≤ (s.size : Int) := by omega
    clear h hsz h0 hl HD
    go_enter Tryd.func39, Tryd.ntmps39
    go_wp2
    go_ret
    exact ⟨rfl, rfl⟩

def cutT (s : ByteArray) (b : Bool) : Value := if b = true then .tuple #[.string (s.extract 1 s.size), .bool true] else .tuple #[.string s, .bool false]

theorem litcut_any (s : ByteArray) (l : List UInt8) (h : s.data.toList = l) (hl : l.length ≤ 100000) (w : World) :
    Calls Tryd.prog 36 #[.string s, .string ⟨#[35]⟩] w fun e w' => e = .returned (cutT s (decide (l.take 1 = [35]))) ∧ w' = w := by
  unfold cutT
  have HP := hidden (hasHash_any s l h hl w)
  have hsz : s.size = l.length := by rw [← h]; rfl
  by_cases hx : l.take 1 = [35]
  · rw [decide_eq_true hx] at HP ⊢
    rw [if_pos rfl]
    have hlen : 1 ≤ l.length := by
      have := congrArg List.length hx
      simp at this
      omega
    have z0 : (1 : Int) ≤ (s.size : Int) := by omega
    clear h hx hlen hsz hl
    go_enter Tryd.func36, Tryd.ntmps36
    go_wp2_with (go_at_call 39; refine HP.out.mono ?_; rintro e w' ⟨rfl, rfl⟩)
    go_wp2
    go_ret2
    exact ⟨rfl, rfl⟩
  · rw [decide_eq_false hx] at HP ⊢
    rw [if_neg (by simp)]
    clear h hx hsz hl
    go_enter Tryd.func36, Tryd.ntmps36
    go_wp2_with (go_at_call 39; refine HP.out.mono ?_; rintro e w' ⟨rfl, rfl⟩)
    go_wp2
    go_ret2
    exact ⟨rfl, rfl⟩

theorem cut_any (s : ByteArray) (l : List UInt8) (h : s.data.toList = l) (hl : l.length ≤ 100000) (w : World) :
    Calls Tryd.prog 33 #[.string s, .string ⟨#[35]⟩] w fun e w' => e = .returned (cutT s (decide (l.take 1 = [35]))) ∧ w' = w := by
  have HP := hidden (litcut_any s l h hl w)
  unfold cutT at *
  clear h
  by_cases hx : l.take 1 = [35]
  · rw [decide_eq_true hx] at HP ⊢
    rw [if_pos rfl] at HP ⊢
    clear hx
    go_enter Tryd.func33, Tryd.ntmps33
    go_wp2_with (go_at_call 36; refine HP.out.mono ?_; rintro e w' ⟨rfl, rfl⟩)
    go_wp2
    go_ret2
    exact ⟨rfl, rfl⟩
  · rw [decide_eq_false hx] at HP ⊢
    rw [if_neg (by simp)] at HP ⊢
    clear hx
    go_enter Tryd.func33, Tryd.ntmps33
    go_wp2_with (go_at_call 36; refine HP.out.mono ?_; rintro e w' ⟨rfl, rfl⟩)
    go_wp2
    go_ret2
    exact ⟨rfl, rfl⟩

theorem validRune_any (r : Nat) (hr : r ≤ 16777215) (w : World) :
    Calls Tryd.prog 38 #[.int .i32 (r : Int)] w fun e w' => e = .returned (.bool (decide (r ≤ 1114111 ∧ ¬ (55296 ≤ r ∧ r ≤ 57343)))) ∧ w' = w := by
  have z0 : (0 : Int) ≤ (r : Int) := by omega
  by_cases h1 : r < 55296
  · have z1 : (r : Int) < 55296 := by omega
    rw [decide_eq_true (show r ≤ 1114111 ∧ ¬ (55296 ≤ r ∧ r ≤ 57343) by omega)]
    clear hr h1
    go_enter Tryd.func38, Tryd.ntmps38
    go_wp2
    go_ret
    exact ⟨rfl, rfl⟩
  have z1 : ¬ ((r : Int) < 55296) := by omega
  by_cases h2 : r ≤ 57343
  · have z2 : ¬ ((57343 : Int) < (r : Int)) := by omega
    rw [decide_eq_false (show ¬ (r ≤ 1114111 ∧ ¬ (55296 ≤ r ∧ r ≤ 57343)) by omega)]
    clear hr h1 h2
    go_enter Tryd.func38, Tryd.ntmps38
    go_wp2
    go_ret
    exact ⟨rfl, rfl⟩
  have z2 : (57343 : Int) < (r : Int) := by omega
  by_cases h3 : r ≤ 1114111
  · have z3 : (r : Int) ≤ 1114111 := by omega
    rw [decide_eq_true (show r ≤ 1114111 ∧ ¬ (55296 ≤ r ∧ r ≤ 57343) by omega)]
    clear hr h1 h2 h3
    go_enter Tryd.func38, Tryd.ntmps38
    go_wp2
    go_ret
    exact ⟨rfl, rfl⟩
  · have z3 : ¬ ((r : Int) ≤ 1114111) := by omega
    rw [decide_eq_false (show ¬ (r ≤ 1114111 ∧ ¬ (55296 ≤ r ∧ r ≤ 57343)) by omega)]
    clear hr h1 h2 h3
    go_enter Tryd.func38, Tryd.ntmps38
    go_wp2
    go_ret
    exact ⟨rfl, rfl⟩

theorem toError_any (s : ByteArray) (base : Int) (hs : s.size ≤ 100000) (w : World) (T : EW w) :
    Calls Tryd.prog 41 #[.string ⟨#[80, 97, 114, 115, 101, 85, 105, 110, 116]⟩, .string s, .int .i64 base, .int .i64 31, .iface 59 (.int .i64 2)] w fun e w' => ∃ N, e = .returned (.iface 61 (.pointer (some ⟨N, 0, none⟩))) ∧ Step (fun _ => False) w w' := by
  obtain ⟨tp, p, hp⟩ := T.syn
  have HS := hidden (syn_any ⟨#[80, 97, 114, 115, 101, 85, 105, 110, 116]⟩ s _ w (by omega) hp (.inr ⟨tp, p, rfl⟩))
  have heq : ∀ W, (binOp .eql 34 (.iface 59 (.int .i64 2)) (.iface 59 (.int .i64 2))).run Tryd.prog W = .ok (.bool true) W := fun W => Lib.run_eql_iface_int W 2 2 Tryd.underlying34 (by kernel_rfl) Tryd.underlying59
  clear hp T
  go_enter Tryd.func41, Tryd.ntmps41
  go_wp2_with (go_at_call 44; refine HS.out.mono ?_)
  rintro e w2 ⟨N, rfl, h1, h2⟩
  go_wp2
  go_ret
  exact ⟨N, rfl, Step.of_below h2⟩

theorem list_ba {s : ByteArray} {l : List UInt8} (h : s.data.toList = l) : s = ⟨l.toArray⟩ := by cases s; subst h; rfl

theorem num10_ok (s : ByteArray) (l : List UInt8) (h : s.data.toList = l) (hl : l.length ≤ 7) (ho : l ≠ [] ∧ l.all (isD 10) = true) (w : World) :
    Calls Tryd.prog 37 #[.string s, .int .i64 10, .int .i64 31] w fun e w' => e = .returned (.tuple #[.int .u64 ((numv 10 l : Nat) : Int), .nilIface]) ∧ Step (fun _ => False) w w' := by
  have hp := parse10_any l hl w
  unfold puT str at hp
  rw [if_pos ho, ← list_ba h] at hp
  have HP := hidden hp
  clear hp h ho
  generalize ((numv 10 l : Nat) : Int) = v at *
  go_enter Tryd.func37, Tryd.ntmps37
  go_wp2_with (go_at_call 40; refine HP.out.mono ?_)
  rintro e w2 ⟨rfl, S⟩
  go_wp2
  go_ret2
  exact ⟨rfl, S⟩
theorem num10_no (s : ByteArray) (l : List UInt8) (h : s.data.toList = l) (hl : l.length ≤ 7) (ho : ¬ (l ≠ [] ∧ l.all (isD 10) = true)) (w : World) (T : EW w) :
    Calls Tryd.prog 37 #[.string s, .int .i64 10, .int .i64 31] w fun e w' => ∃ N, e = .returned (.tuple #[.int .u64 0, .iface 61 (.pointer (some ⟨N, 0, none⟩))]) ∧ Step (fun _ => False) w w' := by
  have hp := parse10_any l hl w
  unfold puT str at hp
  rw [if_neg ho, ← list_ba h] at hp
  have HP := hidden hp
  have hsz : s.size = l.length := by rw [← h]; rfl
  have HT := hidden (fun wx => toError_any s 10 (by omega) wx)
  have TT := hidden T
  clear hp h ho hsz hl T
  go_enter Tryd.func37, Tryd.ntmps37
  go_wp2_with (go_at_call 40; refine HP.out.mono ?_)
  rintro e w2 ⟨rfl, S⟩
  have HT2 := hidden (HT.out w2 (TT.out.step S))
  have HS := hidden S
  clear S
  go_wp2_with (go_at_call 41; refine HT2.out.mono ?_)
  rintro e w3 ⟨N, rfl, S⟩
  have HS2 := hidden (HS.out.made S)
  clear S
  go_wp2
  go_ret2
  exact ⟨N, rfl, HS2.out⟩

theorem num16_ok (s : ByteArray) (l : List UInt8) (h : s.data.toList = l) (hl : l.length ≤ 6) (ho : l ≠ [] ∧ l.all (isD 16) = true) (w : World) :
    Calls Tryd.prog 37 #[.string s, .int .i64 16, .int .i64 31] w fun e w' => e = .returned (.tuple #[.int .u64 ((numv 16 l : Nat) : Int), .nilIface]) ∧ Step (fun _ => False) w w' := by
  have hp := parse16_any l hl w
  unfold puT str at hp
  rw [if_pos ho, ← list_ba h] at hp
  have HP := hidden hp
  clear hp h ho
  generalize ((numv 16 l : Nat) : Int) = v at *
  go_enter Tryd.func37, Tryd.ntmps37
  go_wp2_with (go_at_call 40; refine HP.out.mono ?_)
  rintro e w2 ⟨rfl, S⟩
  go_wp2
  go_ret2
  exact ⟨rfl, S⟩
theorem num16_no (s : ByteArray) (l : List UInt8) (h : s.data.toList = l) (hl : l.length ≤ 6) (ho : ¬ (l ≠ [] ∧ l.all (isD 16) = true)) (w : World) (T : EW w) :
    Calls Tryd.prog 37 #[.string s, .int .i64 16, .int .i64 31] w fun e w' => ∃ N, e = .returned (.tuple #[.int .u64 0, .iface 61 (.pointer (some ⟨N, 0, none⟩))]) ∧ Step (fun _ => False) w w' := by
  have hp := parse16_any l hl w
  unfold puT str at hp
  rw [if_neg ho, ← list_ba h] at hp
  have HP := hidden hp
  have hsz : s.size = l.length := by rw [← h]; rfl
  have HT := hidden (fun wx => toError_any s 16 (by omega) wx)
  have TT := hidden T
  clear hp h ho hsz hl T
  go_enter Tryd.func37, Tryd.ntmps37
  go_wp2_with (go_at_call 40; refine HP.out.mono ?_)
  rintro e w2 ⟨rfl, S⟩
  have HT2 := hidden (HT.out w2 (TT.out.step S))
  have HS := hidden S
  clear S
  go_wp2_with (go_at_call 41; refine HT2.out.mono ?_)
  rintro e w3 ⟨N, rfl, S⟩
  have HS2 := hidden (HS.out.made S)
  clear S
  go_wp2
  go_ret2
  exact ⟨N, rfl, HS2.out⟩

end Go.Proofs.YtmegfcgnemfjnabDoor
