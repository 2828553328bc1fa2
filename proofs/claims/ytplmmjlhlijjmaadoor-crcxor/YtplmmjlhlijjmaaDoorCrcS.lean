/-
  Sum: of rows of bytes, one behind the other; the sum that all know.
-/
import Derived.Test.YtplmmjlhlijjmaaDoorCrcM
import Derived.Lib.SlBytesConst
namespace Go.Proofs.YtplmmjlhlijjmaaDoor
open Go.RowKit

/-- The slice v holds rows of bytes. -/
def Rds (w : World) (v : Value) (L : List (List Nat)) : Prop :=
  ∃ ao cap, v = .slice ao L.length cap ∧ (ao = none → L = []) ∧
    ∀ a, ao = some a → L ≠ [] → ∃ b off, a = ⟨b, off, none⟩ ∧ ∀ k, k < L.length → ∃ u, w.cell? ⟨b, off + k, none⟩ = some u ∧ Rd w u (L.getD k [])

theorem Rd.drewN {w : World} {v : Value} {B : List Nat} (h : Rd w v B) (n : Nat) : Rd (w.drewN n) v B := h

theorem not_not32 (a : Nat) : a ^^^ 4294967295 ^^^ 4294967295 = a := by simp [Nat.xor_assoc]

/-- The sum of the first k rows. -/
def sumTo (L : List (List Nat)) (k : Nat) : Nat := crcSum (L.take k).flatten

theorem crcSum_lt (B : List Nat) (hB : ∀ x ∈ B, x < 256) : crcSum B < 4294967296 := Nat.xor_lt_two_pow (n := 32) (crcRun_lt B hB _ (by omega)) (by omega)

theorem crcSum_more (A B : List Nat) : crcRun (crcSum A ^^^ 4294967295) B ^^^ 4294967295 = crcSum (A ++ B) := by
  unfold crcSum
  rw [not_not32, crcRun_append]

theorem sumTo_succ (L : List (List Nat)) (k : Nat) (h : k < L.length) : crcRun (sumTo L k ^^^ 4294967295) (L.getD k []) ^^^ 4294967295 = sumTo L (k + 1) := by
  unfold sumTo
  have e : L.getD k [] = L[k] := by simp [List.getD, h]
  rw [crcSum_more, List.take_succ_eq_append_getElem h, e, List.flatten_append, List.flatten_singleton]

theorem sumTo_zero (L : List (List Nat)) : sumTo L 0 = 0 := by
  unfold sumTo crcSum crcRun
  simp

theorem sumTo_lt (L : List (List Nat)) (k : Nat) (h : ∀ B ∈ L, ∀ x ∈ B, x < 256) : sumTo L k < 4294967296 := by
  refine crcSum_lt _ fun x hx => ?_
  obtain ⟨B, hB, hxB⟩ := List.mem_flatten.1 hx
  exact h B (List.mem_of_mem_take hB) x hxB

theorem getD_mem {L : List (List Nat)} {k : Nat} (h : k < L.length) : L.getD k [] ∈ L := by
  have : L.getD k [] = L[k] := by simp [List.getD, h]
  rw [this]; exact List.getElem_mem h

set_option maxHeartbeats 1000000 in
theorem sum_any (v : Value) (L : List (List Nat)) (w : World) (hB : ∀ B ∈ L, ∀ x ∈ B, x < 256) (T : Tab w) (h : Rds w v L) (hl : L.length ≤ 137438953600) (hls : ∀ B ∈ L, B.length ≤ 137438953600) :
    Calls Tryd.prog 10 #[v] w fun e w' => e = .returned (.int .u32 ((crcSum L.flatten : Nat) : Int)) ∧ ∃ n, w' = w.drewN n := by
  obtain ⟨ao, cap, rfl, h1, h2⟩ := h
  have HT := hidden T
  have HB := hidden hB
  have H1 := hidden h1
  have H2 := hidden h2
  have HL := hidden hls
  obtain ⟨n, hn⟩ : ∃ n, n = L.length := ⟨_, rfl⟩
  rw [← hn] at hl ⊢
  have Hn := hidden hn
  clear T hB h1 h2 hn hls
  go_enter Tryd.func10, Tryd.ntmps10
  go_wp2
  go_loopw [3, 8] (fun x i wr => ∃ k : Nat, k ≤ n ∧ i = .int .i64 k ∧ x = .int .u32 ((sumTo L k : Nat) : Int) ∧ ∃ nq, wr = w.drewN nq) (fun _ i _ => n - (intOf i).toNat)
  case atStart => exact ⟨0, Nat.zero_le _, rfl, by rw [sumTo_zero]; rfl, ⟨0, rfl⟩⟩
  case round =>
    obtain ⟨k, hk, rfl, rfl, nq, rfl⟩ := hrel
    by_cases hlt : k < n
    · have hne : L ≠ [] := by intro e; have := Hn.out; subst e; simp at this; omega
      cases ao with
      | none => exact absurd (H1.out rfl) hne
      | some a =>
        obtain ⟨ba, oa, rfl, ka⟩ := H2.out a rfl hne
        have hkL : k < L.length := by have := Hn.out; omega
        obtain ⟨u, ca, hu⟩ := ka k hkL
        have Hs := hidden (sumTo_succ L k hkL)
        have HM := hidden (more_any (sumTo L k) u (L.getD k []) (w.drewN nq) (sumTo_lt L k HB.out) (HB.out _ (getD_mem hkL)) HT.out (hu.drewN nq) (HL.out _ (getD_mem hkL)))
        have k1 : (k : Int) < (n : Int) := by omega
        obtain ⟨ua, uc, hue, _⟩ := hu
        rw [hue] at ca HM
        clear ka hne hue
        generalize sumTo L k = y at *
        generalize L.getD k [] = Bk at *
        generalize Bk.length = m at *
        go_wp2_with (go_at_call 12; refine HM.out.mono ?_; rintro e w' ⟨rfl, q, rfl⟩)
        go_roundw
        case rel => exact ⟨k + 1, by omega, by go_num, by rw [Hs.out], ⟨_, rfl⟩⟩
        case measure => simp [intOf]; omega
    · have hkn : L.take k = L := List.take_of_length_le (by have := Hn.out; omega)
      have He := hidden (show sumTo L k = crcSum L.flatten by unfold sumTo; rw [hkn])
      clear hkn
      generalize sumTo L k = y at *
      go_wp2
      go_ret
      exact ⟨by rw [← He.out]; rfl, _, rfl⟩

theorem Rd.lits (w : World) (B : List Nat) (fr : Nat × Nat) : Rd (w.alloc (.cells (u8s B).toArray 5 fr)) (.slice (some ⟨w.heap.size, 0, none⟩) B.length B.length) B := by
  refine ⟨some ⟨w.heap.size, 0, none⟩, B.length, rfl, fun h => (by cases h), fun a ha _ => ⟨w.heap.size, 0, (Option.some.inj ha).symm, fun k hk => ?_⟩⟩
  have h1 : (u8s B)[k]? = some (.int .u8 ((B.getD k 0 : Nat) : Int)) := by rw [u8s_get?]; simp [List.getD, hk]
  rw [Nat.zero_add, World.cell?_alloc_mark, ← h1]
  simp

/-- Rows of which each is a row, in a list of their own. -/
theorem Rds.one {w : World} {u : Value} {B : List Nat} (h : Rd w u B) (t : TypeId) : Rds (w.alloc (.cells #[u] t)) (.slice (some ⟨w.heap.size, 0, none⟩) 1 1) [B] := by
  refine ⟨some ⟨w.heap.size, 0, none⟩, 1, rfl, fun h => (by cases h), fun a ha _ => ⟨w.heap.size, 0, (Option.some.inj ha).symm, fun k hk => ?_⟩⟩
  have : k = 0 := by simp at hk; omega
  subst this
  exact ⟨u, by simp, h.step ((Step.refl (fun _ => False) w).alloc _) (fun _ _ _ _ _ h => h)⟩

theorem Rds.two {w : World} {u v : Value} {A B : List Nat} (h : Rd w u A) (k : Rd w v B) (t : TypeId) : Rds (w.alloc (.cells #[u, v] t)) (.slice (some ⟨w.heap.size, 0, none⟩) 2 2) [A, B] := by
  refine ⟨some ⟨w.heap.size, 0, none⟩, 2, rfl, fun h => (by cases h), fun a ha _ => ⟨w.heap.size, 0, (Option.some.inj ha).symm, fun k hk => ?_⟩⟩
  have : k = 0 ∨ k = 1 := by simp at hk; omega
  rcases this with rfl | rfl
  · exact ⟨u, by simp, h.step ((Step.refl (fun _ => False) w).alloc _) (fun _ _ _ _ _ h => h)⟩
  · exact ⟨v, by simp, k.step ((Step.refl (fun _ => False) w).alloc _) (fun _ _ _ _ _ h => h)⟩

theorem sum_one (u : Value) (B : List Nat) (w : World) (g : Nat) (hg : g = w.heap.size) (hB : ∀ x ∈ B, x < 256) (T : Tab w) (h : Rd w u B) (hl : B.length ≤ 137438953600) :
    Calls Tryd.prog 10 #[.slice (some ⟨g, 0, none⟩) 1 1] (w.alloc (.cells #[u] 22)) fun e w' => e = .returned (.int .u32 ((crcSum B : Nat) : Int)) ∧ ∃ n, w' = (w.alloc (.cells #[u] 22)).drewN n := by
  subst hg
  have := sum_any _ [B] _ (by simpa using hB) (T.step ((Step.refl (fun _ => False) w).alloc (.cells #[u] 22)) (fun h => h)) (Rds.one h 22) (by simp) (by simpa using hl)
  simpa using this

theorem sum_two (u v : Value) (A B : List Nat) (w : World) (g : Nat) (hg : g = w.heap.size) (hA : ∀ x ∈ A, x < 256) (hB : ∀ x ∈ B, x < 256) (T : Tab w) (h : Rd w u A) (k : Rd w v B) (hl : A.length ≤ 137438953600) (kl : B.length ≤ 137438953600) :
    Calls Tryd.prog 10 #[.slice (some ⟨g, 0, none⟩) 2 2] (w.alloc (.cells #[u, v] 22)) fun e w' => e = .returned (.int .u32 ((crcSum (A ++ B) : Nat) : Int)) ∧ ∃ n, w' = (w.alloc (.cells #[u, v] 22)).drewN n := by
  subst hg
  have := sum_any _ [A, B] _ (by intro C hC; simp at hC; rcases hC with rfl | rfl; exact hA; exact hB) (T.step ((Step.refl (fun _ => False) w).alloc (.cells #[u, v] 22)) (fun h => h)) (Rds.two h k 22) (by simp) (by intro C hC; simp at hC; rcases hC with rfl | rfl; exact hl; exact kl)
  simpa using this

theorem known_sum : crcSum [49, 50, 51, 52, 53, 54, 55, 56, 57] = 3421780262 := by decide +kernel

set_option maxHeartbeats 1000000 in
theorem known_any (w : World) (T : Tab w) : Calls Tryd.prog 14 #[] w fun e w' => e = .returned (.bool true) ∧ Step (fun _ => False) w w' := by
  have kc := fun (w : World) (C : Array Value) (n c : Nat) => Lib.run_convert_bytes_const (P := Tryd.prog) w 22 5 C n c Tryd.underlying22 Tryd.underlying5
  have HM := hidden (fun fr => sum_any _ _ _ (by decide) (T.step (((Step.refl (fun _ => False) w).alloc _).alloc _) (fun h => h)) (Rds.one (Rd.lits w [49, 50, 51, 52, 53, 54, 55, 56, 57] fr) 22) (by simp) (by simp))
  rw [show [[49, 50, 51, 52, 53, 54, 55, 56, 57]].flatten = [49, 50, 51, 52, 53, 54, 55, 56, 57] from rfl, known_sum] at HM
  go_enter Tryd.func14, Tryd.ntmps14
  go_wp2_with fail
  refine Calls.mono (by simpa [u8s] using HM.out (9, 10)) ?_
  rintro e w' ⟨rfl, q, rfl⟩
  go_wp2
  go_ret
  exact ⟨rfl, (((Step.refl (fun _ => False) w).alloc _).alloc _).drewN _⟩

end Go.Proofs.YtplmmjlhlijjmaaDoor
