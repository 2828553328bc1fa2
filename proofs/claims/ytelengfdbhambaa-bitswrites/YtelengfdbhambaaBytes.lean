/-
  Rows of bytes: read, copied, compared.
-/
import Derived.Test.YtelengfdbhambaaCode
import Derived.Laws.AppendOwnNone
import Derived.BigQuiet
import Derived.Deep.QuietTactic
namespace Go.Proofs.Ytelengfdbhambaa
open Go.RowKit

/-- The slice v reads as the bytes bs. -/
def Rd (w : World) (v : Value) (bs : List Nat) : Prop :=
  ∃ ao cap, v = .slice ao bs.length cap ∧ (ao = none → bs = [] ∧ cap = 0) ∧
    ∀ a, ao = some a → bs ≠ [] → ∃ b off, a = ⟨b, off, none⟩ ∧ ∀ k, k < bs.length → w.cell? ⟨b, off + k, none⟩ = some (.int .u8 ((bs.getD k 0 : Nat) : Int))

theorem Rd.of_own {w : World} {v : Value} {n : Nat} {bs : List Nat} (h : w.ownsRow 0 5 1 v n (u8s bs)) : Rd w v bs := by
  have hl := h.1
  rw [u8s_length, Nat.mul_one] at hl
  rcases h.2 with ⟨rfl, rfl⟩ | ⟨g, cap, cur, rfl, _, hg, _⟩
  · refine ⟨none, 0, by rw [hl], fun _ => ⟨List.eq_nil_of_length_eq_zero hl, rfl⟩, fun a h => by cases h⟩
  · refine ⟨some ⟨g, 0, none⟩, cap, by rw [hl], (fun h => by cases h), fun a ha _ => ⟨g, 0, (Option.some.inj ha).symm, fun k hk => ?_⟩⟩
    rw [Nat.zero_add, h.cellAt k (by omega), u8s_get?]
    simp [List.getD, hk]

theorem Rd.step {S : Nat → Prop} {w w' : World} {v : Value} {bs : List Nat} (h : Rd w v bs) (hs : Step S w w') (hS : ∀ a n c, v = .slice (some a) n c → bs ≠ [] → ¬ S a.block) : Rd w' v bs := by
  obtain ⟨ao, cap, rfl, h1, h2⟩ := h
  refine ⟨ao, cap, rfl, h1, fun a ha hb => ?_⟩
  obtain ⟨b, off, rfl, hc⟩ := h2 a ha hb
  subst ha
  exact ⟨b, off, rfl, fun k hk => hs.cell (hc k hk) (hS ⟨b, off, none⟩ _ _ rfl hb)⟩

theorem Rd.slot {w : World} {ao : Option Addr} {n cap : Nat} {bs : List Nat} (h : Rd w (.slice ao n cap) bs) : n = bs.length := by
  obtain ⟨_, _, h, _⟩ := h
  injection h

set_option maxHeartbeats 400000 in
theorem fresh_any (v : Value) (bs : List Nat) (w : World) (h : Rd w v bs) (hl : bs.length ≤ 137438953600) :
    Calls Try.prog 37 #[v] w fun e w' => ∃ v', e = .returned v' ∧ w'.ownsRow 0 5 1 v' bs.length (u8s bs) ∧ Step (fun _ => False) w w' ∧ (v'.ownBlock = none ∨ v'.ownBlock = some w.heap.size) := by
  obtain ⟨i0, hi, hz0, hz1, hz2⟩ := info_parts Try.info5
  obtain ⟨ao, cap, rfl, h1, h2⟩ := h
  have hm : bs.length ≤ maxLen := by unfold maxLen; omega
  cases ao with
  | none =>
    obtain ⟨rfl, rfl⟩ := h1 rfl
    go_enter Try.func37, Try.ntmps37
    go_wp2
    go_ret
    exact ⟨_, rfl, World.ownsRow_nil _ _ _ _, Step.refl _ _, .inl rfl⟩
  | some a =>
    have hc : ∀ j u, (u8s bs)[j]? = some u → w.cell? (a.add j) = some u := by
      intro j u hu
      have hne : bs ≠ [] := by intro e; subst e; simp [u8s] at hu
      obtain ⟨b, off, rfl, hcell⟩ := h2 a rfl hne
      have hj : j < bs.length := by
        have := (List.getElem?_eq_some_iff.1 hu).1
        rwa [u8s_length] at this
      rw [Addr.add_lit, hcell j hj, ← hu, u8s_get?]
      simp [List.getD, hj]
    go_enter Try.func37, Try.ntmps37
    go_wp2_with (at_builtin; refine wpList_append_at _ rfl _ _ 27 rfl 5 i0 (.int .u8 0) 1 1 Try.underlying27 hi hz0 hz1 hz2 rfl (by decide) _ 0 [] rfl (World.ownsRow_nil _ _ _ _) a bs.length cap (u8s bs) rfl (by simp [u8s_length]) hc (u8s_one _) (by omega) (by omega) ?_)
    intro v' w1 hown' hgrow hnil hv'
    have H := hidden (show w1.ownsRow 0 5 1 v' bs.length (u8s bs) ∧ Step (fun _ => False) w w1 ∧ (v'.ownBlock = none ∨ v'.ownBlock = some w.heap.size) from
      ⟨by simpa using hown', (Step.refl _ _).grown hgrow (fun k hk => by simp [Value.ownBlock] at hk), hv'⟩)
    clear hown' hgrow hnil hv' hc h1 h2
    go_wp2
    go_ret
    exact ⟨_, rfl, H.out⟩

set_option maxHeartbeats 400000 in
theorem bytes_nil (w : World) : Calls Try.prog 23 #[.pointer none] w fun e w' => e = .returned (.slice none 0 0) ∧ w' = w := by
  go_enter Try.func23, Try.ntmps23
  go_wp2
  go_ret
  exact ⟨rfl, rfl⟩

set_option maxHeartbeats 400000 in
theorem bytes_any (b : Nat) (s : Value) (N L : Nat) (w : World) (h : Wr w b s N L) (hL : L ≤ 1099511627776) :
    Calls Try.prog 23 #[.pointer (some ⟨b, 0, none⟩)] w fun e w' => ∃ v', e = .returned v' ∧ w'.ownsRow 0 5 1 v' ((L + 7) / 8) (u8s (bytesOf N ((L + 7) / 8))) ∧ Step (fun _ => False) w w' ∧ (v'.ownBlock = none ∨ v'.ownBlock = some w.heap.size) := by
  have c0 := h.out
  have HR := hidden (Rd.of_own h.own)
  have hb := bytesOf_length N ((L + 7) / 8)
  have Hb := hidden hb
  have hle : Hid ((bytesOf N ((L + 7) / 8)).length ≤ 137438953600) := by show _ ≤ _; omega
  clear h hb
  go_enter Try.func23, Try.ntmps23
  go_wp2_with (go_at_call 37; refine (fresh_any _ _ _ HR.out hle.out).mono ?_; rintro e w' ⟨v', rfl, h1, h2, h3⟩; have H1 := hidden (And.intro h1 (And.intro h2 h3)); clear h1 h2 h3)
  go_ret
  refine ⟨_, rfl, ?_, H1.out.2.1, H1.out.2.2⟩
  have := H1.out.1
  rw [Hb.out] at this
  exact this

end Go.Proofs.Ytelengfdbhambaa
