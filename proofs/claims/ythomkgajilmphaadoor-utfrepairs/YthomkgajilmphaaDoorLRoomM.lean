/-
  A row with marked room behind it, made.
-/
import Derived.Test.YthomkgajilmphaaDoorLRoom
namespace Go.Proofs.YthomkgajilmphaaDoor
open Go.RowKit

/-- What three appends, one behind the other, leave. -/
theorem roomy_close {w w1 w2 w3 : World} {o2 o3 : Obj} {v1 v2 v3 : Value} {B : List Nat} (S1 : Step (fun _ => False) w w1) (b1 : ∀ k, v1.ownBlock = some k → w.heap.size ≤ k)
    (g2 : (w1.alloc o2).grownBy w2 v1.ownBlock) (e2 : v2.ownBlock = v1.ownBlock ∨ v2.ownBlock = some (w1.heap.size + 1))
    (h3 : w3.ownsRow 0 5 1 v3 (B.length + 1 + 1) (u8s B ++ [.int .u8 171, .int .u8 171])) (g3 : (w2.alloc o3).grownBy w3 v2.ownBlock) (e3 : v3.ownBlock = v2.ownBlock ∨ v3.ownBlock = some (w2.heap.size + 1)) :
    ∃ g cap, v3 = .slice (some ⟨g, 0, none⟩) (B.length + 2) cap ∧ Roomy w3 g cap B ∧ w.heap.size ≤ g ∧ Step (fun _ => False) w w3 := by
  have b2 : ∀ k, v2.ownBlock = some k → w.heap.size ≤ k := by
    intro k hk
    rcases e2 with e | e
    · exact b1 k (by rw [← e]; exact hk)
    · rw [e] at hk; have := Option.some.inj hk; have := S1.size; omega
  have S2 : Step (fun _ => False) w w2 := (S1.alloc o2).grown g2 (fun k hk => .inr (b1 k hk))
  have S3 : Step (fun _ => False) w w3 := (S2.alloc o3).grown g3 (fun k hk => .inr (b2 k hk))
  have b3 : ∀ k, v3.ownBlock = some k → w.heap.size ≤ k := by
    intro k hk
    rcases e3 with e | e
    · exact b2 k (by rw [← e]; exact hk)
    · rw [e] at hk; have := Option.some.inj hk; have := S2.size; omega
  have hx : u8s B ++ [.int .u8 171, .int .u8 171] = u8s (B ++ [171, 171]) := by simp [u8s]
  rw [hx] at h3
  have h3c := h3
  rcases h3.2 with ⟨_, e⟩ | ⟨g, cap, cur, e, _, _, hc, _⟩
  · omega
  · rw [e] at h3c
    exact ⟨g, cap, e, ⟨h3c, hc⟩, b3 g (by rw [e]; rfl), S3⟩

set_option maxHeartbeats 1000000 in
theorem roomy_any (v : Value) (B : List Nat) (w : World) (h : Rd w v B) (hl : B.length ≤ 10000) :
    Calls Tryd.prog 6 #[v] w fun e w' => ∃ g cap, e = .returned (.slice (some ⟨g, 0, none⟩) (B.length + 1) cap) ∧ Roomy w' g cap B ∧ w.heap.size ≤ g ∧ Step (fun _ => False) w w' := by
  obtain ⟨i0, hi, hz0, hz1, hz2⟩ := info_parts Tryd.info5
  have h' := h
  obtain ⟨ao, cv, hv, h1, _⟩ := h
  rw [hv] at h' ⊢
  have hown := hidden (show (w.alloc (.cells #[] 5)).ownsRow 0 5 1 (.slice (some ⟨w.heap.size, 0, none⟩) 0 0) 0 [] by
    have := World.ownsRow_lit (base := 0) (e := 5) (size := 1) w #[] 0 (Nat.zero_le _) (Nat.zero_le _) rfl
    simpa using this)
  have hrd := h'.step ((Step.refl (fun _ => False) w).alloc (.cells #[] 5)) (fun _ _ _ _ _ h => h)
  cases ao with
  | none =>
    obtain ⟨rfl, rfl⟩ := h1 rfl
    clear h1 h' hrd hv
    go_enter Tryd.func6, Tryd.ntmps6
    go_wp2_with (at_builtin; refine wpList_append_stop rfl (.tmp 3) (.tmp 4) 22 rfl 5 i0 1 Tryd.underlying22 hi _ _ _ rfl hown.out rfl ?_)
    unfold Hid
    have HO1 := hidden (hown.out.alloc (.cells #[.int .u8 171] 5))
    go_wp2_with (at_builtin; refine wpList_append_at _ rfl (.tmp 5) (.tmp 6) 22 rfl 5 i0 (.int .u8 0) 1 1 Tryd.underlying22 hi hz0 hz1 hz2 rfl (by decide) _ _ _ rfl HO1.out ⟨w.heap.size + 1, 0, none⟩ 1 1 [.int .u8 171] rfl rfl ?d1 ?d2 ?d3 ?d4 ?_)
    case d1 => have := cell_one_new (w.alloc (.cells #[] 5)) (.int .u8 171) 5; simpa using this
    case d2 => intro u hu; simp at hu; subst hu; rfl
    case d3 => unfold maxLen; omega
    case d4 => omega
    intro v2 w2 hown2 hgrow2 hnil2 hb2
    have HO2 := hidden hown2
    have HG2 := hidden (And.intro hgrow2 hb2)
    clear hown2 hgrow2 hnil2 hb2
    go_wp2_with (at_builtin; refine wpList_append_at _ rfl (.tmp 7) (.tmp 8) 22 rfl 5 i0 (.int .u8 0) 1 1 Tryd.underlying22 hi hz0 hz1 hz2 rfl (by decide) _ _ _ rfl (HO2.out.alloc _) ⟨w2.heap.size, 0, none⟩ 1 1 [.int .u8 171] rfl rfl ?e1 ?e2 ?e3 ?e4 ?_)
    case e1 => exact cell_one_new _ _ _
    case e2 => intro u hu; simp at hu; subst hu; rfl
    case e3 => unfold maxLen; omega
    case e4 => omega
    intro v3 w3 hown3 hgrow3 hnil3 hb3
    have hfin := roomy_close (B := []) (w := w) (w1 := w.alloc (.cells #[] 5)) (v1 := .slice (some ⟨w.heap.size, 0, none⟩) 0 0) ((Step.refl _ _).alloc _) (fun k hk => by simp [Value.ownBlock] at hk; omega) HG2.out.1 (by simpa using HG2.out.2) (by simpa [u8s] using hown3) hgrow3 hb3
    obtain ⟨g, cap, hv3, HR, hg, hst⟩ := hfin
    have hcap : 2 ≤ cap := HR.room
    have hv3' : v3 = .slice (some ⟨g, 0, none⟩) 2 cap := hv3
    have HF := hidden (And.intro HR (And.intro hg hst))
    rw [hv3']
    clear hown3 hgrow3 hnil3 hb3 HR hg hst hv3 hv3'
    go_wp2
    go_ret
    exact ⟨g, cap, rfl, HF.out⟩
  | some a =>
    have hnews := hidden hrd.news
    have hm : B.length ≤ maxLen := by unfold maxLen; omega
    generalize hL : B.length = L at *
    have HL := hidden hL
    clear h1 h' hrd hv hL
    go_enter Tryd.func6, Tryd.ntmps6
    go_wp2_with (at_builtin; refine wpList_append_at _ rfl (.tmp 3) (.tmp 4) 22 rfl 5 i0 (.int .u8 0) 1 1 Tryd.underlying22 hi hz0 hz1 hz2 rfl (by decide) _ 0 [] rfl hown.out a L cv (u8s B) rfl ?c0 hnews.out (u8s_one _) ?c3 ?c4 ?_)
    case c0 => rw [u8s_length, HL.out]; omega
    case c3 => omega
    case c4 => omega
    intro v1 w1 hown1 hgrow1 hnil1 hb1
    have HO1 := hidden (show w1.ownsRow 0 5 1 v1 L (u8s B) by simpa using hown1)
    have HS1 := hidden (show Step (fun _ => False) w w1 from ((Step.refl _ _).alloc _).grown hgrow1 (fun k hk => .inr (by simp [Value.ownBlock] at hk; omega)))
    have HB1 := hidden (show ∀ k, v1.ownBlock = some k → w.heap.size ≤ k by
      intro k hk
      rcases hb1 with e | e
      · rw [e] at hk; simp [Value.ownBlock] at hk; omega
      · rw [e] at hk; have := Option.some.inj hk; omega)
    clear hown1 hgrow1 hnil1 hb1
    go_wp2_with (at_builtin; refine wpList_append_at _ rfl (.tmp 5) (.tmp 6) 22 rfl 5 i0 (.int .u8 0) 1 1 Tryd.underlying22 hi hz0 hz1 hz2 rfl (by decide) _ _ _ rfl (HO1.out.alloc _) ⟨w1.heap.size, 0, none⟩ 1 1 [.int .u8 171] rfl rfl ?d1 ?d2 ?d3 ?d4 ?_)
    case d1 => exact cell_one_new _ _ _
    case d2 => intro u hu; simp at hu; subst hu; rfl
    case d3 => unfold maxLen; omega
    case d4 => omega
    intro v2 w2 hown2 hgrow2 hnil2 hb2
    have HO2 := hidden hown2
    have HG2 := hidden (And.intro hgrow2 hb2)
    clear hown2 hgrow2 hnil2 hb2
    go_wp2_with (at_builtin; refine wpList_append_at _ rfl (.tmp 7) (.tmp 8) 22 rfl 5 i0 (.int .u8 0) 1 1 Tryd.underlying22 hi hz0 hz1 hz2 rfl (by decide) _ _ _ rfl (HO2.out.alloc _) ⟨w2.heap.size, 0, none⟩ 1 1 [.int .u8 171] rfl rfl ?e1 ?e2 ?e3 ?e4 ?_)
    case e1 => exact cell_one_new _ _ _
    case e2 => intro u hu; simp at hu; subst hu; rfl
    case e3 => unfold maxLen; omega
    case e4 => omega
    intro v3 w3 hown3 hgrow3 hnil3 hb3
    have hfin := roomy_close (B := B) HS1.out HB1.out HG2.out.1 HG2.out.2 (by rw [HL.out]; exact hown3) hgrow3 hb3
    obtain ⟨g, cap, hv3, HR, hg, hst⟩ := hfin
    have hcap := HR.room
    rw [HL.out] at hcap hv3
    have HF := hidden (And.intro HR (And.intro hg hst))
    rw [hv3]
    clear hown3 hgrow3 hnil3 hb3 HR hg hst hv3
    go_wp2
    go_ret
    exact ⟨g, cap, rfl, HF.out⟩

end Go.Proofs.YthomkgajilmphaaDoor
