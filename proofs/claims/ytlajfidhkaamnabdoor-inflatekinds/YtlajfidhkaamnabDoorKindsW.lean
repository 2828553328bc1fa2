/-
  The walk of the law on the kinds of blocks.
-/
import Derived.Test.YtlajfidhkaamnabDoorIRawP
namespace Go.Proofs.YtlajfidhkaamnabDoor
open Go.RowKit
set_option maxRecDepth 100000
set_option linter.unusedVariables false

/-- Of kind 3 a block is none. -/
theorem kind3 (w : World) (l : Nat) (hl : l < 2) (R : List Nat) (hR : R.length ≤ 3000) (v : Value) (ps : List (Nat × Nat)) (hps : ps = [(l, 1), (3, 2), (0, 5)] ++ R.map by8) (hB : ∀ y ∈ R, y < 256) (hv : Rd w v (bytesOf (pcN ps) ((pcL ps + 7) / 8))) :
    Calls Tryd.prog 8 #[v, .int .i64 3000] w fun e w' => e = .returned (.tuple #[.slice none 0 0, .int .i64 0, .int .i64 3]) ∧ Hid (Step (fun _ => False) w w') := by
  have hL : pcL ps = 8 + 8 * R.length := by rw [hps, pcL_append, by8_len]; rfl
  have hok : pcOk ps := by
    rw [hps]
    intro q hq
    rcases List.mem_append.1 hq with h | h
    · simp only [List.mem_cons, List.not_mem_nil, or_false] at h
      rcases h with rfl | rfl | rfl
      · show l < 2 ^ 1; omega
      · decide
      · decide
    · obtain ⟨y, hy, rfl⟩ := List.mem_map.1 h
      exact hB y hy
  have hbt : Bt (pcN ps) ((pcL ps + 7) / 8) 0 ps := Bt.of 0 (by simp) hok
  have hb2 : Bt (pcN ps) ((pcL ps + 7) / 8) 0 ((l, 1) :: (3, 2) :: ((0, 5) :: R.map by8)) := by
    have e : (l, 1) :: (3, 2) :: ((0, 5) :: R.map by8) = ps := by rw [hps]; rfl
    rw [e]; exact hbt
  obtain ⟨k1, k2, k3⟩ := hb2.three hl (by omega) (by omega)
  have hblk : Blks (pcN ps) ((pcL ps + 7) / 8) 3000 0 0 [] (.error 3) := by
    refine Blks.bad (fun _ => by omega) ?_
    unfold blkP
    rw [if_pos (by omega), if_neg (by omega), if_neg (by omega)]
  exact (bytes_any v _ _ 3000 0 _ w hv (by omega) (by omega) (by omega) hblk).mono fun e w' ⟨hs, _, he⟩ => ⟨he, hs⟩

/-- A block that is not the last one, and nothing behind it. -/
theorem kind1 (w : World) (v : Value) (hv : Rd w v (bytesOf (pcN [(0, 1), (1, 2), (rv 0 7 7, 7)]) 2)) :
    Calls Tryd.prog 8 #[v, .int .i64 3000] w fun e w' => e = .returned (.tuple #[.slice none 0 0, .int .i64 0, .int .i64 2]) ∧ Hid (Step (fun _ => False) w w') := by
  have hN : pcN [(0, 1), (1, 2), (rv 0 7 7, 7)] = 2 := by decide
  have hbt : Bt (pcN [(0, 1), (1, 2), (rv 0 7 7, 7)]) 2 0 [(0, 1), (1, 2), (rv 0 7 7, 7)] := Bt.of 0 (by simp) (by
    intro q hq
    simp only [List.mem_cons, List.not_mem_nil, or_false] at hq
    rcases hq with rfl | rfl | rfl
    · decide
    · decide
    · exact rv_full 0 7)
  obtain ⟨k1, k2, k3⟩ := hbt.three (by omega) (by omega) (by omega)
  have hst := (syms_stop (most := 3000) (O := []) (ps := []) k3 (by omega)).val
  rw [hN] at hv k1 k2 hst
  have hblk : Blks 2 2 3000 1 0 [] (.error 2) := by
    refine Blks.more (u := 10) (Q := []) (by omega) k1 ?_ (Blks.bad (fun _ => by decide) ?_)
    · unfold blkP
      rw [if_pos (by omega), if_neg (by omega), if_pos k2]
      exact hst
    · unfold blkP
      rw [if_pos (by omega), if_pos (by decide)]
      rfl
  exact (bytes_any v 2 2 3000 1 _ w hv (by omega) (by omega) (by omega) hblk).mono fun e w' ⟨hs, _, he⟩ => ⟨he, hs⟩

theorem Wp.new2 {w0 w : World} (S : Step (fun _ => False) w0 w) (t : TypeId) : Wp w0 (w.alloc (.cells #[.slice none 0 0] t)) w.heap.size [] := by
  obtain ⟨s, h1, h2, h3, h4⟩ := Wp.new w t
  exact ⟨s, h1, S.size, fun k hk => Nat.le_trans S.size (h3 k hk), S.made h4⟩

theorem Wp.beside {w0 w : World} {b : Nat} {ps : List (Nat × Nat)} (h : Wp w0 w b ps) (o : Obj) : Wq w0 (w.alloc o) b w.heap.size ps := by
  obtain ⟨s, h1, h2, h3, h4⟩ := h
  have hb : b < w.heap.size := World.block_lt_of_cell? w _ h1.out
  have hz : (w.alloc o).heap.size = w.heap.size + 1 := Array.size_push _
  refine ⟨by omega, by omega, s, ?_, h1.step ((Step.refl (fun _ => False) w).alloc o) (fun h => h) (fun _ _ h => h), h2, h3, h4.alloc o⟩
  intro e
  have := (h1.own.lt _ e).2
  omega

set_option maxHeartbeats 4000000 in
theorem kinds_in (l : Bool) (lv : Nat) (hlv : lv = if l then 1 else 0) (aa : Option Addr) (ca : Nat) (A : List Nat) (w : World) (hA : ∀ x ∈ A, x < 256) (ra : Rd w (.slice aa A.length ca) A) (hl : A.length ≤ 3000) :
    Calls Tryd.prog 4 #[.bool l, .slice aa A.length ca] w fun e w' => e = .returned (.bool true) ∧ Step (fun _ => False) w w' := by
  have HRAW := hidden (fun W q ps h hc hL h8 => raw_p w w.heap.size q ps aa ca A W h hc ra hA hl hL h8)
  have HK3 := hidden (fun W L hL v ps hps hv => kind3 W L hL A hl v ps hps hA hv)
  have HPUT := hidden (fun v n W b ps h h1 h2 h3 => put_p w b ps v n W h h1 h2 h3)
  have HCOD := hidden (fun v n W b ps h h1 h2 h3 => code_p w b ps v n W h h1 h2 h3)
  have HALI := hidden (fun W b ps h h3 => align_p w b ps W h h3)
  have HBYT := hidden (fun W b ps h h3 => bytes_p w b ps W h h3)
  obtain ⟨ps, hps⟩ : ∃ ps, ps = [(lv, 1), (3, 2), (0, 5)] ++ A.map by8 := ⟨_, rfl⟩
  have hpl : Hid (pcL ps ≤ 1000000000) := hidden (by rw [hps, pcL_append, by8_len]; show 8 + 8 * A.length ≤ _; omega)
  have HPS := hidden hps
  obtain ⟨m, hm⟩ : ∃ m, A.length = m := ⟨_, rfl⟩
  have Hm := hidden hm
  rw [hm] at HRAW hl ⊢
  obtain ⟨G, hG⟩ : ∃ G, (pcL ps + 7) / 8 = G := ⟨_, rfl⟩
  have HG := hidden hG
  clear hA ra hm hps hG
  cases l with
  | false =>
    have hlv1 : lv = 0 := hlv
    subst hlv1
    clear hlv
    go_enter Tryd.func4, Tryd.ntmps4
    go_wp2_with fail
    refine (HPUT.out 0 1 _ _ [] (Wp.new w _) (by omega) (by omega) (by simp [pcL])).mono ?_
    rintro e w1 ⟨rfl, W1⟩
    go_wp2_with fail
    refine (HPUT.out 3 2 _ _ _ W1.out (by omega) (by omega) (by simp [pcL])).mono ?_
    rintro e w2 ⟨rfl, W2⟩
    go_wp2_with fail
    refine (HALI.out _ _ _ W2.out (by simp [pcL])).mono ?_
    rintro e w3 ⟨rfl, W3⟩
    have HW3 : Hid (Wp w w3 w.heap.size [(0, 1), (3, 2), (0, 5)]) := hidden W3.out
    go_wp2_with fail
    refine (HRAW.out _ _ _ (HW3.out.beside _) (by simp) (by simp [pcL]) rfl).mono ?_
    rintro e w4 ⟨rfl, W4⟩
    have HW4 : Hid (Wp w w4 w.heap.size ps) := hidden (by rw [HPS.out]; exact W4.out)
    have HB4 := hidden (HBYT.out w4 w.heap.size ps HW4.out hpl.out)
    rw [HG.out] at HB4
    clear W1 W2 W3 W4
    go_wp2_with fail
    refine HB4.out.mono ?_
    rintro e w5 ⟨a5, c5, rfl, W5⟩
    have HB5 := hidden (HK3.out w5 0 (by omega) (.slice a5 G c5) ps HPS.out (by have := Rd.of_own W5.out.1; rw [HG.out]; exact this))
    go_wp2_with fail
    refine HB5.out.mono ?_
    rintro e w6 ⟨rfl, W6⟩
    have HS6 := hidden (W5.out.2.1.made W6.out)
    clear W5 W6 HB4 HB5
    go_wp2_with fail
    refine (HPUT.out 0 1 _ _ [] (Wp.new2 HS6.out _) (by omega) (by omega) (by simp [pcL])).mono ?_
    rintro e w7 ⟨rfl, W7⟩
    go_wp2_with fail
    refine (HPUT.out 1 2 _ _ _ W7.out (by omega) (by omega) (by simp [pcL])).mono ?_
    rintro e w8 ⟨rfl, W8⟩
    go_wp2_with fail
    refine (HCOD.out 0 7 _ _ _ W8.out (by omega) (by omega) (by simp [pcL])).mono ?_
    rintro e w9 ⟨rfl, W9⟩
    have HW9 : Hid (Wp w w9 w6.heap.size [(0, 1), (1, 2), (rv 0 7 7, 7)]) := hidden W9.out
    have HB9 : Hid (Calls Tryd.prog 13 #[.pointer (some ⟨w6.heap.size, 0, none⟩)] w9 fun e w' => ∃ ao c, e = .returned (.slice ao 2 c) ∧ Hid (Rd w' (.slice ao 2 c) (bytesOf (pcN [(0, 1), (1, 2), (rv 0 7 7, 7)]) 2) ∧ Step (fun _ => False) w w')) := hidden ((HBYT.out w9 w6.heap.size _ HW9.out (by simp [pcL])).mono fun e w' ⟨ao, c, he, h⟩ => ⟨ao, c, he, hidden ⟨Rd.of_own h.out.1, h.out.2.1⟩⟩)
    clear W7 W8 W9
    go_wp2_with fail
    refine HB9.out.mono ?_
    rintro e w10 ⟨a10, c10, rfl, W10⟩
    have HB10 := hidden (kind1 w10 (.slice a10 2 c10) W10.out.1)
    go_wp2_with fail
    refine HB10.out.mono ?_
    rintro e w11 ⟨rfl, W11⟩
    have HS11 := hidden (W10.out.2.made W11.out)
    go_wp2_with fail
    refine (known_any w11).mono ?_
    rintro e w12 ⟨rfl, hk12⟩
    have HS12 := hidden (HS11.out.made hk12)
    clear hk12
    go_wp2
    go_ret
    exact ⟨rfl, HS12.out⟩
  | true =>
    have hlv1 : lv = 1 := hlv
    subst hlv1
    clear hlv
    go_enter Tryd.func4, Tryd.ntmps4
    go_wp2_with fail
    refine (HPUT.out 1 1 _ _ [] (Wp.new w _) (by omega) (by omega) (by simp [pcL])).mono ?_
    rintro e w1 ⟨rfl, W1⟩
    go_wp2_with fail
    refine (HPUT.out 3 2 _ _ _ W1.out (by omega) (by omega) (by simp [pcL])).mono ?_
    rintro e w2 ⟨rfl, W2⟩
    go_wp2_with fail
    refine (HALI.out _ _ _ W2.out (by simp [pcL])).mono ?_
    rintro e w3 ⟨rfl, W3⟩
    have HW3 : Hid (Wp w w3 w.heap.size [(1, 1), (3, 2), (0, 5)]) := hidden W3.out
    go_wp2_with fail
    refine (HRAW.out _ _ _ (HW3.out.beside _) (by simp) (by simp [pcL]) rfl).mono ?_
    rintro e w4 ⟨rfl, W4⟩
    have HW4 : Hid (Wp w w4 w.heap.size ps) := hidden (by rw [HPS.out]; exact W4.out)
    have HB4 := hidden (HBYT.out w4 w.heap.size ps HW4.out hpl.out)
    rw [HG.out] at HB4
    clear W1 W2 W3 W4
    go_wp2_with fail
    refine HB4.out.mono ?_
    rintro e w5 ⟨a5, c5, rfl, W5⟩
    have HB5 := hidden (HK3.out w5 1 (by omega) (.slice a5 G c5) ps HPS.out (by have := Rd.of_own W5.out.1; rw [HG.out]; exact this))
    go_wp2_with fail
    refine HB5.out.mono ?_
    rintro e w6 ⟨rfl, W6⟩
    have HS6 := hidden (W5.out.2.1.made W6.out)
    clear W5 W6 HB4 HB5
    go_wp2_with fail
    refine (HPUT.out 0 1 _ _ [] (Wp.new2 HS6.out _) (by omega) (by omega) (by simp [pcL])).mono ?_
    rintro e w7 ⟨rfl, W7⟩
    go_wp2_with fail
    refine (HPUT.out 1 2 _ _ _ W7.out (by omega) (by omega) (by simp [pcL])).mono ?_
    rintro e w8 ⟨rfl, W8⟩
    go_wp2_with fail
    refine (HCOD.out 0 7 _ _ _ W8.out (by omega) (by omega) (by simp [pcL])).mono ?_
    rintro e w9 ⟨rfl, W9⟩
    have HW9 : Hid (Wp w w9 w6.heap.size [(0, 1), (1, 2), (rv 0 7 7, 7)]) := hidden W9.out
    have HB9 : Hid (Calls Tryd.prog 13 #[.pointer (some ⟨w6.heap.size, 0, none⟩)] w9 fun e w' => ∃ ao c, e = .returned (.slice ao 2 c) ∧ Hid (Rd w' (.slice ao 2 c) (bytesOf (pcN [(0, 1), (1, 2), (rv 0 7 7, 7)]) 2) ∧ Step (fun _ => False) w w')) := hidden ((HBYT.out w9 w6.heap.size _ HW9.out (by simp [pcL])).mono fun e w' ⟨ao, c, he, h⟩ => ⟨ao, c, he, hidden ⟨Rd.of_own h.out.1, h.out.2.1⟩⟩)
    clear W7 W8 W9
    go_wp2_with fail
    refine HB9.out.mono ?_
    rintro e w10 ⟨a10, c10, rfl, W10⟩
    have HB10 := hidden (kind1 w10 (.slice a10 2 c10) W10.out.1)
    go_wp2_with fail
    refine HB10.out.mono ?_
    rintro e w11 ⟨rfl, W11⟩
    have HS11 := hidden (W10.out.2.made W11.out)
    go_wp2_with fail
    refine (known_any w11).mono ?_
    rintro e w12 ⟨rfl, hk12⟩
    have HS12 := hidden (HS11.out.made hk12)
    clear hk12
    go_wp2
    go_ret
    exact ⟨rfl, HS12.out⟩

set_option maxHeartbeats 1000000 in
theorem kinds_out (l : Bool) (aa : Option Addr) (m ca : Nat) (w : World) (hm : m ≤ 140737488351232) (hl : 3000 < m) :
    Calls Tryd.prog 4 #[.bool l, .slice aa m ca] w fun e w' => e = .returned (.bool true) ∧ Step (fun _ => False) w w' := by
  have hd : (3000 : Int) < (m : Int) := by omega
  go_enter Tryd.func4, Tryd.ntmps4
  go_wp2
  go_ret
  exact ⟨rfl, Step.refl _ _⟩

end Go.Proofs.YtlajfidhkaamnabDoor
