/-
  Behind a stroke a sign stands for itself, anything else does not: the walk.
-/
import Derived.Test.YtmegfcgnemfjnaaDoorECode3
import Derived.Test.YtmegfcgnemfjnaaDoorEOwn
import Derived.Test.YtmegfcgnemfjnaaDoorRegionInv
import Derived.Test.YtmegfcgnemfjnaaDoorRunOne
namespace Go.Proofs.YtmegfcgnemfjnaaDoor
open Go.RowKit Go.Lib

theorem run_conv (l : List UInt8) (v : Value) (u : World) (o : Oper) (b : Act) (p : Operand) (ho : o.op = .convert 27 9 p) (hp : b.eval p = v) (h : Rb u v l) : (execOp b.eval o).run Tryd.prog u = .ok (.value (str l)) u := by
  have hc := conv_any h
  simp only [execOp, ho, hp]
  simp [hc]
theorem run_cat (x y : ByteArray) (u : World) (o : Oper) (b : Act) (p q : Operand) (ho : o.op = .binOp .add 9 p q 9) (hp : b.eval p = .string x) (hq : b.eval q = .string y) (hs : x.size + y.size ≤ 100000) : (execOp b.eval o).run Tryd.prog u = .ok (.value (.string (x ++ y))) u := by
  have h1 : (x.size : Int) + (y.size : Int) ≤ 100000 := by omega
  simp only [execOp, ho, hp, hq]
  simp [go_sem]
  first | done | omega | (simp; omega) | skip
theorem run_eqs (x : ByteArray) (u : World) (o : Oper) (b : Act) (p q : Operand) (ho : o.op = .binOp .eql 9 p q 9) (hp : b.eval p = .string x) (hq : b.eval q = .string x) : (execOp b.eval o).run Tryd.prog u = .ok (.value (.bool true)) u := by
  simp only [execOp, ho, hp, hq]
  simp [go_sem]
theorem run_row (x : Int) (u : World) (o : Oper) (b : Act) (p : Operand) (ho : o.op = .buildSlice 27 1 #[(0, p)]) (hp : b.eval p = .int .u8 x) : (execOp b.eval o).run Tryd.prog u = .ok (.value (.slice (some ⟨u.heap.size, 0, none⟩) 1 1)) (u.alloc (.cells #[.int .u8 x] 5)) := by
  simp only [execOp, ho]
  simp [hp]
  simp [go_sem]

theorem act_lit66 (b : Act) (hd : b.defers = []) (hn : b.tmps.size = 66) : ∃ f : Nat → Value, (∀ t, f t = b.eval (.tmp t)) ∧ b = ⟨#[f 0, f 1, f 2, f 3, f 4, f 5, f 6, f 7, f 8, f 9, f 10, f 11, f 12, f 13, f 14, f 15, f 16, f 17, f 18, f 19, f 20, f 21, f 22, f 23, f 24, f 25, f 26, f 27, f 28, f 29, f 30, f 31, f 32, f 33, f 34, f 35, f 36, f 37, f 38, f 39, f 40, f 41, f 42, f 43, f 44, f 45, f 46, f 47, f 48, f 49, f 50, f 51, f 52, f 53, f 54, f 55, f 56, f 57, f 58, f 59, f 60, f 61, f 62, f 63, f 64, f 65], []⟩ := by
  refine ⟨fun t => b.eval (.tmp t), fun _ => rfl, ?_⟩
  obtain ⟨t, d⟩ := b
  simp only at hd hn
  subst hd
  congr 1
  have e : ∀ g : Nat → Value, #[g 0, g 1, g 2, g 3, g 4, g 5, g 6, g 7, g 8, g 9, g 10, g 11, g 12, g 13, g 14, g 15, g 16, g 17, g 18, g 19, g 20, g 21, g 22, g 23, g 24, g 25, g 26, g 27, g 28, g 29, g 30, g 31, g 32, g 33, g 34, g 35, g 36, g 37, g 38, g 39, g 40, g 41, g 42, g 43, g 44, g 45, g 46, g 47, g 48, g 49, g 50, g 51, g 52, g 53, g 54, g 55, g 56, g 57, g 58, g 59, g 60, g 61, g 62, g 63, g 64, g 65] = ((List.range 66).map g).toArray := fun g => rfl
  refine Eq.trans ?_ (e fun x => Act.eval ⟨t, []⟩ (.tmp x)).symm
  apply Array.ext
  · simp [hn]
  · intro i h1 h2
    simp [Act.eval, h1]

def SF (c : Int) (b8 : UInt8) : Nat → World → Value → Prop
  | 0, _, v => v = .int .u8 c
  | 1, u, v => Rb u v [b8]
  | 2, _, v => v = .string ⟨#[b8]⟩
  | 3, _, v => v = .string (⟨#[92]⟩ ++ ⟨#[b8]⟩)
  | 4, _, v => v = .string ⟨#[b8]⟩
  | 5, _, v => v = .int .u8 c
  | 6, u, v => Rb u v [b8]
  | 7, _, v => v = .string ⟨#[b8]⟩
  | _, _, v => v = .bool true
theorem SF.mono {c : Int} {b8 : UInt8} : ∀ k u u' v, SF c b8 k u v → Step (fun _ => False) u u' → SF c b8 k u' v
  | 0, _, _, _, h, _ => h
  | 1, _, _, _, h, hs => Rd.step h hs (fun _ _ _ _ _ h => h)
  | 2, _, _, _, h, _ => h
  | 3, _, _, _, h, _ => h
  | 4, _, _, _, h, _ => h
  | 5, _, _, _, h, _ => h
  | 6, _, _, _, h, hs => Rd.step h hs (fun _ _ _ _ _ h => h)
  | 7, _, _, _, h, _ => h
  | _ + 8, _, _, _, h, _ => h

set_option maxHeartbeats 4000000 in
theorem law_signs (c : Nat) (hc : c < 256) (l : List UInt8) (w : World) (T : EW w) :
    Calls Tryd.prog 7 #[.int .u8 (c : Int), str l] w fun e w' => e = .returned (.bool true) ∧ Step (fun _ => False) w w' := by
  obtain ⟨s, hs⟩ : ∃ s : ByteArray, s = ⟨l.toArray⟩ := ⟨_, rfl⟩
  have hsl : s.data.toList = l := by rw [hs]
  have hsz : s.size = l.length := by rw [hs]; exact ba_size l
  unfold str
  rw [← hs]
  have HS := hidden (Step.refl (fun _ => False) w)
  have TT := hidden T
  by_cases hl : l.length ≤ 1500
  · have z0 : ¬ ((1500 : Int) < (s.size : Int)) := by omega
    have hsb : s.size ≤ 1500 := by omega
    obtain ⟨b8, hb8⟩ : ∃ b : UInt8, b = UInt8.ofNat c := ⟨_, rfl⟩
    have hbn : b8.toNat = c := by rw [hb8]; simp; omega
    have HK := hidden (fun wx => eknown_any wx)
    have HPc := hidden (fun wx => psign_any (c : Int) (by omega) (by omega) wx)
    have hcvg : ∀ (wx : World) (g : Nat), wx.heap.size = g → (convert 27 9 (.slice (some ⟨g, 0, none⟩) 1 1)).run Tryd.prog (wx.alloc (.cells #[.int .u8 (c : Int)] 5)) = .ok (.string ⟨#[b8]⟩) (wx.alloc (.cells #[.int .u8 (c : Int)] 5)) := fun wx g hg => by
      subst hg
      exact conv_lit_n wx [b8] #[.int .u8 (c : Int)] 1 ⟨#[b8]⟩ rfl (by rw [← hbn]; rfl) rfl
    have hcv := hcvg w w.heap.size rfl
    have hcv2 := hcvg (w.alloc (.cells #[.int .u8 (c : Int)] 5)) (w.heap.size + 1) (by simp)
    have hcv3 := hcvg ((w.alloc (.cells #[.int .u8 (c : Int)] 5)).alloc (.cells #[.int .u8 (c : Int)] 5)) (w.heap.size + 1 + 1) (by simp)
    have hcv4 := hcvg ((w.alloc (.cells #[.int .u8 (c : Int)] 5)).alloc (.cells #[.int .u8 (c : Int)] 5)) (w.heap.size + 2) (by simp)
    clear hcvg
    have HUs := hidden (fun wx (T : EW wx) => unescape_any l wx (by omega) T)
    have hul := unesc_length l
    obtain ⟨su, hsu⟩ : ∃ su : ByteArray, su = ⟨(unesc l).toArray⟩ := ⟨_, rfl⟩
    have hsuz : su.size ≤ 6000 := by rw [hsu, ba_size]; omega
    unfold str at HUs
    rw [← hs, ← hsu] at HUs
    have h92 : (⟨#[92]⟩ : ByteArray).size = 1 := rfl
    have hb1 : (⟨#[b8]⟩ : ByteArray).size = 1 := rfl
    have h2z : ((⟨#[92]⟩ : ByteArray) ++ ⟨#[b8]⟩).size = 2 := rfl
    have hsg0 : signB ((b8.toNat : Nat) : Int) = signB (c : Int) := by rw [hbn]
    -- of all three
    have HU1 := hidden (fun wx (T : EW wx) => unescape_any (92 :: b8 :: l) wx (by simp; omega) T)
    have hx : (⟨(92 :: b8 :: l).toArray⟩ : ByteArray) = ⟨#[92]⟩ ++ ⟨#[b8]⟩ ++ s := by
      rw [hs, show (⟨#[92]⟩ : ByteArray) = ⟨([92] : List UInt8).toArray⟩ from rfl, show (⟨#[b8]⟩ : ByteArray) = ⟨([b8] : List UInt8).toArray⟩ from rfl, cat_str, cat_str]; rfl
    have HU0 := hidden (fun wx (T : EW wx) => unescape_any [92, b8] wx (by simp) T)
    have hx0 : (⟨([92, b8] : List UInt8).toArray⟩ : ByteArray) = ⟨#[92]⟩ ++ ⟨#[b8]⟩ := by
      rw [show (⟨#[92]⟩ : ByteArray) = ⟨([92] : List UInt8).toArray⟩ from rfl, show (⟨#[b8]⟩ : ByteArray) = ⟨([b8] : List UInt8).toArray⟩ from rfl, cat_str]; rfl
    unfold str at HU1 HU0
    rw [hx] at HU1
    rw [hx0] at HU0
    by_cases hl0 : l = []
    · have p0 : ¬ ((0 : Int) < (s.size : Int)) := by rw [hsz, hl0]; simp
      clear hsl hl0
      cases hsg : signB (c : Int) with
      | true =>
        have e1 := unesc_sign b8 l (by rw [hsg0]; exact hsg)
        have e0 := unesc_sign b8 [] (by rw [hsg0]; exact hsg)
        rw [hsg] at HPc
        by_cases hsp : c = 38 ∨ c = 92
        · rw [e0] at HU0
          rw [show (⟨(b8 :: unesc []).toArray⟩ : ByteArray) = ⟨#[b8]⟩ from rfl] at HU0
          have HRB := hidden (fun wx => rb_lit wx [b8] #[.int .u8 (c : Int)] 1 rfl (by rw [← hbn]; rfl))
          have gsp : (((c : Int) == 38) = true) ∨ (((c : Int) == 38) = false ∧ ((c : Int) == 92) = true) := by
            by_cases h38 : c = 38
            · exact .inl (by rw [beq_iff_eq]; omega)
            · exact .inr ⟨by rw [beq_eq_false_iff_ne]; omega, by rw [beq_iff_eq]; omega⟩
          clear hs hsz hl hx hx0 hsu hb8 hbn hsg0 hul T e0 e1 hsg hsp
          rcases gsp with g38 | ⟨g38, g92⟩
          all_goals
            go_enter Tryd.func7, Tryd.ntmps7
            go_wp2_with fail
            refine Calls.mono (HPc.out _) ?_
            rintro e w5 ⟨rfl, h5⟩
            have h5 := h5.symm
            subst h5
            go_wp2
            refine region_inv Tryd.mixed 66 (fun j => if j = 12 then 4 else 39 + j) [(0, .int .u8 (c : Int))] (SF (c : Int) b8) (by kernel_rfl) SF.mono rfl rfl ?rbase ?rops ?rend
            case rbase => intro x hx; simp at hx; rcases hx with rfl; rfl
            case rops =>
              intro j o ho b u hn hs hb hdeps
              have b0 := hb (0, .int .u8 (c : Int)) (by simp)
              have hj : j < 13 := (Array.getElem?_eq_some_iff.1 ho).1
              have Hu := hidden (((HS.out.alloc (.cells #[.int .u8 (c : Int)] 5)).alloc (.cells #[.int .u8 (c : Int)] 5)).made hs)
              have hjc : j = 0 ∨ j = 1 ∨ j = 2 ∨ j = 3 ∨ j = 4 ∨ j = 5 ∨ j = 6 ∨ j = 7 ∨ j = 8 ∨ j = 9 ∨ j = 10 ∨ j = 11 ∨ j = 12 := by omega
              rcases hjc with rfl | rfl | rfl | rfl | rfl | rfl | rfl | rfl | rfl | rfl | rfl | rfl | rfl
              · simp at ho
                subst ho
                exact ⟨rfl, wp_run (v := .int .u8 (c : Int)) (by simp [execOp, b0]) ⟨_, rfl, Step.refl _ _, rfl⟩⟩
              · simp at ho
                subst ho
                have d0 : b.eval (.tmp 39) = _ := hdeps ⟨0, .data⟩ (by simp) rfl
                exact ⟨rfl, wp_run (run_row (c : Int) u _ b (.tmp 39) rfl d0) ⟨_, rfl, (Step.refl _ _).alloc _, HRB.out u⟩⟩
              · simp at ho
                subst ho
                have d0 : Rb u (b.eval (.tmp 40)) [b8] := hdeps ⟨1, .data⟩ (by simp) rfl
                exact ⟨rfl, wp_run (run_conv [b8] _ u _ b (.tmp 40) rfl rfl d0) ⟨_, rfl, Step.refl _ _, rfl⟩⟩
              · simp at ho
                subst ho
                have d0 : b.eval (.tmp 41) = _ := hdeps ⟨2, .data⟩ (by simp) rfl
                exact ⟨rfl, wp_run (run_cat ⟨#[92]⟩ ⟨#[b8]⟩ u _ b (.const (.string ⟨#[92]⟩)) (.tmp 41) rfl rfl d0 (by rw [h92, hb1]; omega)) ⟨_, rfl, Step.refl _ _, rfl⟩⟩
              · simp at ho
                subst ho
                have d0 : b.eval (.tmp 42) = _ := hdeps ⟨3, .data⟩ (by simp) rfl
                refine ⟨rfl, wp_enter (run_call1 Tryd.func12 (by kernel_rfl) rfl _ u _ b (.tmp 42) _ rfl d0) ((HU0.out u (TT.out.step Hu.out)).mono ?_)⟩
                rintro e w' ⟨rfl, hS⟩
                exact ⟨_, rfl, _, rfl, hS, rfl⟩
              · simp at ho
                subst ho
                exact ⟨rfl, wp_run (v := .int .u8 (c : Int)) (by simp [execOp, b0]) ⟨_, rfl, Step.refl _ _, rfl⟩⟩
              · simp at ho
                subst ho
                have d0 : b.eval (.tmp 44) = _ := hdeps ⟨5, .data⟩ (by simp) rfl
                exact ⟨rfl, wp_run (run_row (c : Int) u _ b (.tmp 44) rfl d0) ⟨_, rfl, (Step.refl _ _).alloc _, HRB.out u⟩⟩
              · simp at ho
                subst ho
                have d0 : Rb u (b.eval (.tmp 45)) [b8] := hdeps ⟨6, .data⟩ (by simp) rfl
                exact ⟨rfl, wp_run (run_conv [b8] _ u _ b (.tmp 45) rfl rfl d0) ⟨_, rfl, Step.refl _ _, rfl⟩⟩
              · simp at ho
                subst ho
                have d0 : b.eval (.tmp 43) = _ := hdeps ⟨4, .data⟩ (by simp) rfl
                have d1 : b.eval (.tmp 46) = _ := hdeps ⟨7, .data⟩ (by simp) rfl
                exact ⟨rfl, wp_run (run_eqs ⟨#[b8]⟩ u _ b (.tmp 43) (.tmp 46) rfl d0 d1) ⟨_, rfl, Step.refl _ _, rfl⟩⟩
              · simp at ho
                subst ho
                have d0 : b.eval (.tmp 47) = _ := hdeps ⟨8, .data⟩ (by simp) rfl
                exact ⟨rfl, wp_run (v := .bool true) (by simp [execOp, d0]) ⟨_, rfl, Step.refl _ _, rfl⟩⟩
              · simp at ho
                subst ho
                have d0 : b.eval (.tmp 48) = .bool true := hdeps ⟨9, .guard⟩ (by simp) rfl
                refine ⟨?_, wp_enter (run_call0 Tryd.func11 (by kernel_rfl) rfl u _ b rfl) ((HK.out u (TT.out.step Hu.out)).mono ?_)⟩
                · simp only [Region.wanted]
                  rw [yielded_of (d := 48) (n := 66) rfl hn (by decide) d0]
                  rfl
                rintro e w' ⟨rfl, hS⟩
                exact ⟨_, rfl, _, rfl, hS, rfl⟩
              · simp at ho
                subst ho
                have d0 : b.eval (.tmp 48) = .bool true := hdeps ⟨9, .data⟩ (by simp) rfl
                have d1 : b.eval (.tmp 49) = .bool true := hdeps ⟨10, .data⟩ (by simp) rfl
                exact ⟨rfl, wp_run (v := .bool true) (by simp [execOp, d0, d1, asBool]) ⟨_, rfl, Step.refl _ _, rfl⟩⟩
              · simp at ho
                subst ho
                have d0 : b.eval (.tmp 50) = .bool true := hdeps ⟨11, .data⟩ (by simp) rfl
                exact ⟨rfl, wp_run (v := .bool true) (by simp [execOp, d0]) ⟨_, rfl, Step.refl _ _, rfl⟩⟩
            case rend =>
              intro b u hd hn hs hb hf
              have b4 : b.eval (.tmp 4) = .bool true := hf 12 (by decide)
              obtain ⟨f, hf2, hbf⟩ := act_lit66 b hd hn
              rw [← hf2] at b4
              rw [b4] at hbf
              rw [hbf]
              have HF := hidden (((HS.out.alloc (.cells #[.int .u8 (c : Int)] 5)).alloc (.cells #[.int .u8 (c : Int)] 5)).made hs)
              clear hf hb hbf hf2 b4 hd hn hs
              go_wp2
              go_ret
              exact ⟨rfl, HF.out⟩
        · rw [e1] at HU1
          rw [show (⟨(b8 :: unesc l).toArray⟩ : ByteArray) = ⟨#[b8]⟩ ++ su by rw [hsu]; exact (cat_str [b8] (unesc l)).symm] at HU1
          have g38 : ((c : Int) == 38) = false := by rw [beq_eq_false_iff_ne]; omega
          have g92 : ((c : Int) == 92) = false := by rw [beq_eq_false_iff_ne]; omega
          clear hs hsz hl hx hx0 hsu hb8 hbn hsg0 hul T e0 e1 hsg hsp
          go_enter Tryd.func7, Tryd.ntmps7
          go_wp2_with fail
          refine Calls.mono (HPc.out _) ?_
          rintro e w5 ⟨rfl, h5⟩
          have h5 := h5.symm
          subst h5
          go_wp2_with fail
          have HSa := hidden (show Step (fun _ => False) w _ from (((HS.out.alloc (.cells #[.int .u8 (c : Int)] 5)).alloc (.cells #[.int .u8 (c : Int)] 5)).alloc (.cells #[.int .u8 (c : Int)] 5)))
          refine Calls.mono (HU1.out _ (TT.out.step HSa.out)) ?_
          rintro e w6 ⟨rfl, S6⟩
          have HS6 := hidden (HSa.out.made S6)
          clear S6
          go_wp2_with fail
          refine Calls.mono (HUs.out _ (TT.out.step HS6.out)) ?_
          rintro e w7 ⟨rfl, S7⟩
          have HS7 := hidden (HS6.out.made S7)
          clear S7
          have HK2 := hidden (HK.out _ (TT.out.step HS7.out))
          go_wp2_with fail
          refine Calls.mono HK2.out ?_
          rintro e w9 ⟨rfl, S9⟩
          have HS9 := hidden (HS7.out.made S9)
          clear S9
          go_wp2
          go_ret
          exact ⟨rfl, HS9.out⟩
      | false =>
        have e1 := unesc_stroke b8 l (by rw [hsg0]; exact hsg)
        have n38 : c ≠ 38 := by rintro rfl; exact absurd hsg (by decide)
        have n92 : c ≠ 92 := by rintro rfl; exact absurd hsg (by decide)
        rw [unesc_plain b8 l (by omega) (by omega)] at e1
        rw [hsg] at HPc
        rw [e1] at HU1
        rw [show (⟨(92 :: b8 :: unesc l).toArray⟩ : ByteArray) = ⟨#[92]⟩ ++ ⟨#[b8]⟩ ++ su by
          rw [hsu, show (⟨#[92]⟩ : ByteArray) = ⟨([92] : List UInt8).toArray⟩ from rfl, show (⟨#[b8]⟩ : ByteArray) = ⟨([b8] : List UInt8).toArray⟩ from rfl, cat_str, cat_str]; rfl] at HU1
        have g38 : ((c : Int) == 38) = false := by rw [beq_eq_false_iff_ne]; omega
        have g92 : ((c : Int) == 92) = false := by rw [beq_eq_false_iff_ne]; omega
        clear hs hsz hl hx hx0 hsu hb8 hbn hsg0 hul T e1 hsg n38 n92
        go_enter Tryd.func7, Tryd.ntmps7
        go_wp2_with fail
        refine Calls.mono (HPc.out _) ?_
        rintro e w5 ⟨rfl, h5⟩
        have h5 := h5.symm
        subst h5
        go_wp2_with fail
        have HSa := hidden (show Step (fun _ => False) w _ from ((HS.out.alloc (.cells #[.int .u8 (c : Int)] 5)).alloc (.cells #[.int .u8 (c : Int)] 5)))
        refine Calls.mono (HU1.out _ (TT.out.step HSa.out)) ?_
        rintro e w6 ⟨rfl, S6⟩
        have HS6 := hidden (HSa.out.made S6)
        clear S6
        go_wp2_with fail
        refine Calls.mono (HUs.out _ (TT.out.step HS6.out)) ?_
        rintro e w7 ⟨rfl, S7⟩
        have HS7 := hidden (HS6.out.made S7)
        clear S7
        have HK2 := hidden (HK.out _ (TT.out.step HS7.out))
        go_wp2_with fail
        refine Calls.mono HK2.out ?_
        rintro e w9 ⟨rfl, S9⟩
        have HS9 := hidden (HS7.out.made S9)
        clear S9
        go_wp2
        go_ret
        exact ⟨rfl, HS9.out⟩
    · have hp0 : 0 < s.size := by
        rw [hsz]
        cases l with
        | nil => exact absurd rfl hl0
        | cons => simp
      have p0 : (0 : Int) < (s.size : Int) := by omega
      have c0 : (s[0]'hp0).toNat = bN l 0 := by rw [getD_at s l hsl 0 hp0]; rfl
      have hx0' := bN_lt l 0
      have HP0 := hidden (fun wx => psign_any ((bN l 0 : Nat) : Int) (by omega) (by omega) wx)
      generalize bN l 0 = x0 at *
      cases hsx : signB (x0 : Int) with
      | true =>
        rw [hsx] at HP0
        clear hs hsl hsz hl hl0 hx hx0 hsu hb8 hbn hsg0 hul T hcv hcv2 hcv3 hcv4
        go_enter Tryd.func7, Tryd.ntmps7
        go_wp2_with fail
        refine Calls.mono (HP0.out _) ?_
        rintro e w' ⟨rfl, rfl⟩
        go_wp2
        go_ret
        exact ⟨rfl, HS.out⟩
      | false =>
        rw [hsx] at HP0
        by_cases x00 : x0 = 0
        · rw [x00] at c0 HP0
          clear hs hsl hsz hl hl0 hx hx0 hsu hb8 hbn hsg0 hul T hcv hcv2 hcv3 hcv4 hsx x00
          go_enter Tryd.func7, Tryd.ntmps7
          go_wp2_with fail
          refine Calls.mono (HP0.out _) ?_
          rintro e w' ⟨rfl, rfl⟩
          go_wp2
          go_ret
          exact ⟨rfl, HS.out⟩
        · have gx0 : ((x0 : Int) == 0) = false := by rw [beq_eq_false_iff_ne]; omega
          clear hsl hl0 hsx x00
          cases hsg : signB (c : Int) with
          | true =>
            have e1 := unesc_sign b8 l (by rw [hsg0]; exact hsg)
            have e0 := unesc_sign b8 [] (by rw [hsg0]; exact hsg)
            rw [hsg] at HPc
            by_cases hsp : c = 38 ∨ c = 92
            · rw [e0] at HU0
              rw [show (⟨(b8 :: unesc []).toArray⟩ : ByteArray) = ⟨#[b8]⟩ from rfl] at HU0
              have HRB := hidden (fun wx => rb_lit wx [b8] #[.int .u8 (c : Int)] 1 rfl (by rw [← hbn]; rfl))
              have gsp : (((c : Int) == 38) = true) ∨ (((c : Int) == 38) = false ∧ ((c : Int) == 92) = true) := by
                by_cases h38 : c = 38
                · exact .inl (by rw [beq_iff_eq]; omega)
                · exact .inr ⟨by rw [beq_eq_false_iff_ne]; omega, by rw [beq_iff_eq]; omega⟩
              clear hs hsz hl hx hx0 hsu hb8 hbn hsg0 hul T e0 e1 hsg hsp
              rcases gsp with g38 | ⟨g38, g92⟩
              all_goals
                go_enter Tryd.func7, Tryd.ntmps7
                go_wp2_with fail
                refine Calls.mono (HP0.out _) ?_
                rintro e w4 ⟨rfl, h4⟩
                have h4 := h4.symm
                subst h4
                go_wp2_with fail
                refine Calls.mono (HPc.out _) ?_
                rintro e w5 ⟨rfl, h5⟩
                have h5 := h5.symm
                subst h5
                go_wp2
                refine region_inv Tryd.mixed 66 (fun j => if j = 12 then 4 else 39 + j) [(0, .int .u8 (c : Int))] (SF (c : Int) b8) (by kernel_rfl) SF.mono rfl rfl ?rbase ?rops ?rend
                case rbase => intro x hx; simp at hx; rcases hx with rfl; rfl
                case rops =>
                  intro j o ho b u hn hs hb hdeps
                  have b0 := hb (0, .int .u8 (c : Int)) (by simp)
                  have hj : j < 13 := (Array.getElem?_eq_some_iff.1 ho).1
                  have Hu := hidden (((HS.out.alloc (.cells #[.int .u8 (c : Int)] 5)).alloc (.cells #[.int .u8 (c : Int)] 5)).made hs)
                  have hjc : j = 0 ∨ j = 1 ∨ j = 2 ∨ j = 3 ∨ j = 4 ∨ j = 5 ∨ j = 6 ∨ j = 7 ∨ j = 8 ∨ j = 9 ∨ j = 10 ∨ j = 11 ∨ j = 12 := by omega
                  rcases hjc with rfl | rfl | rfl | rfl | rfl | rfl | rfl | rfl | rfl | rfl | rfl | rfl | rfl
                  · simp at ho
                    subst ho
                    exact ⟨rfl, wp_run (v := .int .u8 (c : Int)) (by simp [execOp, b0]) ⟨_, rfl, Step.refl _ _, rfl⟩⟩
                  · simp at ho
                    subst ho
                    have d0 : b.eval (.tmp 39) = _ := hdeps ⟨0, .data⟩ (by simp) rfl
                    exact ⟨rfl, wp_run (run_row (c : Int) u _ b (.tmp 39) rfl d0) ⟨_, rfl, (Step.refl _ _).alloc _, HRB.out u⟩⟩
                  · simp at ho
                    subst ho
                    have d0 : Rb u (b.eval (.tmp 40)) [b8] := hdeps ⟨1, .data⟩ (by simp) rfl
                    exact ⟨rfl, wp_run (run_conv [b8] _ u _ b (.tmp 40) rfl rfl d0) ⟨_, rfl, Step.refl _ _, rfl⟩⟩
                  · simp at ho
                    subst ho
                    have d0 : b.eval (.tmp 41) = _ := hdeps ⟨2, .data⟩ (by simp) rfl
                    exact ⟨rfl, wp_run (run_cat ⟨#[92]⟩ ⟨#[b8]⟩ u _ b (.const (.string ⟨#[92]⟩)) (.tmp 41) rfl rfl d0 (by rw [h92, hb1]; omega)) ⟨_, rfl, Step.refl _ _, rfl⟩⟩
                  · simp at ho
                    subst ho
                    have d0 : b.eval (.tmp 42) = _ := hdeps ⟨3, .data⟩ (by simp) rfl
                    refine ⟨rfl, wp_enter (run_call1 Tryd.func12 (by kernel_rfl) rfl _ u _ b (.tmp 42) _ rfl d0) ((HU0.out u (TT.out.step Hu.out)).mono ?_)⟩
                    rintro e w' ⟨rfl, hS⟩
                    exact ⟨_, rfl, _, rfl, hS, rfl⟩
                  · simp at ho
                    subst ho
                    exact ⟨rfl, wp_run (v := .int .u8 (c : Int)) (by simp [execOp, b0]) ⟨_, rfl, Step.refl _ _, rfl⟩⟩
                  · simp at ho
                    subst ho
                    have d0 : b.eval (.tmp 44) = _ := hdeps ⟨5, .data⟩ (by simp) rfl
                    exact ⟨rfl, wp_run (run_row (c : Int) u _ b (.tmp 44) rfl d0) ⟨_, rfl, (Step.refl _ _).alloc _, HRB.out u⟩⟩
                  · simp at ho
                    subst ho
                    have d0 : Rb u (b.eval (.tmp 45)) [b8] := hdeps ⟨6, .data⟩ (by simp) rfl
                    exact ⟨rfl, wp_run (run_conv [b8] _ u _ b (.tmp 45) rfl rfl d0) ⟨_, rfl, Step.refl _ _, rfl⟩⟩
                  · simp at ho
                    subst ho
                    have d0 : b.eval (.tmp 43) = _ := hdeps ⟨4, .data⟩ (by simp) rfl
                    have d1 : b.eval (.tmp 46) = _ := hdeps ⟨7, .data⟩ (by simp) rfl
                    exact ⟨rfl, wp_run (run_eqs ⟨#[b8]⟩ u _ b (.tmp 43) (.tmp 46) rfl d0 d1) ⟨_, rfl, Step.refl _ _, rfl⟩⟩
                  · simp at ho
                    subst ho
                    have d0 : b.eval (.tmp 47) = _ := hdeps ⟨8, .data⟩ (by simp) rfl
                    exact ⟨rfl, wp_run (v := .bool true) (by simp [execOp, d0]) ⟨_, rfl, Step.refl _ _, rfl⟩⟩
                  · simp at ho
                    subst ho
                    have d0 : b.eval (.tmp 48) = .bool true := hdeps ⟨9, .guard⟩ (by simp) rfl
                    refine ⟨?_, wp_enter (run_call0 Tryd.func11 (by kernel_rfl) rfl u _ b rfl) ((HK.out u (TT.out.step Hu.out)).mono ?_)⟩
                    · simp only [Region.wanted]
                      rw [yielded_of (d := 48) (n := 66) rfl hn (by decide) d0]
                      rfl
                    rintro e w' ⟨rfl, hS⟩
                    exact ⟨_, rfl, _, rfl, hS, rfl⟩
                  · simp at ho
                    subst ho
                    have d0 : b.eval (.tmp 48) = .bool true := hdeps ⟨9, .data⟩ (by simp) rfl
                    have d1 : b.eval (.tmp 49) = .bool true := hdeps ⟨10, .data⟩ (by simp) rfl
                    exact ⟨rfl, wp_run (v := .bool true) (by simp [execOp, d0, d1, asBool]) ⟨_, rfl, Step.refl _ _, rfl⟩⟩
                  · simp at ho
                    subst ho
                    have d0 : b.eval (.tmp 50) = .bool true := hdeps ⟨11, .data⟩ (by simp) rfl
                    exact ⟨rfl, wp_run (v := .bool true) (by simp [execOp, d0]) ⟨_, rfl, Step.refl _ _, rfl⟩⟩
                case rend =>
                  intro b u hd hn hs hb hf
                  have b4 : b.eval (.tmp 4) = .bool true := hf 12 (by decide)
                  obtain ⟨f, hf2, hbf⟩ := act_lit66 b hd hn
                  rw [← hf2] at b4
                  rw [b4] at hbf
                  rw [hbf]
                  have HF := hidden (((HS.out.alloc (.cells #[.int .u8 (c : Int)] 5)).alloc (.cells #[.int .u8 (c : Int)] 5)).made hs)
                  clear hf hb hbf hf2 b4 hd hn hs
                  go_wp2
                  go_ret
                  exact ⟨rfl, HF.out⟩
            · rw [e1] at HU1
              rw [show (⟨(b8 :: unesc l).toArray⟩ : ByteArray) = ⟨#[b8]⟩ ++ su by rw [hsu]; exact (cat_str [b8] (unesc l)).symm] at HU1
              have g38 : ((c : Int) == 38) = false := by rw [beq_eq_false_iff_ne]; omega
              have g92 : ((c : Int) == 92) = false := by rw [beq_eq_false_iff_ne]; omega
              clear hs hsz hl hx hx0 hsu hb8 hbn hsg0 hul T e0 e1 hsg hsp
              go_enter Tryd.func7, Tryd.ntmps7
              go_wp2_with fail
              refine Calls.mono (HP0.out _) ?_
              rintro e w4 ⟨rfl, h4⟩
              have h4 := h4.symm
              subst h4
              go_wp2_with fail
              refine Calls.mono (HPc.out _) ?_
              rintro e w5 ⟨rfl, h5⟩
              have h5 := h5.symm
              subst h5
              go_wp2_with fail
              have HSa := hidden (show Step (fun _ => False) w _ from (((HS.out.alloc (.cells #[.int .u8 (c : Int)] 5)).alloc (.cells #[.int .u8 (c : Int)] 5)).alloc (.cells #[.int .u8 (c : Int)] 5)))
              refine Calls.mono (HU1.out _ (TT.out.step HSa.out)) ?_
              rintro e w6 ⟨rfl, S6⟩
              have HS6 := hidden (HSa.out.made S6)
              clear S6
              go_wp2_with fail
              refine Calls.mono (HUs.out _ (TT.out.step HS6.out)) ?_
              rintro e w7 ⟨rfl, S7⟩
              have HS7 := hidden (HS6.out.made S7)
              clear S7
              have HK2 := hidden (HK.out _ (TT.out.step HS7.out))
              go_wp2_with fail
              refine Calls.mono HK2.out ?_
              rintro e w9 ⟨rfl, S9⟩
              have HS9 := hidden (HS7.out.made S9)
              clear S9
              go_wp2
              go_ret
              exact ⟨rfl, HS9.out⟩
          | false =>
            have e1 := unesc_stroke b8 l (by rw [hsg0]; exact hsg)
            have n38 : c ≠ 38 := by rintro rfl; exact absurd hsg (by decide)
            have n92 : c ≠ 92 := by rintro rfl; exact absurd hsg (by decide)
            rw [unesc_plain b8 l (by omega) (by omega)] at e1
            rw [hsg] at HPc
            rw [e1] at HU1
            rw [show (⟨(92 :: b8 :: unesc l).toArray⟩ : ByteArray) = ⟨#[92]⟩ ++ ⟨#[b8]⟩ ++ su by
              rw [hsu, show (⟨#[92]⟩ : ByteArray) = ⟨([92] : List UInt8).toArray⟩ from rfl, show (⟨#[b8]⟩ : ByteArray) = ⟨([b8] : List UInt8).toArray⟩ from rfl, cat_str, cat_str]; rfl] at HU1
            have g38 : ((c : Int) == 38) = false := by rw [beq_eq_false_iff_ne]; omega
            have g92 : ((c : Int) == 92) = false := by rw [beq_eq_false_iff_ne]; omega
            clear hs hsz hl hx hx0 hsu hb8 hbn hsg0 hul T e1 hsg n38 n92
            go_enter Tryd.func7, Tryd.ntmps7
            go_wp2_with fail
            refine Calls.mono (HP0.out _) ?_
            rintro e w4 ⟨rfl, h4⟩
            have h4 := h4.symm
            subst h4
            go_wp2_with fail
            refine Calls.mono (HPc.out _) ?_
            rintro e w5 ⟨rfl, h5⟩
            have h5 := h5.symm
            subst h5
            go_wp2_with fail
            have HSa := hidden (show Step (fun _ => False) w _ from ((HS.out.alloc (.cells #[.int .u8 (c : Int)] 5)).alloc (.cells #[.int .u8 (c : Int)] 5)))
            refine Calls.mono (HU1.out _ (TT.out.step HSa.out)) ?_
            rintro e w6 ⟨rfl, S6⟩
            have HS6 := hidden (HSa.out.made S6)
            clear S6
            go_wp2_with fail
            refine Calls.mono (HUs.out _ (TT.out.step HS6.out)) ?_
            rintro e w7 ⟨rfl, S7⟩
            have HS7 := hidden (HS6.out.made S7)
            clear S7
            have HK2 := hidden (HK.out _ (TT.out.step HS7.out))
            go_wp2_with fail
            refine Calls.mono HK2.out ?_
            rintro e w9 ⟨rfl, S9⟩
            have HS9 := hidden (HS7.out.made S9)
            clear S9
            go_wp2
            go_ret
            exact ⟨rfl, HS9.out⟩
  · have z0 : (1500 : Int) < (s.size : Int) := by omega
    clear hs hsl hsz hl T
    go_enter Tryd.func7, Tryd.ntmps7
    go_wp2
    go_ret
    exact ⟨rfl, HS.out⟩

end Go.Proofs.YtmegfcgnemfjnaaDoor
