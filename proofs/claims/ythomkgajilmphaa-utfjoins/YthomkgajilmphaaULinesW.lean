/-
  The walk of the code's Lines.
-/
import Derived.Test.YthomkgajilmphaaULines
namespace Go.Proofs.Ythomkgajilmphaa
open Go.RowKit Go.Lib

/-- A row of one's own stands while an iterator goes on. -/
theorem Own.iter {w0 w : World} {v : Value} {L : List (List UInt8)} (h : Own w0 w v L) {k : Nat} {s : ByteArray} {pos : Nat} (hk : w.heap[k]? = some (.stringIter s pos)) (pos' : Nat) : Own w0 (w.iterAt k s pos') v L := by
  have st : Step (fun i => i = k) w (w.iterAt k s pos') := ⟨rfl, rfl, rfl, by rw [Lib.iterAt_size]; exact Nat.le_refl _, fun i _ hn => Lib.iterAt_other w k i s pos' hn⟩
  refine ⟨owns_step h.own st (fun g hg e => ?_), h.new⟩
  subst e
  rcases h.own.2 with ⟨e, _⟩ | ⟨g', cap, cur, e, _, hgg, _⟩
  · rw [e] at hg; simp [Value.ownBlock] at hg
  · rw [e] at hg
    simp [Value.ownBlock] at hg
    subst hg
    rw [hk] at hgg
    cases hgg

theorem Own.apart {w0 w : World} {v : Value} {L : List (List UInt8)} (h : Own w0 w v L) {k : Nat} {s : ByteArray} {pos : Nat} (hk : w.heap[k]? = some (.stringIter s pos)) : v.ownBlock ≠ some k := by
  intro hg
  rcases h.own.2 with ⟨e, _⟩ | ⟨g', cap, cur, e, _, hgg, _⟩
  · rw [e] at hg; simp [Value.ownBlock] at hg
  · rw [e] at hg
    simp [Value.ownBlock] at hg
    subst hg
    rw [hk] at hgg
    cases hgg
/-- An iterator stands while a row of one's own grows. -/
theorem Own.still {w0 w w' : World} {v : Value} {L : List (List UInt8)} (h : Own w0 w v L) {k : Nat} {s : ByteArray} {pos : Nat} (hk : w.heap[k]? = some (.stringIter s pos)) {o : Obj} (hg : (w.alloc o).grownBy w' v.ownBlock) : w'.heap[k]? = some (.stringIter s pos) := by
  have hlt : k < w.heap.size := (Array.getElem?_eq_some_iff.1 hk).1
  rw [hg.block k (by simp; omega) (fun e => h.apart hk e.symm), Below.heap_alloc w o k hlt]
  exact hk

theorem strs_snoc (L : List (List UInt8)) (x : List UInt8) : strs L ++ [str x] = strs (L ++ [x]) := by simp [strs]

theorem own_more {w0 w w' : World} {v v' : Value} {L : List (List UInt8)} {x : List UInt8} {o : Obj} (hg0 : ∀ k, v.ownBlock = some k → w0.heap.size ≤ k) (hw : w0.heap.size ≤ w.heap.size)
    (h2 : w'.ownsRow 0 9 1 v' (L.length + 1) (strs L ++ [str x])) (h3 : (w.alloc o).grownBy w' v.ownBlock) (h5 : v'.ownBlock = v.ownBlock ∨ v'.ownBlock = some (w.heap.size + 1)) (hs : Step (fun _ => False) w0 w) :
    Own w0 w' v' (L ++ [x]) ∧ Step (fun _ => False) w0 w' := by
  refine ⟨⟨by rw [← strs_snoc]; simpa using h2, fun k hk => ?_⟩, (hs.alloc o).grown h3 (fun k hk => .inr (hg0 k hk))⟩
  rcases h5 with e | e
  · exact hg0 k (by rw [← e]; exact hk)
  · rw [e] at hk; have := Option.some.inj hk; omega

set_option maxHeartbeats 2000000 in
theorem lines_any (l : List UInt8) (w : World) (hl : l.length ≤ 100000) :
    Calls Try.prog 7 #[str l] w fun e w' => ∃ v, e = .returned v ∧ Own w w' v (linesD l) ∧ Step (fun _ => False) w w' := by
  obtain ⟨i0, hi, hz0, hz1, hz2⟩ := info_parts Try.info9
  obtain ⟨s, hs⟩ : ∃ s : ByteArray, s = ⟨l.toArray⟩ := ⟨_, rfl⟩
  have hsl : s.data.toList = l := by rw [hs]
  have hsz : s.size = l.length := by rw [hs]; exact ba_size l
  unfold str
  rw [← hs]
  have Hsl := hidden hsl
  have Hsz := hidden hsz
  have Hl := hidden hl
  have Hhi := hidden (And.intro hi (And.intro hz0 (And.intro hz1 hz2)))
  have HSec := hidden (fun pos (hp : pos < l.length) (wr : World) => second_any s l hsl pos hp (by omega) wr)
  have hsb : s.size ≤ 100000 := by omega
  clear hs hsl hsz hl hi hz0 hz1 hz2
  go_enter Try.func7, Try.ntmps7
  go_wp2
  go_loopw [3, 4] (fun lv bv wr => ∃ (pos beg n : Nat) (L : List (List UInt8)), bv = .int .i64 (beg : Int) ∧ wr.heap[w.heap.size]? = some (.stringIter s pos) ∧ Hid (Own w wr lv L ∧ Step (fun _ => False) w wr) ∧ n = L.length ∧ n ≤ pos ∧
      Hid (L ++ lnG (crAt l pos) (seg l beg pos) (l.drop pos) = linesD l) ∧ beg ≤ pos ∧ pos ≤ s.size) (fun _ _ wr => s.size - wr.iterPos w.heap.size)
  case atStart =>
    exact ⟨0, 0, 0, [], rfl, by simpa using World.iter_heap w s 0, ⟨Own.nil _ _, (Step.refl _ w).alloc _⟩, rfl, Nat.le_refl _, by rw [ln_start]; rfl, Nat.le_refl _, Nat.zero_le _⟩
  case round =>
    obtain ⟨pos, beg, n, L, rfl, hit, HO, hn, hnp, HL, hbp, hps⟩ := hrel
    have Hn := hidden hn
    clear hn
    by_cases hp : pos < s.size
    · have hnx : ∀ ty, (Instr.next (.pointer (some ⟨w.heap.size, 0, none⟩)) true ty).run Try.prog wr = _ := fun ty => Lib.run_next_any_at wr w.heap.size s pos ty hit hp
      have hp2 : pos < l.length := by have := Hsz.out; omega
      have hd := dec_at s l Hsl.out pos
      have hwd := decodeL_width (l.drop pos)
      have hle := decodeL_le (l.drop pos) (drop_ne hp2)
      rw [List.length_drop] at hle
      have HP := hidden (fun (h : (decodeL (l.drop pos)).1 ≠ 10 ∧ (decodeL (l.drop pos)).1 ≠ 13) => ln_plain l pos beg _ _ hp2 rfl rfl h hbp)
      have HR := hidden (fun (r : Nat) (h : (decodeL (l.drop pos)).1 = r) (hr : r < 128) => rune_small (l.drop pos) (drop_ne hp2) r h hr)
      have hdr := drop_one hp2
      rw [hd] at hnx
      have hit2 := Lib.iterAt_heap wr w.heap.size s pos (pos + (decodeL (l.drop pos)).2) hit
      have HO2 := hidden (And.intro (HO.out.1.iter hit (pos + (decodeL (l.drop pos)).2)) (HO.out.2.iterAt (Nat.le_refl _) s (pos + (decodeL (l.drop pos)).2)))
      have Hle := hidden hle
      generalize (decodeL (l.drop pos)).2 = wd at *
      generalize (decodeL (l.drop pos)).1 = rr at *
      have HW := hidden hwd
      have Hit2 := hidden hit2
      have Hit := hidden hit
      clear hd hle hwd HO hit hit2
      by_cases h : rr ≠ 10 ∧ rr ≠ 13
      · have HK := hidden (HP.out h)
        have g13 : ((rr : Int) != 13) = true := by rw [bne_iff_ne]; omega
        have g10 : ((rr : Int) != 10) = true := by rw [bne_iff_ne]; omega
        clear h
        go_wp2
        go_roundw
        case rel => exact ⟨pos + wd, beg, n, L, rfl, Hit2.out, HO2.out, Hn.out, by have := HW.out; omega, by rw [← HK.out]; exact HL.out, by omega, by have := Hle.out; have := Hsz.out; omega⟩
        case measure =>
          simp only [World.iterPos, Hit2.out, Hit.out]
          have := HW.out
          omega
      · have hr2 : rr = 10 ∨ rr = 13 := by omega
        have h1 := HR.out rr rfl (by omega)
        obtain ⟨hwd1, hcons⟩ := h1
        subst hwd1
        rw [hdr] at hcons
        have hx : l.getD pos 0 = rr.toUInt8 := by injection hcons
        clear hcons hdr h
        have hl1 : pos + 1 ≤ 100000 := by omega
        by_cases hc : crAt l pos = true ∧ l.getD pos 0 = 10
        · have HK := hidden (ln_second l (seg l beg pos) pos hp2 hc.2 hc.1)
          have hdc : decide (crAt l pos = true ∧ l.getD pos 0 = 10) = true := decide_eq_true hc
          have HS2 := hidden (fun wr => by have := HSec.out pos hp2 wr; rw [hdc] at this; exact this)
          clear hc hdc hx
          rcases hr2 with rfl | rfl
          · go_wp2_with (go_at_call 13; refine (HS2.out _).mono ?_; rintro e w' ⟨rfl, rfl⟩)
            go_roundw
            case rel => exact ⟨pos + 1, pos + 1, n, L, by go_num, Hit2.out, HO2.out, Hn.out, by omega, by rw [← HK.out]; exact HL.out, Nat.le_refl _, by omega⟩
            case measure =>
              simp only [World.iterPos, Hit2.out, Hit.out]
              omega
          · go_wp2_with (go_at_call 13; refine (HS2.out _).mono ?_; rintro e w' ⟨rfl, rfl⟩)
            go_roundw
            case rel => exact ⟨pos + 1, pos + 1, n, L, by go_num, Hit2.out, HO2.out, Hn.out, by omega, by rw [← HK.out]; exact HL.out, Nat.le_refl _, by omega⟩
            case measure =>
              simp only [World.iterPos, Hit2.out, Hit.out]
              omega
        · have HK := hidden (ln_stop l (seg l beg pos) pos hp2 (by rcases hr2 with rfl | rfl; exact .inl hx; exact .inr hx) hc)
          have hdc : decide (crAt l pos = true ∧ l.getD pos 0 = 10) = false := decide_eq_false hc
          have HS2 := hidden (fun wr => by have := HSec.out pos hp2 wr; rw [hdc] at this; exact this)
          have hex := ext_seg s l Hsl.out beg pos (by omega)
          have hcl := hidden (fun wr => clone_any (s.extract beg pos) wr (by rw [hex, ba_size, seg_length l beg pos hbp (by omega)]; omega))
          have hcap : n + 1 ≤ 1000000 := by omega
          clear hc hdc hx
          rcases hr2 with rfl | rfl
          · have b0 : (0 : Int) ≤ (beg : Int) := by omega
            have bp : (beg : Int) ≤ (pos : Int) := by omega
            have pz : (pos : Int) ≤ (s.size : Int) := by omega
            obtain ⟨x, hx⟩ : ∃ x, seg l beg pos = x := ⟨_, rfl⟩
            have HL2 := hidden (show L ++ [x] ++ lnG (crAt l (pos + 1)) (seg l (pos + 1) (pos + 1)) (l.drop (pos + 1)) = linesD l by rw [← HL.out, HK.out, hx]; simp)
            rw [hx] at hex
            rw [hex] at hcl
            clear hx
            go_wp2_with (first | (go_at_call 13; refine (HS2.out _).mono ?_; rintro e w' ⟨rfl, rfl⟩) | fail)
            refine Calls.mono (hcl.out _) ?_
            rintro e w2 ⟨rfl, S2⟩
            obtain ⟨i0, hi, hz0, hz1, hz2⟩ := info_parts Try.info9
            have HO3 := hidden (And.intro (HO2.out.1.keep S2) (HO2.out.2.made S2))
            have HI3 := hidden (show w2.heap[w.heap.size]? = some (.stringIter s (pos + 1)) by
              have hlt := (Array.getElem?_eq_some_iff.1 Hit2.out).1
              rw [S2.block _ hlt (fun h => h)]
              exact Hit2.out)
            clear S2
            go_wp2_with (at_builtin; refine wpList_append_at _ rfl (.tmp 23) (.tmp 29) 23 rfl 9 i0 (.string ⟨#[]⟩) 1 16 Try.underlying23 hi hz0 hz1 hz2 rfl (by decide) _ L.length (strs L) rfl (HO3.out.1.own |> fun h => owns_step h ((Step.refl (fun _ => False) w2).alloc _) (fun _ _ h => h)) ⟨w2.heap.size, 0, none⟩ 1 1 [str x] rfl rfl ?d1 ?d2 ?d3 ?d4 ?_)
            case d1 => exact cell_one_new _ _ _
            case d2 => intro u hu; simp at hu; subst hu; rfl
            case d3 => have := Hn.out; unfold maxLen; omega
            case d4 => have := Hn.out; omega
            intro v3 w3 hown3 hgrow3 hnil3 hb3
            have HF := hidden (And.intro (own_more HO3.out.1.new HO3.out.2.size hown3 hgrow3 (by simpa using hb3) HO3.out.2) (HO3.out.1.still HI3.out hgrow3))
            clear hown3 hgrow3 hnil3 hb3
            go_wp2
            go_roundw
            case rel => exact ⟨pos + 1, pos + 1, n + 1, L ++ [x], by go_num, HF.out.2, HF.out.1, by have := Hn.out; simp; omega, by omega, HL2.out, Nat.le_refl _, by omega⟩
            case measure =>
              simp only [World.iterPos, HF.out.2, Hit.out]
              omega
          · have b0 : (0 : Int) ≤ (beg : Int) := by omega
            have bp : (beg : Int) ≤ (pos : Int) := by omega
            have pz : (pos : Int) ≤ (s.size : Int) := by omega
            obtain ⟨x, hx⟩ : ∃ x, seg l beg pos = x := ⟨_, rfl⟩
            have HL2 := hidden (show L ++ [x] ++ lnG (crAt l (pos + 1)) (seg l (pos + 1) (pos + 1)) (l.drop (pos + 1)) = linesD l by rw [← HL.out, HK.out, hx]; simp)
            rw [hx] at hex
            rw [hex] at hcl
            clear hx
            go_wp2_with (first | (go_at_call 13; refine (HS2.out _).mono ?_; rintro e w' ⟨rfl, rfl⟩) | fail)
            refine Calls.mono (hcl.out _) ?_
            rintro e w2 ⟨rfl, S2⟩
            obtain ⟨i0, hi, hz0, hz1, hz2⟩ := info_parts Try.info9
            have HO3 := hidden (And.intro (HO2.out.1.keep S2) (HO2.out.2.made S2))
            have HI3 := hidden (show w2.heap[w.heap.size]? = some (.stringIter s (pos + 1)) by
              have hlt := (Array.getElem?_eq_some_iff.1 Hit2.out).1
              rw [S2.block _ hlt (fun h => h)]
              exact Hit2.out)
            clear S2
            go_wp2_with (at_builtin; refine wpList_append_at _ rfl (.tmp 23) (.tmp 29) 23 rfl 9 i0 (.string ⟨#[]⟩) 1 16 Try.underlying23 hi hz0 hz1 hz2 rfl (by decide) _ L.length (strs L) rfl (HO3.out.1.own |> fun h => owns_step h ((Step.refl (fun _ => False) w2).alloc _) (fun _ _ h => h)) ⟨w2.heap.size, 0, none⟩ 1 1 [str x] rfl rfl ?d1 ?d2 ?d3 ?d4 ?_)
            case d1 => exact cell_one_new _ _ _
            case d2 => intro u hu; simp at hu; subst hu; rfl
            case d3 => have := Hn.out; unfold maxLen; omega
            case d4 => have := Hn.out; omega
            intro v3 w3 hown3 hgrow3 hnil3 hb3
            have HF := hidden (And.intro (own_more HO3.out.1.new HO3.out.2.size hown3 hgrow3 (by simpa using hb3) HO3.out.2) (HO3.out.1.still HI3.out hgrow3))
            clear hown3 hgrow3 hnil3 hb3
            go_wp2
            go_roundw
            case rel => exact ⟨pos + 1, pos + 1, n + 1, L ++ [x], by go_num, HF.out.2, HF.out.1, by have := Hn.out; simp; omega, by omega, HL2.out, Nat.le_refl _, by omega⟩
            case measure =>
              simp only [World.iterPos, HF.out.2, Hit.out]
              omega
    · have hnx : ∀ ty, (Instr.next (.pointer (some ⟨w.heap.size, 0, none⟩)) true ty).run Try.prog wr = _ := fun ty => Lib.run_next_end_at wr w.heap.size s pos ty hit hp
      have hpe : pos = l.length := by have := Hsz.out; omega
      have HL2 := hidden (show L ++ (if beg < l.length then [l.drop beg] else []) = linesD l by
        have h := HL.out
        rw [hpe, ln_fin] at h
        exact h)
      have hse := seg_end l beg
      by_cases hb : beg < l.length
      · rw [if_pos hb] at HL2
        have hex := ext_seg s l Hsl.out beg s.size (by have := Hsz.out; omega)
        rw [Hsz.out, hse, ← Hsz.out] at hex
        have b0 : (0 : Int) ≤ (beg : Int) := by omega
        have bz : (beg : Int) < (s.size : Int) := by have := Hsz.out; omega
        have bz2 : (beg : Int) ≤ (s.size : Int) := by omega
        obtain ⟨x, hx⟩ : ∃ x, l.drop beg = x := ⟨_, rfl⟩
        rw [hx] at hex HL2
        have hcl := hidden (fun wr => clone_any (⟨x.toArray⟩ : ByteArray) wr (by rw [ba_size, ← hx, List.length_drop]; have := Hl.out; omega))
        clear hx hse hpe hb
        go_wp2_with fail
        refine Calls.mono (hcl.out _) ?_
        rintro e w2 ⟨rfl, S2⟩
        obtain ⟨i0, hi, hz0, hz1, hz2⟩ := info_parts Try.info9
        have HO3 := hidden (And.intro (HO.out.1.keep S2) (HO.out.2.made S2))
        clear S2
        go_wp2_with (at_builtin; refine wpList_append_at _ rfl (.tmp 37) (.tmp 42) 23 rfl 9 i0 (.string ⟨#[]⟩) 1 16 Try.underlying23 hi hz0 hz1 hz2 rfl (by decide) _ L.length (strs L) rfl (HO3.out.1.own |> fun h => owns_step h ((Step.refl (fun _ => False) w2).alloc _) (fun _ _ h => h)) ⟨w2.heap.size, 0, none⟩ 1 1 [str x] rfl rfl ?d1 ?d2 ?d3 ?d4 ?_)
        case d1 => exact cell_one_new _ _ _
        case d2 => intro u hu; simp at hu; subst hu; rfl
        case d3 => have := Hn.out; unfold maxLen; omega
        case d4 => have := Hn.out; omega
        intro v3 w3 hown3 hgrow3 hnil3 hb3
        have HF := hidden (own_more HO3.out.1.new HO3.out.2.size hown3 hgrow3 (by simpa using hb3) HO3.out.2)
        clear hown3 hgrow3 hnil3 hb3
        go_wp2
        go_ret
        exact ⟨v3, rfl, by rw [← HL2.out]; exact HF.out.1, HF.out.2⟩
      · rw [if_neg hb, List.append_nil] at HL2
        have bz : ¬ (beg : Int) < (s.size : Int) := by have := Hsz.out; omega
        clear hse hpe hb
        go_wp2
        go_ret
        exact ⟨_, rfl, by rw [← HL2.out]; exact HO.out.1, HO.out.2⟩

end Go.Proofs.Ythomkgajilmphaa
