/-
  Runes by their numbers: the page's way.
-/
import Derived.Test.YtmegfcgnemfjnaaDoorEUnN
import Derived.Test.YtmegfcgnemfjnaaDoorEOwn
import Derived.Test.YtmegfcgnemfjnaaDoorUPageW
namespace Go.Proofs.YtmegfcgnemfjnaaDoor
open Go.RowKit Go.Lib

theorem cat_str2 (a b : List UInt8) : (⟨(a ++ b).toArray⟩ : ByteArray) = ⟨a.toArray⟩ ++ ⟨b.toArray⟩ := (cat_str a b).symm

set_option maxHeartbeats 2000000 in
theorem pdec_any (r : Nat) (hr : r ≤ 1114111) (w : World) :
    Calls Tryd.prog 37 #[.int .i64 (r : Int)] w fun e w' => e = .returned (str (decDigits r)) ∧ Step (fun _ => False) w w' := by
  have hm : max 0 (r : Int) = (r : Int) := by omega
  have HS := hidden (Step.refl (fun _ => False) w)
  go_enter Tryd.func37, Tryd.ntmps37
  go_wp2
  go_loopw [0, 3] (fun nv sv wr => ∃ (u : Nat) (acc : List UInt8) (sa : ByteArray), nv = .int .i64 (u : Int) ∧ u ≤ 1114111 ∧ sv = .string sa ∧ Hid (sa = ⟨acc.toArray⟩) ∧ Hid (decDigits u ++ acc = decDigits r) ∧ Hid (Step (fun _ => False) w wr)) (fun nv _ _ => (RowKit.intOf nv).toNat)
  case atStart => exact ⟨r, [], ⟨#[]⟩, rfl, hr, rfl, hidden rfl, hidden (by simp), HS.out⟩
  case round =>
    obtain ⟨u, acc, sa, rfl, hu, rfl, HA, HD, HSt⟩ := hrel
    obtain ⟨d, hd⟩ : ∃ d, d = u % 10 := ⟨_, rfl⟩
    obtain ⟨q, hq⟩ : ∃ q, q = u / 10 := ⟨_, rfl⟩
    have m1 : (u : Int) % 10 = (d : Int) := by omega
    have m1' : (u : Int).tmod 10 = (d : Int) := by rw [Int.tmod_eq_emod_of_nonneg (by omega)]; omega
    have m2 : (u : Int) / 10 = (q : Int) := by omega
    have m2' : (u : Int).tdiv 10 = (q : Int) := by rw [Int.tdiv_eq_ediv_of_nonneg (by omega)]; omega
    have hd10 : d < 10 := by omega
    have hw1 : IntKind.i64.wrap (48 + (d : Int)) = ((48 + d : Nat) : Int) := by simp [IntKind.wrap, IntKind.bits, IntKind.signed]; omega
    obtain ⟨b, hb⟩ : ∃ b : UInt8, b = UInt8.ofNat (48 + d) := ⟨_, rfl⟩
    have hbn : b.toNat = 48 + d := by rw [hb]; simp; omega
    have hw2 : IntKind.u8.wrap ((48 + d : Nat) : Int) = ((48 + d : Nat) : Int) := by simp [IntKind.wrap, IntKind.bits, IntKind.signed]; omega
    have hcv := conv_lit_n wr [b] #[.int .u8 ((48 + d : Nat) : Int)] 1 ⟨#[b]⟩ rfl (by rw [← hbn]; rfl) rfl
    have hsa : sa.size ≤ 7 := by
      rw [HA.out, ba_size]
      have h1 := congrArg List.length HD.out
      have h2 := dec_len 6 r (by omega)
      rw [List.length_append] at h1
      omega
    have hb1 : (⟨#[b]⟩ : ByteArray).size = 1 := rfl
    have HA2 := hidden (show ((⟨#[b]⟩ : ByteArray) ++ sa) = ⟨(b :: acc).toArray⟩ by rw [HA.out]; exact cat_str [b] acc)
    have HSt2 := hidden (HSt.out.alloc (.cells #[.int .u8 ((48 + d : Nat) : Int)] 5))
    obtain ⟨e, he⟩ : ∃ e, e = 48 + d := ⟨_, rfl⟩
    rw [← he] at hw1 hw2 hcv HSt2
    by_cases h10 : u < 10
    · have hq0 : q = 0 := by omega
      have HF := hidden (show b :: acc = decDigits r by
        have h := HD.out
        rw [decDigits, dif_pos h10] at h
        rw [← h, hb, hd, Nat.mod_eq_of_lt h10]; rfl)
      subst hq0
      clear hd hq hb hbn he hd10 h10
      go_wp2
      go_ret
      exact ⟨by rw [← HF.out]; show Ending.returned (Value.string _) = Ending.returned (Value.string _); first | exact congrArg _ (congrArg _ HA2.out) | (congr 2; done) | (congr 2; exact HA2.out), HSt2.out⟩
    · have gq : ((q : Int) == 0) = false := by rw [beq_eq_false_iff_ne]; omega
      have HF := hidden (show decDigits q ++ (b :: acc) = decDigits r by
        have h := HD.out
        rw [decDigits, dif_neg h10] at h
        rw [← h, hb, hd, hq]; simp)
      have hqu : q < u := by omega
      have hqb : q ≤ 1114111 := by omega
      clear hd hq hb hbn he hd10 h10
      go_wp2
      go_roundw
      case rel => exact ⟨q, b :: acc, _, rfl, hqb, rfl, HA2.out, HF.out, HSt2.out⟩
      case measure => simp [RowKit.intOf]; omega

theorem spells_len (R : List Nat) (h : ∀ r ∈ R, r ≤ 1114111) : (R.flatMap spellR).length ≤ 10 * R.length := by
  induction R with
  | nil => simp
  | cons r R ih =>
    have h1 := ih (fun x hx => h x (List.mem_cons_of_mem _ hx))
    have h2 := dec_len 6 r (by have := h r (List.mem_cons_self ..); omega)
    simp only [List.flatMap_cons, List.length_append, List.length_cons, spellR, List.length_nil] at h1 ⊢
    omega
theorem runesD_bound : ∀ l, ∀ r ∈ runesD l, r ≤ 1114111 := by
  refine by_runes (by simp [runesD_nil]) (fun l hl ih => ?_)
  rw [runesD_step l hl]
  intro r hr
  rcases List.mem_cons.1 hr with rfl | hr
  · have := decodeL_okR l; unfold okR at this; omega
  · exact ih r hr

set_option maxHeartbeats 2000000 in
theorem pspell_any (l : List UInt8) (w : World) (hl : l.length ≤ 20000) :
    Calls Tryd.prog 16 #[str l] w fun e w' => e = .returned (str (spell l)) ∧ Step (fun _ => False) w w' := by
  have HR := hidden (prow_any l w (by omega))
  have HB := hidden (runesD_bound l)
  have hn := runesD_length l
  have HV := hidden (show spell l = (runesD l).flatMap spellR from rfl)
  generalize runesD l = R at *
  obtain ⟨n, hne⟩ : ∃ n, n = R.length := ⟨_, rfl⟩
  have Hn := hidden hne
  rw [← hne] at HR hn
  have hn2 : n ≤ 20000 := by omega
  clear hne hl hn
  go_enter Tryd.func16, Tryd.ntmps16
  go_wp2_with fail
  refine Calls.mono HR.out ?_
  rintro e w1 ⟨ao, cap, rfl, hown, S1⟩
  have HO := hidden hown
  have HS1 := hidden S1
  clear hown S1
  go_wp2
  go_loopw [4, 5] (fun tv iv wr => ∃ (i : Nat) (sa : ByteArray), tv = .string sa ∧ iv = .int .i64 (i : Int) ∧ i ≤ n ∧ Hid (sa = ⟨((R.take i).flatMap spellR).toArray⟩) ∧ Hid (Step (fun _ => False) w1 wr)) (fun _ iv _ => n - (RowKit.intOf iv).toNat)
  case atStart => exact ⟨0, ⟨#[]⟩, rfl, rfl, Nat.zero_le _, rfl, Step.refl _ w1⟩
  case round =>
    obtain ⟨i, sa, rfl, rfl, hin, HA, HSt⟩ := hrel
    by_cases hi : i < n
    · have i0 : (0 : Int) ≤ (i : Int) := by omega
      have i1 : (i : Int) < (n : Int) := by omega
      have hiR : i < R.length := by have := Hn.out; omega
      obtain ⟨g, cap2, hao, hc⟩ : ∃ g, ∃ cap2 : Nat, ao = some ⟨g, 0, none⟩ ∧ w1.cell? ⟨g, i, none⟩ = some (.int .i32 ((R[i]'hiR : Nat) : Int)) := by
        have hown := HO.out
        rcases hown.2 with ⟨_, e2⟩ | ⟨g, cap2, cur, e2, _, hg, _⟩
        · exact absurd e2 (by omega)
        · injection e2 with e3 e4 e5
          subst e3
          refine ⟨g, cap, rfl, ?_⟩
          rw [hown.cellAt i (by omega)]
          simp [i32s, hiR]
      subst hao
      have hrb : R[i]'hiR ≤ 1114111 := HB.out _ (List.getElem_mem hiR)
      have HTk := hidden (show R.take (i + 1) = R.take i ++ [R[i]'hiR] from List.take_succ_eq_append_getElem hiR)
      generalize R[i]'hiR = r at *
      have hcw := HSt.out.cell hc (fun h => h)
      have hw : IntKind.i64.wrap (r : Int) = (r : Int) := by simp [IntKind.wrap, IntKind.bits, IntKind.signed]; omega
      have HD := hidden (fun wx => pdec_any r hrb wx)
      obtain ⟨ds, hds⟩ : ∃ ds : ByteArray, ds = ⟨(decDigits r).toArray⟩ := ⟨_, rfl⟩
      have Hds := hidden hds
      have HD2 := hidden (fun wx => by have := HD.out wx; unfold str at this; rw [← hds] at this; exact this)
      have HA2 := hidden (show sa ++ (⟨#[38, 35]⟩ : ByteArray) ++ ds ++ ⟨#[59]⟩ = ⟨((R.take (i + 1)).flatMap spellR).toArray⟩ by
        rw [HTk.out, HA.out, Hds.out, List.flatMap_append]
        rw [show (⟨#[38, 35]⟩ : ByteArray) = ⟨([38, 35] : List UInt8).toArray⟩ from rfl, show (⟨#[59]⟩ : ByteArray) = ⟨([59] : List UInt8).toArray⟩ from rfl, cat_str, cat_str, cat_str]
        simp [spellR])
      have hsa : sa.size ≤ 200000 := by
        rw [HA.out, ba_size]
        have h1 := spells_len (R.take i) (fun x hx => HB.out x (List.mem_of_mem_take hx))
        rw [List.length_take] at h1
        omega
      have hdsz : ds.size ≤ 7 := by rw [Hds.out, ba_size]; exact dec_len 6 r (by omega)
      have h2sz : (⟨#[38, 35]⟩ : ByteArray).size = 2 := rfl
      have h1sz : (⟨#[59]⟩ : ByteArray).size = 1 := rfl
      clear hiR hc hds HD hrb
      go_wp2_with fail
      refine Calls.mono (HD2.out _) ?_
      rintro e w3 ⟨rfl, S3⟩
      have HSt2 := hidden (HSt.out.made S3)
      clear S3
      go_wp2
      go_roundw
      case rel => exact ⟨i + 1, _, rfl, by go_num, by omega, HA2.out, HSt2.out⟩
      case measure => simp [RowKit.intOf]; omega
    · have HF := hidden (show sa = ⟨(spell l).toArray⟩ by
        rw [HA.out, HV.out, List.take_of_length_le (by have := Hn.out; omega)])
      have i1 : ¬ ((i : Int) < (n : Int)) := by omega
      go_wp2
      go_ret
      exact ⟨by unfold str; rw [← HF.out]; rfl, HS1.out.made HSt.out⟩

end Go.Proofs.YtmegfcgnemfjnaaDoor
