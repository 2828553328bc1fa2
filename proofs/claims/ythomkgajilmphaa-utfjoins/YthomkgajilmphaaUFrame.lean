/-
  Arguments that came in: texts, rows of texts and of numbers; how long each is at most.
-/
import Derived.Test.YthomkgajilmphaaUTexts
import Derived.WalkKit
import Derived.ProofKit
import Derived.SizedLaws
import Derived.SliceStrings
import Derived.ChangeArms
import Derived.Handed
import Derived.OpenShut
namespace Go.Proofs.Ythomkgajilmphaa
open Go.RowKit Go.ChangeShapes Go.WideShapes Go.ChangeAt

theorem handed_sized {H : Type} {enc : TypeId × Value → H} {a : Assume} {C : Checked} {os : Os} {f : FuncId} {fn : Func} {s : ChangeSpec} {conds : List PathCond} {apart fresh handsOn again : Bool}
    (own : ownKnob C.prog.godebug = none) (started : os.Started) (noInit : C.prog.inits.idxOf? f = none) (hfn : C.prog.funcs[f]? = some fn)
    (witness : ∃ (w : World) (tape : Tape) (i : Input), w.os = os ∧ (w.forCall tape i).Shaped C.prog ∧ i.vars = [] ∧ Input.okWide C.prog (w.forCall tape i) .any w.heap.size f i ∧
      s.pre6 enc C.prog fn conds apart (w.forCall tape i).memory i.args ∧ a.holds C.prog (lone (Frame.enter C.prog f i.args .normal) [] (w.forCall tape i)))
    (contract : ∀ (W : World) (base : Nat) (args : Array Value) (ds gs : List (DataW H)) (before : List MemPlace),
      (∀ (j : Nat) t v, fn.params[j]? = some t → args[j]? = some v → Value.okWide C.prog W .any base t v) →
      DataW.Whole enc C.prog fn.params.toList s.vars apart W args.toList ds gs before →
      (DataW.weightsEach C.prog (fn.params.toList ++ s.plain.varTypes C.prog) (ds ++ gs)).all (· ≤ reachBytes) = true →
      Calls C.prog f args W fun e W' => ∃ v, e = .returned v ∧ s.post enc C.prog fn apart fresh handsOn again W args v W') :
    ReturnsInHanded a C os f .any (s.pre6 enc C.prog fn conds apart) (s.post enc C.prog fn apart fresh handsOn again) := by
  refine returnsInHanded_of_calls own started noInit witness ?_
  intro w tape i _ _ _ hok hpre hholds
  obtain ⟨_, _, _, fn', hfn', _, _, _, _, hval⟩ := hok
  have e : fn' = fn := Option.some.inj (hfn'.symm.trans hfn)
  subst e
  obtain ⟨⟨ds, gs, before, hw, hc⟩, hz⟩ := hpre
  have hw' := DataW.Whole.of_heap (w' := w.forCall tape i) (by rfl) hw
  refine (contract (w.forCall tape i) w.heap.size i.args ds gs before hval hw' (hz.weights hw)).mono fun e W' ⟨v, he, hp⟩ => ?_
  subst he
  exact ChangeSpec.post_blind hp

theorem weights_mem_all {H : Type} {P : Program} {e : TypeId} {d : DataW H} : ∀ {l : List (DataW H)}, d ∈ l → ∀ n ∈ d.weights P e, n ∈ DataW.weightsAll P e l
  | [], h, _, _ => by simp at h
  | x :: l, h, n, hn => by
    simp only [DataW.weightsAll, List.mem_append]
    rcases List.mem_cons.1 h with rfl | h
    · exact .inl hn
    · exact .inr (weights_mem_all h n hn)

theorem strs_of {H : Type} {enc : TypeId × Value → H} {W : World} {fuel : Nat} {ao : Option Addr} {len cap : Nat} {d : DataW H} {p : List MemPlace}
    (h : DataW.trod enc Try.prog W 0 (fun _ => true) true fuel 23 [.slice ao len cap] = some (d, p)) (hs : ∀ n ∈ d.weights Try.prog 23, n ≤ reachBytes) :
    ∃ L : List (List UInt8), L.length = len ∧ Ss W (.slice ao L.length cap) L ∧ L.length ≤ 140737488351232 ∧ (∀ x ∈ L, x.length ≤ 140737488351232) := by
  rcases open_strings Try.underlying23 Try.underlying9 (by kernel_rfl) h with ⟨hcs, _⟩ | ⟨a, l, c, ss, hcs, _, hl, hm, hz, hx, hcell, hwz⟩
  · simp at hcs
    obtain ⟨rfl, rfl, rfl⟩ := hcs
    exact ⟨[], rfl, ⟨none, 0, rfl, fun _ => ⟨rfl, rfl⟩, fun a h => by cases h⟩, by simp, by simp⟩
  · simp at hcs
    obtain ⟨rfl, rfl, rfl⟩ := hcs
    simp only [if_true] at hz
    simp only [Prod.mk.injEq] at hx
    have hb : Try.prog.bytesOf 9 = 16 := by kernel_rfl
    have rb : reachBytes = 140737488351232 := rfl
    have w0 := hs (ss.length * 16) (by
      rw [hx.1]
      simp only [DataW.weights, Try.underlying23, hb, Go.ChangeShapes.strs, List.length_map, List.length_take, List.length_drop]
      rw [show min len ss.length + (ss.length - len) = ss.length by omega]
      exact List.mem_cons_self)
    have hlen : ((ss.take len).map fun x => x.data.toList).length = len := by simp; omega
    refine ⟨(ss.take len).map fun x => x.data.toList, hlen, ⟨some a, cap, rfl, fun h => (by cases h), fun a' ha _ => ?_⟩, by rw [hlen]; omega, fun x hx' => ?_⟩
    · obtain rfl := Option.some.inj ha
      have hpl : 0 < ss.length := by
        rcases Nat.eq_zero_or_pos ss.length with h0 | h0
        · rename_i hne
          exact absurd (List.eq_nil_of_length_eq_zero (by rw [hlen]; omega)) hne
        · exact h0
      obtain ⟨b, off, spot⟩ := a
      have hspot : spot = none := by simpa [Addr.add] using World.cell?_spot (hcell 0 hpl)
      subst hspot
      refine ⟨b, off, rfl, fun k hk => ?_⟩
      rw [hlen] at hk
      have := hcell k (by omega)
      rw [Go.WideShapes.add_plain] at this
      rw [this]
      have hks : k < ss.length := by omega
      have e1 : ss.getD k ByteArray.empty = ss[k] := by simp [List.getD, hks]
      have e2 : ((ss.take len).map fun x => x.data.toList).getD k [] = ss[k].data.toList := by simp [List.getD, hks, hk]
      rw [e1, e2]
    · obtain ⟨y, hy, rfl⟩ := List.mem_map.1 hx'
      have := hs y.data.toList.length (by
        rw [hx.1]
        simp only [DataW.weights, Try.underlying23]
        refine List.mem_cons_of_mem _ (List.mem_append_left _ (weights_mem_all (d := .lit (.string y.data.toList)) ?_ _ ?_))
        · exact List.mem_map.2 ⟨y, hy, rfl⟩
        · simp [DataW.weights])
      omega

/-- The slice v reads as the numbers Z. -/
def Zs (w : World) (v : Value) (Z : List Int) : Prop :=
  ∃ ao cap, v = .slice ao Z.length cap ∧ (ao = none → Z = []) ∧
    ∀ a, ao = some a → Z ≠ [] → ∃ b off, a = ⟨b, off, none⟩ ∧ ∀ k, k < Z.length → w.cell? ⟨b, off + k, none⟩ = some (.int .i64 (Z.getD k 0))

theorem ints_of {H : Type} {enc : TypeId × Value → H} {W : World} {fuel : Nat} {ao : Option Addr} {len cap : Nat} {d : DataW H} {p : List MemPlace}
    (h : DataW.trod enc Try.prog W 0 (fun _ => true) true fuel 27 [.slice ao len cap] = some (d, p)) :
    ∃ Z : List Int, Z.length = len ∧ Zs W (.slice ao Z.length cap) Z ∧ Z.length ≤ 9223372036854775807 := by
  rcases open_ints Try.underlying27 Try.underlying3 (by kernel_rfl) h with ⟨hcs, _⟩ | ⟨x, l, c, zs, hcs, _, hl, hm, hz, _, hcell, hwz⟩
  · simp at hcs
    obtain ⟨rfl, rfl, rfl⟩ := hcs
    exact ⟨[], rfl, ⟨none, 0, rfl, fun _ => rfl, fun a h => by cases h⟩, by simp⟩
  · simp at hcs
    obtain ⟨rfl, rfl, rfl⟩ := hcs
    simp only [if_true] at hz
    have hlen : (zs.take len).length = len := by simp; omega
    refine ⟨zs.take len, hlen, ⟨some x, cap, rfl, fun h => (by cases h), fun a ha hne => ?_⟩, by rw [hlen]; unfold maxLen at hm; omega⟩
    have hp : 0 < len := by
      rcases Nat.eq_zero_or_pos len with h | h
      · exact absurd (List.eq_nil_of_length_eq_zero (by omega)) hne
      · exact h
    obtain ⟨b, off, rfl, hcl⟩ := ints_at hcell (by omega)
    refine ⟨b, off, (Option.some.inj ha).symm, fun k hk => ?_⟩
    rw [hlen] at hk
    rw [hcl k (by omega)]
    have hk2 : k < zs.length := by omega
    simp [List.getD, hk2, hk]

end Go.Proofs.Ythomkgajilmphaa
