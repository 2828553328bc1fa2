/-
  A region that draws its order, by what each of its operations leaves in its slot: whatever the order, the same is left.
-/
import Derived.Test.YtmegfcgnemfjnaaDoorMem
import Derived.Orders
import Derived.StillTail
import Derived.Tactics
namespace Go.Proofs.YtmegfcgnemfjnaaDoor
open Go.RowKit

theorem count_set_lt (listed : Array Bool) (i : Nat) (h : listed.getD i true = false) : (listed.setIfInBounds i true).toList.count false < listed.toList.count false := by
  have hi : i < listed.size := by
    rcases Nat.lt_or_ge i listed.size with h' | h'
    · exact h'
    · simp [Array.getElem?_eq_none h'] at h
  have hv : listed[i] = false := by simpa [hi] using h
  have hl : i < listed.toList.length := by simpa using hi
  have hc : 0 < listed.toList.count false := List.count_pos_iff.2 (by
    have := List.getElem_mem hl
    rwa [Array.getElem_toList, hv] at this)
  rw [Array.toList_setIfInBounds, List.count_set hl]
  have e : listed.toList[i] = false := by rw [Array.getElem_toList, hv]
  rw [e]
  simp only [beq_self_eq_true, if_true]
  have e2 : ((true : Bool) == false) = false := rfl
  rw [e2]
  simp only [Bool.false_eq_true, if_false, Nat.add_zero]
  omega

theorem wpAny_inv {P : Program} {md : Region.Mode} {ops : Array Oper} {Q : Exit → Act → World → Prop} (J : Array Bool → Act → World → Prop)
    (hsize : ∀ listed a w, J listed a w → listed.size = ops.size)
    (hend : ∀ listed a w, J listed a w → Region.ready md ops listed = [] → Q .normal a w)
    (hstep : ∀ listed a w, J listed a w → ∀ i ∈ Region.ready md ops listed, wpOp P ops Q i (J (listed.setIfInBounds i true)) a w) :
    ∀ fuel listed a w, listed.toList.count false ≤ fuel → J listed a w → wpAny P md ops Q fuel listed a w
  | 0, listed, a, w, hc, hJ => by
    have hr : Region.ready md ops listed = [] := by
      apply List.eq_nil_iff_forall_not_mem.2
      intro i hi
      have := count_set_lt listed i (mem_ready.1 hi).1
      omega
    exact ⟨hr, hend _ _ _ hJ hr⟩
  | fuel + 1, listed, a, w, hc, hJ => by
    refine ⟨hend _ _ _ hJ, fun i hi => wpOp_mono (fun a' w' h' => ?_) (hstep _ _ _ hJ i hi)⟩
    refine wpAny_inv J hsize hend hstep fuel _ a' w' ?_ h'
    have := count_set_lt listed i (mem_ready.1 hi).1
    omega

/-- Each operation has a slot of its own, none of those that are read as they were; it waits for earlier ones alone. -/
def regionOk (ops : Array Oper) (n : Nat) (dst : Nat → Nat) (base : List Nat) : Bool :=
  (List.range ops.size).all fun k => match ops[k]? with
    | none => false
    | some o => (o.dst == some (dst k)) && decide (dst k < n) && !base.contains (dst k) && (o.after.all fun e => decide (e.on < k)) && (List.range ops.size).all fun j => j == k || dst j != dst k

structure RegionOk (ops : Array Oper) (n : Nat) (dst : Nat → Nat) (base : List Nat) : Prop where
  slot : ∀ (k : Nat) (o : Oper), ops[k]? = some o → o.dst = some (dst k)
  lt : ∀ k, k < ops.size → dst k < n
  free : ∀ k, k < ops.size → dst k ∉ base
  after : ∀ (k : Nat) (o : Oper), ops[k]? = some o → ∀ e ∈ o.after, e.on < k
  inj : ∀ j k, j < ops.size → k < ops.size → j ≠ k → dst j ≠ dst k

theorem regionOk_spec {ops : Array Oper} {n : Nat} {dst : Nat → Nat} {base : List Nat} (h : regionOk ops n dst base = true) : RegionOk ops n dst base := by
  have each : ∀ (k : Nat) (o : Oper), ops[k]? = some o → k < ops.size ∧ o.dst = some (dst k) ∧ dst k < n ∧ dst k ∉ base ∧ (∀ e ∈ o.after, e.on < k) ∧ ∀ j, j < ops.size → j = k ∨ dst j ≠ dst k := by
    intro k o ho
    have hk : k < ops.size := (Array.getElem?_eq_some_iff.1 ho).1
    have := List.all_eq_true.1 h k (List.mem_range.2 hk)
    simp only [ho, Bool.and_eq_true, beq_iff_eq, decide_eq_true_eq, Bool.not_eq_true', List.all_eq_true, List.mem_range, Bool.or_eq_true, bne_iff_ne, Array.all_eq_true_iff_forall_mem] at this
    obtain ⟨⟨⟨⟨h1, h2⟩, h3⟩, h4⟩, h5⟩ := this
    exact ⟨hk, h1, h2, by simpa using h3, h4, h5⟩
  have get : ∀ k, k < ops.size → ∃ o, ops[k]? = some o := fun k hk => ⟨ops[k], by simp [hk]⟩
  refine ⟨fun k o ho => (each k o ho).2.1, fun k hk => ?_, fun k hk => ?_, fun k o ho => (each k o ho).2.2.2.2.1, fun j k hj hk hne => ?_⟩
  · obtain ⟨o, ho⟩ := get k hk; exact (each k o ho).2.2.1
  · obtain ⟨o, ho⟩ := get k hk; exact (each k o ho).2.2.2.1
  · obtain ⟨o, ho⟩ := get k hk
    rcases (each k o ho).2.2.2.2.2 j hj with e | e
    · exact absurd e hne
    · exact e

theorem eval_put_same (a : Act) (d : Nat) (v : Value) (h : d < a.tmps.size) : (a.put (some d) v).eval (.tmp d) = v := by
  simp [Act.put, Act.eval, h]

theorem eval_put_other (a : Act) (d t : Nat) (v : Value) (h : d ≠ t) : (a.put (some d) v).eval (.tmp t) = a.eval (.tmp t) :=
  Act.eval_put fun d' hd e => by
    have h1 : d = d' := Option.some.inj hd
    have h2 : t = d' := by injection e
    exact h (h1.trans h2.symm)

/-- What is known while such a region runs. -/
structure RInv (ops : Array Oper) (n : Nat) (dst : Nat → Nat) (base : List (Nat × Value)) (w0 : World) (F : Nat → World → Value → Prop) (listed : Array Bool) (a : Act) (w : World) : Prop where
  size : listed.size = ops.size
  defers : a.defers = []
  tmps : a.tmps.size = n
  step : Step (fun _ => False) w0 w
  base : ∀ x ∈ base, a.eval (.tmp x.1) = x.2
  fact : ∀ k, listed.getD k false = true → F k w (a.eval (.tmp (dst k)))

theorem region_inv {P : Program} {ops : Array Oper} {Q : Exit → Act → World → Prop} {id : Nat} {a : Act} {w : World} (hm : P.follows .mixedOrders = true) (n : Nat) (dst : Nat → Nat) (base : List (Nat × Value)) (F : Nat → World → Value → Prop)
    (hok : regionOk ops n dst (base.map (·.1)) = true)
    (hmono : ∀ k u u' v, F k u v → Step (fun _ => False) u u' → F k u' v)
    (hd : a.defers = []) (hn : a.tmps.size = n) (hb : ∀ x ∈ base, a.eval (.tmp x.1) = x.2)
    (hops : ∀ (k : Nat) (o : Oper), ops[k]? = some o → ∀ (b : Act) (u : World), b.tmps.size = n → Step (fun _ => False) w u → (∀ x ∈ base, b.eval (.tmp x.1) = x.2) → (∀ e ∈ o.after, Region.binds .any e = true → F e.on u (b.eval (.tmp (dst e.on)))) →
      Region.wanted o (yielded ops b.tmps) = true ∧ o.wp P b u (fun b' u' => ∃ v, b' = b.put o.dst v ∧ Step (fun _ => False) u u' ∧ F k u' v) Q)
    (hend : ∀ (b : Act) (u : World), b.defers = [] → b.tmps.size = n → Step (fun _ => False) w u → (∀ x ∈ base, b.eval (.tmp x.1) = x.2) → (∀ k, k < ops.size → F k u (b.eval (.tmp (dst k)))) → Q .normal b u) :
    (Code.region id ops true).wp P Q a w := by
  have ok := regionOk_spec hok
  refine wp_region_any hm ?_
  refine wpAny_inv (RInv ops n dst base w F) (fun _ _ _ h => h.size) ?_ ?_ _ _ _ _ ?_ ?_
  · intro listed b u h hr
    refine hend b u h.defers h.tmps h.step h.base fun k hk => h.fact k ?_
    have all : ∀ k, k < ops.size → listed.getD k false = true := by
      intro k
      induction k using Nat.strongRecOn with
      | _ k ih =>
        intro hk
        cases hl : listed.getD k false with
        | true => rfl
        | false =>
          exfalso
          have hks : k < listed.size := by rw [h.size]; exact hk
          have hmem : k ∈ Region.ready .any ops listed := mem_ready.2 ⟨getD_in hks hl, ops[k], by simp [hk], fun e he _ => by
            have hlt := ok.after k ops[k] (by simp [hk]) e he
            exact ih e.on hlt (by omega)⟩
          rw [hr] at hmem
          cases hmem
    exact all k hk
  · intro listed b u h i hi
    obtain ⟨hun, o, ho, hall⟩ := mem_ready.1 hi
    have hisz : i < ops.size := (Array.getElem?_eq_some_iff.1 ho).1
    obtain ⟨hw, hwp⟩ := hops i o ho b u h.tmps h.step h.base (fun e he hbd => h.fact e.on (hall e he hbd))
    unfold wpOp
    simp only [ho, hw, if_true]
    refine .inl (Oper.wp_mono (fun b' u' hh => ?_) hwp)
    obtain ⟨v, rfl, hst, hf⟩ := hh
    rw [ok.slot i o ho]
    refine ⟨by simp [h.size], ?_, ?_, h.step.trans hst (fun _ hx => .inl hx), fun x hx => ?_, fun k hk => ?_⟩
    · simpa [Act.put] using h.defers
    · simpa [Act.put] using h.tmps
    · rw [eval_put_other b _ _ v (fun e => ok.free i hisz (by rw [e]; exact List.mem_map.2 ⟨x, hx, rfl⟩))]
      exact h.base x hx
    · by_cases hki : i = k
      · subst hki
        rw [eval_put_same b _ v (by rw [h.tmps]; exact ok.lt i hisz)]
        exact hf
      · rw [getD_set_ne false hki] at hk
        have hksz : k < ops.size := by
          rcases Nat.lt_or_ge k listed.size with h' | h'
          · rw [← h.size]; exact h'
          · simp [Array.getElem?_eq_none h'] at hk
        rw [eval_put_other b _ _ v (ok.inj i k hisz hksz hki)]
        exact hmono k u u' _ (h.fact k hk) hst
  · simp
  · refine ⟨by simp, hd, hn, (Step.refl (fun _ => False) w).drew, hb, fun k hk => ?_⟩
    rw [getD_replicate_false] at hk
    cases hk

theorem wp_run {P : Program} {o : Oper} {a : Act} {w w' : World} {K : Act → World → Prop} {Q : Exit → Act → World → Prop} {v : Value} (h : (execOp a.eval o).run P w = .ok (.value v) w') (hK : K (a.put o.dst v) w') : o.wp P a w K Q := by
  unfold Oper.wp
  rw [h]
  exact hK

theorem wp_enter {P : Program} {o : Oper} {a : Act} {w : World} {K : Act → World → Prop} {Q : Exit → Act → World → Prop} {f : FuncId} {args : Array Value} (h : (execOp a.eval o).run P w = .ok (.enter f args) w)
    (hc : Calls P f args w fun e w' => ∃ v, e = .returned v ∧ K (a.put o.dst v) w') : o.wp P a w K Q := by
  unfold Oper.wp
  rw [h]
  exact Calls.mono hc fun e w' he => by obtain ⟨v, rfl, hk⟩ := he; exact hk

theorem yielded_of {ops : Array Oper} {a : Act} {j d n : Nat} {b : Bool} (ho : (ops[j]?).bind (·.dst) = some d) (hn : a.tmps.size = n) (hd : d < n) (h : a.eval (.tmp d) = .bool b) : yielded ops a.tmps j = some b := by
  have e : a.tmps[d]? = some (.bool b) := by
    have hd' : d < a.tmps.size := by omega
    have : a.tmps.getD d undef = .bool b := h
    simp [hd'] at this
    simp [hd', this]
  unfold yielded
  rw [ho]
  simp [e]

end Go.Proofs.YtmegfcgnemfjnaaDoor
