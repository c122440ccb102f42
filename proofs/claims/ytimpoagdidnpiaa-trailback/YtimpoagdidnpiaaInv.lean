/-
  A region that draws its order, by what holds between its operations: each is looked at once, in whatever order they come.
-/
import Derived.Test.YtimpoagdidnpiaaPlay
import Derived.RegionTactic
namespace Go.Proofs.Ytimpoagdidnpiaa
open Go.RowKit
set_option linter.unusedVariables false

section
variable {P : Program} {ops : Array Oper} {Q : Exit → Act → World → Prop} {md : Region.Mode}

def leftN (listed : Array Bool) : Nat := listed.toList.count false

theorem left_set {listed : Array Bool} {i : Nat} (h : listed.getD i true = false) : leftN (listed.setIfInBounds i true) + 1 = leftN listed := by
  have hi : i < listed.size := by
    rcases Nat.lt_or_ge i listed.size with h' | h'
    · exact h'
    · simp [Array.getElem?_eq_none h'] at h
  have hv : listed.toList[i] = false := by simpa [hi] using h
  unfold leftN
  rw [Array.toList_setIfInBounds, List.count_set (by simpa using hi)]
  have : 0 < listed.toList.count false := List.count_pos_iff.2 (by rw [← hv]; exact List.getElem_mem _)
  rw [hv]
  show listed.toList.count false - 1 + 0 + 1 = listed.toList.count false
  omega

theorem ready_false {listed : Array Bool} {i : Nat} (h : i ∈ Region.ready md ops listed) : listed.getD i true = false := (mem_ready.1 h).1

theorem any_inv (J : Array Bool → Act → World → Prop)
    (hstep : ∀ listed a w i, J listed a w → listed.size = ops.size → i ∈ Region.ready md ops listed → wpOp P ops Q i (J (listed.setIfInBounds i true)) a w)
    (hdone : ∀ listed a w, J listed a w → listed.size = ops.size → Region.ready md ops listed = [] → Q .normal a w) :
    ∀ (fuel : Nat) (listed : Array Bool) (a : Act) (w : World), listed.size = ops.size → leftN listed ≤ fuel → J listed a w → wpAny P md ops Q fuel listed a w := by
  intro fuel
  induction fuel with
  | zero =>
    intro listed a w hs hf hj
    have hr : Region.ready md ops listed = [] := by
      rw [List.eq_nil_iff_forall_not_mem]
      intro i hi
      have := left_set (ready_false hi)
      omega
    exact ⟨hr, hdone listed a w hj hs hr⟩
  | succ fuel ih =>
    intro listed a w hs hf hj
    refine ⟨fun hr => hdone listed a w hj hs hr, fun i hi => ?_⟩
    refine wpOp_mono (fun a' w' hj' => ih _ a' w' (by simpa using hs) ?_ hj') (hstep listed a w i hj hs hi)
    have := left_set (ready_false hi)
    omega

/-- No operation waits for itself or a later one. -/
def Acyclic (md : Region.Mode) (ops : Array Oper) : Bool := (List.range ops.size).all fun i => ((ops[i]?).map (·.after.all fun e => !Region.binds md e || decide (e.on < i))).getD true

theorem all_listed (hac : Acyclic md ops = true) {listed : Array Bool} (hs : listed.size = ops.size) (hr : Region.ready md ops listed = []) : listed = Array.replicate ops.size true := by
  have key : ∀ n i, i < n → i < ops.size → listed.getD i false = true := by
    intro n
    induction n with
    | zero => intro i h; omega
    | succ n ih =>
      intro i hi hio
      cases hl : listed.getD i true with
      | true =>
        have hil : i < listed.size := by omega
        simp [hil] at hl ⊢
        exact hl
      | false =>
        exfalso
        have hm : i ∈ Region.ready md ops listed := by
          refine mem_ready.2 ⟨hl, ops[i], Array.getElem?_eq_getElem hio, fun e he hb => ?_⟩
          have h1 := (List.all_eq_true.1 hac) i (List.mem_range.2 hio)
          rw [Array.getElem?_eq_getElem hio] at h1
          simp only [Option.map_some, Option.getD_some, Array.all_eq_true_iff_forall_mem] at h1
          have h2 := h1 e he
          simp [hb] at h2
          exact ih e.on (by omega) (by omega)
        rw [hr] at hm
        simp at hm
  apply Array.ext
  · simpa using hs
  · intro i h1 h2
    have := key (i + 1) i (by omega) (by omega)
    simp [h1] at this
    simp [this]

/-- The frame when some operations have been carried out: each has its slot and its value. -/
def mk (base : Act) (own : Nat → Option (Nat × Value)) (listed : Array Bool) : Act :=
  { base with tmps := base.tmps.mapIdx (fun s old => match own s with | some (i, v) => if listed.getD i false then v else old | none => old) }

variable {base : Act} {own : Nat → Option (Nat × Value)} {listed : Array Bool}

theorem mk_dep {s i : Nat} {v : Value} (h : own s = some (i, v)) (hl : listed.getD i false = true) (hs : s < base.tmps.size) : (mk base own listed).eval (.tmp s) = v := by
  simp only [Act.eval, mk, Array.getD_eq_getD_getElem?, Array.getElem?_mapIdx, Array.getElem?_eq_getElem hs, Option.map_some, Option.getD_some, h]
  rw [if_pos (by simpa using hl)]

theorem mk_base {s : Nat} (h : own s = none) : (mk base own listed).eval (.tmp s) = base.eval (.tmp s) := by
  simp only [Act.eval, mk, Array.getD_eq_getD_getElem?, Array.getElem?_mapIdx, h]
  cases base.tmps[s]? <;> rfl

theorem mk_put (hinj : ∀ s s' i v v', own s = some (i, v) → own s' = some (i, v') → s = s') {s i : Nat} {v : Value} (h : own s = some (i, v)) (hi : i < listed.size) : (mk base own listed).put (some s) v = mk base own (listed.setIfInBounds i true) := by
  simp only [Act.put, mk, Act.mk.injEq, and_true]
  apply Array.ext_getElem?
  intro t
  rw [Array.getElem?_setIfInBounds]
  simp only [Array.getElem?_mapIdx, Array.size_mapIdx]
  by_cases e : s = t
  · subst e
    rw [if_pos rfl, h]
    by_cases hs : s < base.tmps.size
    · rw [if_pos hs, Array.getElem?_eq_getElem hs]
      simp [hi]
    · rw [if_neg hs, Array.getElem?_eq_none (by omega)]
      rfl
  · rw [if_neg e]
    cases ho : own t with
    | none => rfl
    | some y =>
      obtain ⟨j, u⟩ := y
      have hj : i ≠ j := fun c => e (hinj s t i v u h (by rw [c]; exact ho))
      simp only [getD_set_ne false hj]

theorem mk_yield {j s : Nat} {b : Bool} {o : Oper} (ho : ops[j]? = some o) (hd : o.dst = some s) (h : own s = some (j, .bool b)) (hl : listed.getD j false = true) (hs : s < base.tmps.size) : yielded ops (mk base own listed).tmps j = some b := by
  have h1 := mk_dep (base := base) h hl hs
  simp only [Act.eval, Array.getD_eq_getD_getElem?] at h1
  have h2 : s < (mk base own listed).tmps.size := by simpa [mk] using hs
  rw [Array.getElem?_eq_getElem h2, Option.getD_some] at h1
  simp only [yielded, ho, Option.bind_some, hd, Array.getElem?_eq_getElem h2, h1]

/-- An operation that yields. -/
theorem step_value {R : World → Prop} (hinj : ∀ s s' i v v', own s = some (i, v) → own s' = some (i, v') → s = s') {i s : Nat} {o : Oper} {v : Value} {w : World} (ho : ops[i]? = some o) (hw : Region.wanted o (yielded ops (mk base own listed).tmps) = true) (hd : o.dst = some s) (h : own s = some (i, v)) (hi : i < listed.size)
    (hr : (execOp (mk base own listed).eval o).run P w = .ok (.value v) w) (hR : R w) : wpOp P ops Q i (fun a' w' => a' = mk base own (listed.setIfInBounds i true) ∧ R w') (mk base own listed) w := by
  unfold wpOp
  simp only [ho, hw, if_true]
  refine .inl ?_
  unfold Oper.wp
  rw [hr, Oper.upon_value, hd, mk_put hinj h hi]
  exact ⟨rfl, hR⟩

/-- A call. -/
theorem step_call {R : World → Prop} (hinj : ∀ s s' i v v', own s = some (i, v) → own s' = some (i, v') → s = s') {i s f : Nat} {args : Array Value} {o : Oper} {v : Value} {w : World} (ho : ops[i]? = some o) (hw : Region.wanted o (yielded ops (mk base own listed).tmps) = true) (hd : o.dst = some s) (h : own s = some (i, v)) (hi : i < listed.size)
    (hr : (execOp (mk base own listed).eval o).run P w = .ok (.enter f args) w) (hc : Calls P f args w fun e w' => e = .returned v ∧ R w') : wpOp P ops Q i (fun a' w' => a' = mk base own (listed.setIfInBounds i true) ∧ R w') (mk base own listed) w := by
  unfold wpOp
  simp only [ho, hw, if_true]
  refine .inl ?_
  unfold Oper.wp
  rw [hr, Oper.upon_enter]
  refine hc.mono fun e w' ⟨he, hR⟩ => ?_
  subst he
  show _ ∧ _
  rw [hd, mk_put hinj h hi]
  exact ⟨rfl, hR⟩

/-- The region, by its operations one by one. -/
theorem region_inv {id : Nat} {a : Act} {w : World} (R : World → Prop) (hm : P.follows .mixedOrders = true) (hac : Acyclic .any ops = true) (own : Nat → Option (Nat × Value)) (B : Act) (hB : mk a own (Array.replicate ops.size true) = B)
    (hR : R w.drew)
    (hstep : ∀ i o, ops[i]? = some o → ∀ (listed : Array Bool) (w : World), i < listed.size → (∀ e ∈ o.after, Region.binds .any e = true → listed.getD e.on false = true) → R w → wpOp P ops Q i (fun a' w' => a' = mk a own (listed.setIfInBounds i true) ∧ R w') (mk a own listed) w)
    (hdone : ∀ w, R w → Q .normal B w) : (Code.region id ops true).wp P Q a w := by
  refine wp_region_any hm ?_
  refine any_inv (fun listed a' w' => a' = mk a own listed ∧ R w') ?_ ?_ _ _ _ _ (by simp) ?_ ⟨?_, hR⟩
  · intro listed a' w' i hj hs hi
    obtain ⟨rfl, hR'⟩ := hj
    obtain ⟨h1, o, ho, h2⟩ := mem_ready.1 hi
    have hlt : i < listed.size := by
      rcases Nat.lt_or_ge i listed.size with h' | h'
      · exact h'
      · simp [Array.getElem?_eq_none h'] at h1
    exact hstep i o ho listed w' hlt h2 hR'
  · intro listed a' w' hj hs hr
    obtain ⟨rfl, hR'⟩ := hj
    rw [all_listed hac hs hr, hB]
    exact hdone w' hR'
  · simp [leftN]
  · have e : mk a own (Array.replicate ops.size false) = a := by
      cases a
      simp only [mk, Act.mk.injEq, and_true]
      apply Array.ext
      · simp
      · intro t h1 h2
        simp only [Array.getElem_mapIdx]
        cases own t with
        | none => rfl
        | some y => obtain ⟨i, v⟩ := y; simp [Array.getElem?_replicate]; split <;> simp_all
    exact e.symm
end

end Go.Proofs.Ytimpoagdidnpiaa
