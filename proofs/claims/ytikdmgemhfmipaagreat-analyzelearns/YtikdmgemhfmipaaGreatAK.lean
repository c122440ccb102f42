/-
  A region that draws its order, in a round: each operation is looked at once, in whatever order they come.
-/
import Derived.Test.YtikdmgemhfmipaaGreatAI
import Derived.RegionTactic
import Derived.OrdersIn
import Derived.RangeFuncCalls
import Derived.TacticsIn
import Derived.TacticsInMore
namespace Go.Proofs.YtikdmgemhfmipaaGreat
open Go.RowKit Go.Shelf
set_option linter.unusedVariables false

section
variable {F : Fence} {n : Nat} {P : Program} {ops : Array Oper} {Q : Exit → Act → World → Prop} {md : Region.Mode}

def leftN (listed : Array Bool) : Nat := listed.toList.count false

theorem left_set {listed : Array Bool} {i : Nat} (h : listed.getD i true = false) : leftN (listed.setIfInBounds i true) + 1 = leftN listed := by
  have hi : i < listed.size := by
    rcases Nat.lt_or_ge i listed.size with h' | h'
    · exact h'
    · simp [Array.getElem?_eq_none h'] at h
  have hv : listed.toList[i] = false := by simpa [hi] using h
  unfold leftN
  rw [Array.toList_setIfInBounds, List.count_set (by simpa using hi)]
  have : 0 < listed.toList.count false := List.count_pos_iff.2 (by rw [← hv]; exact List.getElem_mem _)
  rw [hv]
  show listed.toList.count false - 1 + 0 + 1 = listed.toList.count false
  omega

theorem ready_false {listed : Array Bool} {i : Nat} (h : i ∈ Region.ready md ops listed) : listed.getD i true = false := (mem_ready.1 h).1

theorem any_inv (J : Array Bool → Act → World → Prop)
    (hstep : ∀ listed a w i, J listed a w → listed.size = ops.size → i ∈ Region.ready md ops listed → wpOpIn F n P ops Q i (J (listed.setIfInBounds i true)) a w)
    (hdone : ∀ listed a w, J listed a w → listed.size = ops.size → Region.ready md ops listed = [] → Q .normal a w) :
    ∀ (fuel : Nat) (listed : Array Bool) (a : Act) (w : World), listed.size = ops.size → leftN listed ≤ fuel → J listed a w → wpAnyIn F n P md ops Q fuel listed a w := by
  intro fuel
  induction fuel with
  | zero =>
    intro listed a w hs hf hj
    have hr : Region.ready md ops listed = [] := by
      rw [List.eq_nil_iff_forall_not_mem]
      intro i hi
      have := left_set (ready_false hi)
      omega
    exact ⟨hr, hdone listed a w hj hs hr⟩
  | succ fuel ih =>
    intro listed a w hs hf hj
    refine ⟨fun hr => hdone listed a w hj hs hr, fun i hi => ?_⟩
    refine wpOpIn_mono (fun a' w' hj' => ih _ a' w' (by simpa using hs) ?_ hj') (hstep listed a w i hj hs hi)
    have := left_set (ready_false hi)
    omega

/-- No operation waits for itself or a later one. -/
def Acyclic (md : Region.Mode) (ops : Array Oper) : Bool := (List.range ops.size).all fun i => ((ops[i]?).map (·.after.all fun e => !Region.binds md e || decide (e.on < i))).getD true

theorem all_listed (hac : Acyclic md ops = true) {listed : Array Bool} (hs : listed.size = ops.size) (hr : Region.ready md ops listed = []) : listed = Array.replicate ops.size true := by
  have key : ∀ n i, i < n → i < ops.size → listed.getD i false = true := by
    intro n
    induction n with
    | zero => intro i h; omega
    | succ n ih =>
      intro i hi hio
      cases hl : listed.getD i true with
      | true =>
        have hil : i < listed.size := by omega
        simp [hil] at hl ⊢
        exact hl
      | false =>
        exfalso
        have hm : i ∈ Region.ready md ops listed := by
          refine mem_ready.2 ⟨hl, ops[i], Array.getElem?_eq_getElem hio, fun e he hb => ?_⟩
          have h1 := (List.all_eq_true.1 hac) i (List.mem_range.2 hio)
          rw [Array.getElem?_eq_getElem hio] at h1
          simp only [Option.map_some, Option.getD_some, Array.all_eq_true_iff_forall_mem] at h1
          have h2 := h1 e he
          simp [hb] at h2
          exact ih e.on (by omega) (by omega)
        rw [hr] at hm
        simp at hm
  apply Array.ext
  · simpa using hs
  · intro i h1 h2
    have := key (i + 1) i (by omega) (by omega)
    simp [h1] at this
    simp [this]

/-- The frame when some operations have been carried out: each has its slot and its value. -/
def mkf (base : Act) (own : Nat → Option (Nat × Value)) (listed : Array Bool) : Act :=
  { base with tmps := base.tmps.mapIdx (fun s old => match own s with | some (i, v) => if listed.getD i false then v else old | none => old) }

variable {base : Act} {own : Nat → Option (Nat × Value)} {listed : Array Bool}

theorem mk_dep {s i : Nat} {v : Value} (h : own s = some (i, v)) (hl : listed.getD i false = true) (hs : s < base.tmps.size) : (mkf base own listed).eval (.tmp s) = v := by
  simp only [Act.eval, mkf, Array.getD_eq_getD_getElem?, Array.getElem?_mapIdx, Array.getElem?_eq_getElem hs, Option.map_some, Option.getD_some, h]
  rw [if_pos (by simpa using hl)]

theorem mk_base {s : Nat} (h : own s = none) : (mkf base own listed).eval (.tmp s) = base.eval (.tmp s) := by
  simp only [Act.eval, mkf, Array.getD_eq_getD_getElem?, Array.getElem?_mapIdx, h]
  cases base.tmps[s]? <;> rfl

theorem mk_put (hinj : ∀ s s' i v v', own s = some (i, v) → own s' = some (i, v') → s = s') {s i : Nat} {v : Value} (h : own s = some (i, v)) (hi : i < listed.size) : (mkf base own listed).put (some s) v = mkf base own (listed.setIfInBounds i true) := by
  simp only [Act.put, mkf, Act.mk.injEq, and_true]
  apply Array.ext_getElem?
  intro t
  rw [Array.getElem?_setIfInBounds]
  simp only [Array.getElem?_mapIdx, Array.size_mapIdx]
  by_cases e : s = t
  · subst e
    rw [if_pos rfl, h]
    by_cases hs : s < base.tmps.size
    · rw [if_pos hs, Array.getElem?_eq_getElem hs]
      simp [hi]
    · rw [if_neg hs, Array.getElem?_eq_none (by omega)]
      rfl
  · rw [if_neg e]
    cases ho : own t with
    | none => rfl
    | some y =>
      obtain ⟨j, u⟩ := y
      have hj : i ≠ j := fun c => e (hinj s t i v u h (by rw [c]; exact ho))
      simp only [getD_set_ne false hj]

theorem mk_yield {j s : Nat} {b : Bool} {o : Oper} (ho : ops[j]? = some o) (hd : o.dst = some s) (h : own s = some (j, .bool b)) (hl : listed.getD j false = true) (hs : s < base.tmps.size) : yielded ops (mkf base own listed).tmps j = some b := by
  have h1 := mk_dep (base := base) h hl hs
  simp only [Act.eval, Array.getD_eq_getD_getElem?] at h1
  have h2 : s < (mkf base own listed).tmps.size := by simpa [mkf] using hs
  rw [Array.getElem?_eq_getElem h2, Option.getD_some] at h1
  simp only [yielded, ho, Option.bind_some, hd, Array.getElem?_eq_getElem h2, h1]

/-- An operation that yields, in a round. -/
theorem step_valueIn {R : World → Prop} {l : Nat} (hinj : ∀ s s' i v v', own s = some (i, v) → own s' = some (i, v') → s = s') {i s : Nat} {o : Oper} {v : Value} {w : World} (ho : ops[i]? = some o) (hw : Region.wanted o (yielded ops (mkf base own listed).tmps) = true) (hd : o.dst = some s) (h : own s = some (i, v)) (hi : i < listed.size) (hdf : ∀ c, o.op ≠ .defer c)
    (hr : (execOp (mkf base own listed).eval o).run P w = .ok (.value v) w) (hR : R w) : wpOpIn (Fence.wide.inRound l) n P ops Q i (fun a' w' => a' = mkf base own (listed.setIfInBounds i true) ∧ R w') (mkf base own listed) w := by
  unfold wpOpIn
  simp only [ho, hw, if_true]
  refine ⟨fun _ _ => trivial, ?_⟩
  rw [Fence.inRound_round, Oper.semAt_some _ _ _ hdf, hr, Oper.uponIn_value, hd, mk_put hinj h hi]
  exact ⟨rfl, hR⟩

/-- A call, in a round. -/
theorem step_callIn {R : World → Prop} {l : Nat} (hinj : ∀ s s' i v v', own s = some (i, v) → own s' = some (i, v') → s = s') {i s f : Nat} {args : Array Value} {o : Oper} {v : Value} {w : World} (ho : ops[i]? = some o) (hw : Region.wanted o (yielded ops (mkf base own listed).tmps) = true) (hd : o.dst = some s) (h : own s = some (i, v)) (hi : i < listed.size) (hdf : ∀ c, o.op ≠ .defer c)
    (hr : (execOp (mkf base own listed).eval o).run P w = .ok (.enter f args) w) (hc : Calls P f args w fun e w' => e = .returned v ∧ R w') : wpOpIn (Fence.wide.inRound l) n P ops Q i (fun a' w' => a' = mkf base own (listed.setIfInBounds i true) ∧ R w') (mkf base own listed) w := by
  unfold wpOpIn
  simp only [ho, hw, if_true]
  refine ⟨fun _ _ => trivial, ?_⟩
  rw [Fence.inRound_round, Oper.semAt_some _ _ _ hdf, hr, Oper.uponIn_enter]
  refine ⟨fun e => (by cases e), ?_⟩
  refine (CallsIn.inRound l (callsIn_wide.2 hc)).mono fun e w' ⟨he, hR⟩ => ?_
  subst he
  show _ ∧ _
  rw [hd, mk_put hinj h hi]
  exact ⟨rfl, hR⟩

/-- The region, by its operations one by one. -/
theorem regionIn_inv {id : Nat} {a : Act} {w : World} (R : World → Prop) (hm : P.follows .mixedOrders = true) (hac : Acyclic .any ops = true) (own : Nat → Option (Nat × Value)) (B : Act) (hB : mkf a own (Array.replicate ops.size true) = B)
    (hR : R w.drew)
    (hstep : ∀ i o, ops[i]? = some o → ∀ (listed : Array Bool) (w : World), i < listed.size → (∀ e ∈ o.after, Region.binds .any e = true → listed.getD e.on false = true) → R w → wpOpIn F n P ops Q i (fun a' w' => a' = mkf a own (listed.setIfInBounds i true) ∧ R w') (mkf a own listed) w)
    (hdone : ∀ w, R w → Q .normal B w) : (Code.region id ops true).wpIn F n P Q a w := by
  refine wpIn_region_any hm ?_
  refine any_inv (fun listed a' w' => a' = mkf a own listed ∧ R w') ?_ ?_ _ _ _ _ (by simp) ?_ ⟨?_, hR⟩
  · intro listed a' w' i hj hs hi
    obtain ⟨rfl, hR'⟩ := hj
    obtain ⟨h1, o, ho, h2⟩ := mem_ready.1 hi
    have hlt : i < listed.size := by
      rcases Nat.lt_or_ge i listed.size with h' | h'
      · exact h'
      · simp [Array.getElem?_eq_none h'] at h1
    exact hstep i o ho listed w' hlt h2 hR'
  · intro listed a' w' hj hs hr
    obtain ⟨rfl, hR'⟩ := hj
    rw [all_listed hac hs hr, hB]
    exact hdone w' hR'
  · simp [leftN]
  · have e : mkf a own (Array.replicate ops.size false) = a := by
      cases a
      simp only [mkf, Act.mk.injEq, and_true]
      apply Array.ext
      · simp
      · intro t h1 h2
        simp only [Array.getElem_mapIdx]
        cases own t with
        | none => rfl
        | some y => obtain ⟨i, v⟩ := y; simp [Array.getElem?_replicate]; split <;> simp_all
    exact e.symm
end

section
variable {ev : Operand → Value} {o : Oper} {w : World}

theorem wanted_none {y : Nat → Option Bool} (hg : o.guard = none) : Region.wanted o y = true := by simp [Region.wanted, hg]
theorem wanted_of {y : Nat → Option Bool} {g : Nat} {b : Bool} (hg : o.guard = some (g, b)) (hy : y g = some b) : Region.wanted o y = true := by simp [Region.wanted, hg, hy]

theorem op_move {x : Operand} (ho : o.op = .move x) {v : Value} (hv : ev x = v) : (execOp ev o).run Tryz.prog w = .ok (.value v) w := by
  simp [go_sem, execOp, ho, hv]



theorem op_load3 {x : Operand} (ho : o.op = .load 3 x) {ad : Addr} {v : Value} (hx : ev x = .pointer (some ad)) (hc : w.cell? ad = some v) : (execOp ev o).run Tryz.prog w = .ok (.value v) w := by
  simp [go_sem, execOp, ho, hx, hc]
theorem op_neq {x y : Operand} (ho : o.op = .binOp .neq 3 x y 3) {a b : Int} {c : Bool} (hx : ev x = .int .i64 a) (hy : ev y = .int .i64 b) (hc : (a != b) = c) : (execOp ev o).run Tryz.prog w = .ok (.value (.bool c)) w := by
  subst hc
  simp [go_sem, execOp, ho, hx, hy]
theorem op_load {T : TypeId} {x : Operand} (hT : T = 92 ∨ T = 26 ∨ T = 3) (ho : o.op = .load T x) {ad : Addr} {v : Value} (hx : ev x = .pointer (some ad)) (hc : w.cell? ad = some v) : (execOp ev o).run Tryz.prog w = .ok (.value v) w := by
  rcases hT with rfl | rfl | rfl <;> simp [go_sem, execOp, ho, hx, hc]
theorem op_nil {x : Operand} (ho : o.op = .nilCheck x) {ad : Addr} (hx : ev x = .pointer (some ad)) : (execOp ev o).run Tryz.prog w = .ok (.value (.pointer (some ad))) w := by
  simp [go_sem, execOp, ho, hx]
theorem op_f0 {x : Operand} (ho : o.op = .fieldAddr 71 x 0) {b : Nat} (hx : ev x = .pointer (some ⟨b, 0, none⟩)) : (execOp ev o).run Tryz.prog w = .ok (.value (.pointer (some ⟨b, 0, none⟩))) w := by
  simp [go_sem, execOp, ho, hx]
theorem op_f2 {x : Operand} (ho : o.op = .fieldAddr 71 x 2) {b : Nat} (hx : ev x = .pointer (some ⟨b, 0, none⟩)) : (execOp ev o).run Tryz.prog w = .ok (.value (.pointer (some ⟨b, 2, none⟩))) w := by
  simp [go_sem, execOp, ho, hx]
theorem op_call {f : FuncId} {xs : Array Operand} {ts : Array TypeId} (ho : o.op = .call { callee := .value (.func f), args := xs, argTypes := ts }) (hf : ev (.func f) = .func (.func f) #[] #[]) {args : Array Value} (ha : xs.map ev = args) (eg : ∀ args w, (callFunc f args).run Tryz.prog w = .ok (.enter f args) w) : (execOp ev o).run Tryz.prog w = .ok (.enter f args) w := by
  subst ha
  simp [go_sem, execOp, ho, hf, resolve, invoke, eg]
end

theorem args1 {ev : Operand → Value} {x : Operand} {a : Value} (h : ev x = a) : #[x].map ev = #[a] := by simp [h]
theorem args2 {ev : Operand → Value} {x y : Operand} {a b : Value} (h : ev x = a) (g : ev y = b) : #[x, y].map ev = #[a, b] := by simp [h, g]

def ownAt (o : Nat) (vals : List Value) (s : Nat) : Option (Nat × Value) := if o ≤ s then (vals[s - o]?).map (fun v => (s - o, v)) else none

theorem ownAt_inj (o : Nat) (vals : List Value) : ∀ s s' i v v', ownAt o vals s = some (i, v) → ownAt o vals s' = some (i, v') → s = s' := by
  intro s s' i v v' h h'
  unfold ownAt at h h'
  split at h
  · split at h'
    · simp only [Option.map_eq_some_iff, Prod.mk.injEq] at h h'
      obtain ⟨_, _, h1, _⟩ := h
      obtain ⟨_, _, h2, _⟩ := h'
      omega
    · simp at h'
  · simp at h

def AllFrom (St : Nat → Oper → Prop) : Nat → List Oper → Prop
  | _, [] => True
  | n, o :: l => St n o ∧ AllFrom St (n + 1) l

theorem AllFrom.nil {St : Nat → Oper → Prop} {n : Nat} : AllFrom St n [] := trivial
theorem AllFrom.cons {St : Nat → Oper → Prop} {n m : Nat} {o : Oper} {l : List Oper} (hm : m = n + 1) (h : St n o) (hl : AllFrom St m l) : AllFrom St n (o :: l) := by subst hm; exact ⟨h, hl⟩

theorem all_from {St : Nat → Oper → Prop} : ∀ (l : List Oper) (n : Nat), AllFrom St n l → ∀ (i : Nat) (o : Oper), l[i]? = some o → St (n + i) o
  | [], _, _, i, o, h => by simp at h
  | a :: l, n, ha, 0, o, h => by simp at h; subst h; exact ha.1
  | a :: l, n, ha, i + 1, o, h => by
    have := all_from l (n + 1) ha.2 i o (by simpa using h)
    rw [show n + (i + 1) = n + 1 + i by omega]
    exact this

theorem steps_of {l : List Oper} {St : Nat → Oper → Prop} (h : AllFrom St 0 l) : ∀ (i : Nat) (o : Oper), l.toArray[i]? = some o → St i o := fun i o ho => by
  have := all_from l 0 h i o (by simpa using ho)
  rwa [Nat.zero_add] at this

/-- One operation, in whatever order the others come. -/
def StepOf (F : Fence) (n : Nat) (P : Program) (ops : Array Oper) (Q : Exit → Act → World → Prop) (a : Act) (own : Nat → Option (Nat × Value)) (R : World → Prop) (i : Nat) (o : Oper) : Prop :=
  ops[i]? = some o → ∀ (listed : Array Bool) (w : World), i < listed.size → (∀ e ∈ o.after, Region.binds .any e = true → listed.getD e.on false = true) → R w → wpOpIn F n P ops Q i (fun a' w' => a' = mkf a own (listed.setIfInBounds i true) ∧ R w') (mkf a own listed) w

theorem regionIn_by {F : Fence} {n : Nat} {P : Program} {l : List Oper} {Q : Exit → Act → World → Prop} {id : Nat} {a : Act} {w : World} (R : World → Prop) (hm : P.follows .mixedOrders = true) (hac : Acyclic .any l.toArray = true) (own : Nat → Option (Nat × Value)) (B : Act) (hB : mkf a own (Array.replicate l.toArray.size true) = B)
    (hR : R w.drew) (hst : ∀ (ops : Array Oper) (Q' : Exit → Act → World → Prop) (a' : Act), (∀ (i : Nat) (o : Oper), l[i]? = some o → ops[i]? = some o) → a' = a → AllFrom (StepOf F n P ops Q' a' own R) 0 l)
    (hdone : ∀ w, R w → Q .normal B w) : (Code.region id l.toArray true).wpIn F n P Q a w := by
  refine regionIn_inv R hm hac own B hB hR (fun i o ho listed w' h1 h2 h3 => ?_) hdone
  have h := steps_of (hst l.toArray Q a (fun i o h => by simpa using h) rfl) i o ho
  exact h ho listed w' h1 h2 h3

end Go.Proofs.YtikdmgemhfmipaaGreat
