/-
  Single operations, by what their operands are.
-/
import Derived.Test.YtimpoagdidnpiaaInv
namespace Go.Proofs.Ytimpoagdidnpiaa
open Go.RowKit
set_option linter.unusedVariables false

section
variable {ev : Operand → Value} {o : Oper} {w : World}

theorem wanted_none {y : Nat → Option Bool} (hg : o.guard = none) : Region.wanted o y = true := by simp [Region.wanted, hg]
theorem wanted_of {y : Nat → Option Bool} {g : Nat} {b : Bool} (hg : o.guard = some (g, b)) (hy : y g = some b) : Region.wanted o y = true := by simp [Region.wanted, hg, hy]

theorem op_move {x : Operand} (ho : o.op = .move x) {v : Value} (hv : ev x = v) : (execOp ev o).run Try.prog w = .ok (.value v) w := by
  simp [go_sem, execOp, ho, hv]
theorem op_assign {x : Operand} (ho : o.op = .assign x) {v : Value} (hv : ev x = v) : (execOp ev o).run Try.prog w = .ok (.value v) w := by
  simp [go_sem, execOp, ho, hv]
theorem op_eql {x y : Operand} (ho : o.op = .binOp .eql 3 x y 3) {a b : Int} {c : Bool} (hx : ev x = .int .i64 a) (hy : ev y = .int .i64 b) (hc : (a == b) = c) : (execOp ev o).run Try.prog w = .ok (.value (.bool c)) w := by
  subst hc
  simp [go_sem, execOp, ho, hx, hy]
theorem op_neq {x y : Operand} (ho : o.op = .binOp .neq 3 x y 3) {a : Int} (hx : ev x = .int .i64 a) (hy : ev y = .int .i64 a) : (execOp ev o).run Try.prog w = .ok (.value (.bool false)) w := by
  simp [go_sem, execOp, ho, hx, hy]
theorem op_pick {x y z : Operand} (ho : o.op = .pick x y z) {b : Bool} {v : Value} (hx : ev x = .bool b) (hv : (if b then ev y else ev z) = v) : (execOp ev o).run Try.prog w = .ok (.value v) w := by
  subst hv
  cases b <;> simp [go_sem, execOp, ho, hx]
theorem op_pickF {x y z : Operand} (ho : o.op = .pick x y z) {v : Value} (hx : ev x = .bool false) (hz : ev z = v) : (execOp ev o).run Try.prog w = .ok (.value v) w := op_pick ho hx (by simp [hz])
theorem op_pickT {x y z : Operand} (ho : o.op = .pick x y z) {v : Value} (hx : ev x = .bool true) (hy : ev y = v) : (execOp ev o).run Try.prog w = .ok (.value v) w := op_pick ho hx (by simp [hy])
theorem op_load3 {x : Operand} (ho : o.op = .load 3 x) {ad : Addr} {v : Value} (hx : ev x = .pointer (some ad)) (hc : w.cell? ad = some v) : (execOp ev o).run Try.prog w = .ok (.value v) w := by
  simp [go_sem, execOp, ho, hx, hc]
theorem op_load28 {x : Operand} (ho : o.op = .load 28 x) {b : Nat} {v1 v2 v3 : Value} (hx : ev x = .pointer (some ⟨b, 0, none⟩)) (h1 : w.cell? ⟨b, 0, none⟩ = some v1) (h2 : w.cell? ⟨b, 1, none⟩ = some v2) (h3 : w.cell? ⟨b, 2, none⟩ = some v3) : (execOp ev o).run Try.prog w = .ok (.value (.agg #[v1, v2, v3])) w := by
  simp [go_sem, execOp, ho, hx, h1, h2, h3]
theorem op_call {f : FuncId} {xs : Array Operand} {ts : Array TypeId} (ho : o.op = .call { callee := .value (.func f), args := xs, argTypes := ts }) (hf : ev (.func f) = .func (.func f) #[] #[]) {args : Array Value} (ha : xs.map ev = args) (eg : ∀ args w, (callFunc f args).run Try.prog w = .ok (.enter f args) w) : (execOp ev o).run Try.prog w = .ok (.enter f args) w := by
  subst ha
  simp [go_sem, execOp, ho, hf, resolve, invoke, eg]
theorem op_field28 {x : Operand} (ho : o.op = .fieldAddr 28 x 2) {b : Nat} (hx : ev x = .pointer (some ⟨b, 0, none⟩)) : (execOp ev o).run Try.prog w = .ok (.value (.pointer (some ⟨b, 2, none⟩))) w := by
  simp [go_sem, execOp, ho, hx]
theorem op_field33 {x : Operand} (ho : o.op = .fieldAddr 33 x 1) {b f : Nat} (hx : ev x = .pointer (some ⟨b, f, none⟩)) : (execOp ev o).run Try.prog w = .ok (.value (.pointer (some ⟨b, f + 1, none⟩))) w := by
  simp [go_sem, execOp, ho, hx]
theorem op_index22 {x y : Operand} (ho : o.op = .indexAddr 22 x y) {b f n c q : Nat} (hx : ev x = .slice (some ⟨b, f, none⟩) n c) (hy : ev y = .int .i64 q) (hq : q < n) : (execOp ev o).run Try.prog w = .ok (.value (.pointer (some ⟨b, f + q * 3, none⟩))) w := by
  have h1 : (q : Int) < n := by omega
  simp [go_sem, execOp, ho, hx, hy, h1]
end

theorem args1 {ev : Operand → Value} {x : Operand} {a : Value} (h : ev x = a) : #[x].map ev = #[a] := by simp [h]
theorem args2 {ev : Operand → Value} {x y : Operand} {a b : Value} (h : ev x = a) (g : ev y = b) : #[x, y].map ev = #[a, b] := by simp [h, g]

def ownAt (o : Nat) (vals : List Value) (s : Nat) : Option (Nat × Value) := if o ≤ s then (vals[s - o]?).map (fun v => (s - o, v)) else none

theorem ownAt_inj (o : Nat) (vals : List Value) : ∀ s s' i v v', ownAt o vals s = some (i, v) → ownAt o vals s' = some (i, v') → s = s' := by
  intro s s' i v v' h h'
  unfold ownAt at h h'
  split at h
  · split at h'
    · simp only [Option.map_eq_some_iff, Prod.mk.injEq] at h h'
      obtain ⟨_, _, h1, _⟩ := h
      obtain ⟨_, _, h2, _⟩ := h'
      omega
    · simp at h'
  · simp at h

def AllFrom (St : Nat → Oper → Prop) : Nat → List Oper → Prop
  | _, [] => True
  | n, o :: l => St n o ∧ AllFrom St (n + 1) l

theorem AllFrom.nil {St : Nat → Oper → Prop} {n : Nat} : AllFrom St n [] := trivial
theorem AllFrom.cons {St : Nat → Oper → Prop} {n m : Nat} {o : Oper} {l : List Oper} (hm : m = n + 1) (h : St n o) (hl : AllFrom St m l) : AllFrom St n (o :: l) := by subst hm; exact ⟨h, hl⟩

theorem all_from {St : Nat → Oper → Prop} : ∀ (l : List Oper) (n : Nat), AllFrom St n l → ∀ (i : Nat) (o : Oper), l[i]? = some o → St (n + i) o
  | [], _, _, i, o, h => by simp at h
  | a :: l, n, ha, 0, o, h => by simp at h; subst h; exact ha.1
  | a :: l, n, ha, i + 1, o, h => by
    have := all_from l (n + 1) ha.2 i o (by simpa using h)
    rw [show n + (i + 1) = n + 1 + i by omega]
    exact this

theorem steps_of {l : List Oper} {St : Nat → Oper → Prop} (h : AllFrom St 0 l) : ∀ (i : Nat) (o : Oper), l.toArray[i]? = some o → St i o := fun i o ho => by
  have := all_from l 0 h i o (by simpa using ho)
  rwa [Nat.zero_add] at this

/-- One operation, in whatever order the others come. -/
def StepOf (P : Program) (ops : Array Oper) (Q : Exit → Act → World → Prop) (a : Act) (own : Nat → Option (Nat × Value)) (R : World → Prop) (i : Nat) (o : Oper) : Prop :=
  ops[i]? = some o → ∀ (listed : Array Bool) (w : World), i < listed.size → (∀ e ∈ o.after, Region.binds .any e = true → listed.getD e.on false = true) → R w → wpOp P ops Q i (fun a' w' => a' = mk a own (listed.setIfInBounds i true) ∧ R w') (mk a own listed) w

theorem region_by {P : Program} {l : List Oper} {Q : Exit → Act → World → Prop} {id : Nat} {a : Act} {w : World} (R : World → Prop) (hm : P.follows .mixedOrders = true) (hac : Acyclic .any l.toArray = true) (own : Nat → Option (Nat × Value)) (B : Act) (hB : mk a own (Array.replicate l.toArray.size true) = B)
    (hR : R w.drew) (hst : ∀ (ops : Array Oper) (Q' : Exit → Act → World → Prop) (a' : Act), (∀ (i : Nat) (o : Oper), l[i]? = some o → ops[i]? = some o) → a' = a → AllFrom (StepOf P ops Q' a' own R) 0 l)
    (hdone : ∀ w, R w → Q .normal B w) : (Code.region id l.toArray true).wp P Q a w := by
  refine region_inv R hm hac own B hB hR (fun i o ho listed w' h1 h2 h3 => ?_) hdone
  have h := steps_of (hst l.toArray Q a (fun i o h => by simpa using h) rfl) i o ho
  exact h ho listed w' h1 h2 h3

theorem mk_yields {ops : Array Oper} {base : Act} {own : Nat → Option (Nat × Value)} {listed : Array Bool} {j s : Nat} {b : Bool} (hd : (ops[j]?).bind (·.dst) = some s) (h : own s = some (j, .bool b)) (hl : listed.getD j false = true) (hs : s < base.tmps.size) : yielded ops (mk base own listed).tmps j = some b := by
  cases ho : ops[j]? with
  | none => rw [ho] at hd; simp at hd
  | some o => rw [ho] at hd; exact mk_yield ho hd h hl hs

theorem lits_bound {w : World} {ao : Option Addr} {m N : Nat} {L : List E} (h : Row w ao m (litsF L)) (hL : L.length ≤ N) : m ≤ N := by rw [← h.1, litsF_len]; exact hL

end Go.Proofs.Ytimpoagdidnpiaa
