/-
  Terms in memory: rows of terms, the map that tells their numbers, a dag.
-/
import Derived.Test.YtefielnmlekhaaaDoorMath
import Derived.Deep.RegionWith
import Derived.Deep.RegionHeld3
import Derived.Deep.Cut
import Derived.Deep.CutRange
import Derived.BigQuiet
import Derived.LoopTactic
import Derived.Laws.AppendOwnNone
import Derived.Laws.OwnMore
import Derived.Laws.MakeOwn
import Derived.Laws.CopyOwn
import Derived.OwnWalk
import Derived.Handy
import Derived.Deep.OwnRows
import Derived.Maps.OwnSet
import Derived.DeepKeys4
namespace Go.Proofs.YtefielnmlekhaaaDoor
open Go.RowKit Go.Maps
set_option linter.unusedVariables false

theorem hid {p : Prop} (h : p) : Hid p := h
theorem Tryd.info3 : (Tryd.prog.info? 3).map (fun i => (i.zero, i.size, i.bytes)) = some (some (.int .i64 0), 1, 8) := by kernel_rfl
theorem Below.next {w w1 w2 : World} (h : Below w.heap.size w w1) (k : Below w1.heap.size w1 w2) : Below w.heap.size w w2 :=
  h.trans (k.mono h.size)
theorem cell_lt {w : World} {p : Addr} {v : Value} (h : w.cell? p = some v) : p.block < w.heap.size := by
  by_cases hp : p.block < w.heap.size
  · exact hp
  · exfalso
    have e : w.heap[p.block]? = none := by simp; omega
    simp [World.cell?, e] at h
theorem grown_set (w : World) (a : Addr) (v : Value) : w.grownBy (w.setCell a v) (some a.block) :=
  ⟨rfl, rfl, rfl, by simp [World.setCell], fun k _ hne => Below.heap_setCell _ _ _ _ (fun e => hne (by rw [e]))⟩
theorem grown_new (w : World) (o : Obj) (r : Option Nat) : w.grownBy (w.alloc o) r := World.grownBy_alloc w o r
theorem grown_two {a b c : World} {r : Option Nat} (h : a.grownBy b r) (g : b.grownBy c r) : a.grownBy c r :=
  ⟨g.os.trans h.os, g.tape.trans h.tape, g.output.trans h.output, Nat.le_trans h.size g.size, fun k hk hn => (g.block k (Nat.lt_of_lt_of_le hk h.size) hn).trans (h.block k hk hn)⟩
theorem below_grown {w w' : World} {B : Nat} {r : Option Nat} (g : w.grownBy w' r) (hr : ∀ j, r = some j → B ≤ j) (hB : B ≤ w.heap.size) : Below B w w' :=
  ⟨g.os, g.tape, g.output, g.size, fun k hk => g.block k (by omega) (fun e => by have := hr k e.symm; omega)⟩
theorem grown_below {w w' : World} (b : Below w.heap.size w w') : w.grownBy w' none := ⟨b.os, b.tape, b.output, b.size, fun j hj _ => b.block j hj⟩
theorem blk_lt {w : World} {b : Nat} {o : Obj} (h : w.heap[b]? = some o) : b < w.heap.size := (Array.getElem?_eq_some_iff.1 h).1
theorem set_same {w : World} {b o : Nat} {c : Array Value} {T : TypeId} {fr : Nat × Nat} (h : w.heap[b]? = some (.cells c T fr)) (v : Value) : (w.setCell ⟨b, o, none⟩ v).heap[b]? = some (.cells (c.setIfInBounds o v) T fr) := by
  simp [World.setCell, Array.getElem?_modify, h]
theorem set_other {w : World} {a : Addr} {b : Nat} (v : Value) (h : b ≠ a.block) : (w.setCell a v).heap[b]? = w.heap[b]? := Below.heap_setCell _ _ _ _ h
theorem new_same (w : World) (o : Obj) : (w.alloc o).heap[w.heap.size]? = some o := by
  show (w.heap.push _)[w.heap.size]? = _; simp
theorem cell_of {w : World} {b o : Nat} {c : Array Value} {T : TypeId} {fr : Nat × Nat} (h : w.heap[b]? = some (.cells c T fr)) : w.cell? ⟨b, o, none⟩ = c[o]? := by simp [World.cell?, h]
theorem frozen_of {w : World} {b o : Nat} {c : Array Value} {T : TypeId} (h : w.heap[b]? = some (.cells c T (0, 0))) : w.frozen? ⟨b, o, none⟩ = false := by simp [World.frozen?, h]
theorem own_keep {w w' : World} {base : Nat} {E : TypeId} {sz : Nat} {v : Value} {n : Nat} {xs : List Value} {r : Option Nat} (h : w.ownsRow base E sz v n xs) (g : w.grownBy w' r)
    (hr : ∀ j, r = some j → v.ownBlock ≠ some j) : w'.ownsRow base E sz v n xs := by
  refine ⟨h.1, ?_⟩
  rcases h.2 with h2 | ⟨b, cap, cur, rfl, hb, hg, rest⟩
  · exact .inl h2
  · refine .inr ⟨b, cap, cur, rfl, hb, ?_, rest⟩
    rw [g.block b (blk_lt hg) (fun e => hr b e.symm rfl)]
    exact hg
theorem own_lt {w : World} {base : Nat} {E : TypeId} {sz : Nat} {v : Value} {n : Nat} {xs : List Value} (h : w.ownsRow base E sz v n xs) {j : Nat} (hj : v.ownBlock = some j) : base ≤ j ∧ j < w.heap.size := by
  rcases h.2 with ⟨rfl, _⟩ | ⟨b, cap, cur, rfl, hb, hg, _⟩
  · simp [Value.ownBlock] at hj
  · simp [Value.ownBlock] at hj; subst hj; exact ⟨hb, blk_lt hg⟩
theorem ints_one (xs : List Int) : ∀ v ∈ xs.map (Value.int .i64), v.oneCell' = true := by
  intro v hv
  obtain ⟨x, _, rfl⟩ := List.mem_map.1 hv
  rfl
theorem add_at {b off j : Nat} : (⟨b, off, none⟩ : Addr).add j = ⟨b, off + j, none⟩ := by
  by_cases h : j = 0
  · subst h; rfl
  · simp [Addr.add, h]
theorem below_drew (w : World) : Below w.heap.size w w.drew := ⟨rfl, rfl, rfl, Nat.le_refl _, fun _ _ => rfl⟩
theorem drewN_any (B : Nat) (w : World) (m : Nat) : Below B w (w.drewN m) := ⟨rfl, rfl, rfl, Nat.le_refl _, fun _ _ => rfl⟩


theorem below_any {w w' : World} (h : Below w.heap.size w w') {B : Nat} (hB : B ≤ w.heap.size) : Below B w w' := h.mono hB

/-! ### rows of terms -/
def ndC (n : Nd) : List Value := [.int .i64 n.op, .int .i64 n.wd, .int .i64 n.a, .int .i64 n.b, .int .i64 n.c, .int .u64 n.v]
def ndV (n : Nd) : Value := .agg #[.int .i64 n.op, .int .i64 n.wd, .int .i64 n.a, .int .i64 n.b, .int .i64 n.c, .int .u64 n.v]
def flat (N : List Nd) : List Value := N.flatMap ndC

theorem flat_nil : flat [] = [] := rfl
theorem flat_snoc (N : List Nd) (n : Nd) : flat (N ++ [n]) = flat N ++ ndC n := by simp [flat]
theorem flat_len (N : List Nd) : (flat N).length = N.length * 6 := by
  induction N with
  | nil => rfl
  | cons x xs ih => simp only [flat, List.flatMap_cons, List.length_append, List.length_cons] at ih ⊢; rw [ih]; simp [ndC]; omega
theorem flat_at (N : List Nd) {i : Nat} {n : Nd} (h : N[i]? = some n) {q : Nat} (hq : q < 6) : (flat N)[i * 6 + q]? = (ndC n)[q]? := by
  induction N generalizing i with
  | nil => simp at h
  | cons x xs ih =>
    have hx : (ndC x).length = 6 := rfl
    show (ndC x ++ flat xs)[i * 6 + q]? = _
    cases i with
    | zero =>
      simp at h; subst h
      rw [List.getElem?_append_left (by omega)]
      congr 1; omega
    | succ i =>
      rw [List.getElem?_append_right (by omega), ← ih (i := i) (by simpa using h)]
      congr 1; omega
theorem flat_one (N : List Nd) : ∀ v ∈ flat N, v.oneCell' = true := by
  intro v hv
  simp only [flat, List.mem_flatMap, ndC] at hv
  obtain ⟨n, _, hn⟩ := hv
  simp at hn
  rcases hn with rfl | rfl | rfl | rfl | rfl | rfl <;> rfl

theorem Tryd.info63 : (Tryd.prog.info? 63).map (fun i => (i.zero, i.size, i.bytes)) = some (some (.agg #[.int .i64 0, .int .i64 0, .int .i64 0, .int .i64 0, .int .i64 0, .int .u64 0]), 6, 48) := by kernel_rfl

theorem cell_at {w : World} {base : Nat} {N : List Nd} {ao : Option Addr} {c : Nat} (h : w.ownsRow base 63 6 (.slice ao N.length c) N.length (flat N)) {i : Nat} (hi : i < N.length) :
    ∃ g, ao = some ⟨g, 0, none⟩ ∧ w.cell? ⟨g, i * 6, none⟩ = some (.int .i64 (ndA N i).op) ∧ w.cell? ⟨g, i * 6 + 1, none⟩ = some (.int .i64 (ndA N i).wd) ∧ w.cell? ⟨g, i * 6 + 2, none⟩ = some (.int .i64 (ndA N i).a) ∧
      w.cell? ⟨g, i * 6 + 3, none⟩ = some (.int .i64 (ndA N i).b) ∧ w.cell? ⟨g, i * 6 + 4, none⟩ = some (.int .i64 (ndA N i).c) ∧ w.cell? ⟨g, i * 6 + 5, none⟩ = some (.int .u64 (ndA N i).v) := by
  rcases h.2 with ⟨_, e2⟩ | ⟨b, cp, cur, e, rest⟩
  · omega
  · cases e
    have hn := ndA_nat hi
    have key : ∀ q, q < 6 → w.cell? ⟨b, i * 6 + q, none⟩ = (ndC (ndA N i))[q]? := fun q hq => by
      rw [h.cellAt (i * 6 + q) (by omega), flat_at N hn hq]
    exact ⟨b, rfl, key 0 (by omega), key 1 (by omega), key 2 (by omega), key 3 (by omega), key 4 (by omega), key 5 (by omega)⟩

theorem own_shape6 {w : World} {base : Nat} {v : Value} {N : List Nd} (h : w.ownsRow base 63 6 v N.length (flat N)) : ∃ ao c, v = .slice ao N.length c ∧ (ao = none → N = [] ∧ c = 0) := by
  rcases h.2 with ⟨rfl, e⟩ | ⟨b, cap, cur, rfl, _⟩
  · exact ⟨none, 0, by rw [e], fun _ => ⟨List.eq_nil_of_length_eq_zero e, rfl⟩⟩
  · exact ⟨_, _, rfl, fun h => by cases h⟩

theorem own_block {w : World} {base : Nat} {v : Value} {n : Nat} {xs : List Value} {E : TypeId} {sz : Nat} (h : w.ownsRow base E sz v n xs) {j : Nat} (hj : v.ownBlock = some j) : ∃ cur, w.heap[j]? = some (.cells cur E (0, 0)) := by
  rcases h.2 with ⟨rfl, _⟩ | ⟨b, cap, cur, rfl, _, hg, _⟩
  · simp [Value.ownBlock] at hj
  · simp [Value.ownBlock] at hj; subst hj; exact ⟨cur, hg⟩

/-! ### the map -/
theorem laidOutS : laidOutB Tryd.prog = true := by kernel_rfl
theorem row32 : (63 : TypeId) < Tryd.prog.types.size := of_decide_eq_true (by kernel_rfl)
theorem wide32 : (match Tryd.prog.underlying 63 with | some (.array _ _) | some (.struct _) => true | _ => false) = true := by kernel_rfl
set_option maxRecDepth 100000 in
theorem law32 : Keyed Tryd.prog 63 := Keyed.of_law (deep_law_laid laidOutS (m := 2) (by omega) row32 (by kernel_rfl) wide32)
theorem zero3 (w : World) : (zeroValue 3).run Tryd.prog w = .ok (.int .i64 0) w := by kernel_rfl
theorem key32 : Tryd.prog.keyType 63 = true := by kernel_rfl
theorem size32 : Tryd.prog.types.size + 1 = 162 := by kernel_rfl
theorem cells32 : Tryd.prog.cellsOf 63 = 6 := by kernel_rfl
theorem cells3 : Tryd.prog.cellsOf 3 = 1 := by kernel_rfl
theorem cells30 : Tryd.prog.cellsOf 42 = 1 := by kernel_rfl

theorem wf64 {x : Int} (h0 : -9223372036854775808 ≤ x) (h1 : x ≤ 9223372036854775807) : (Lit.int .i64 x).wf = true := by
  simp [Lit.wf, IntKind.min, IntKind.max, IntKind.signed, IntKind.bits]; omega
theorem wfu {x : Int} (h0 : 0 ≤ x) (h1 : x < 18446744073709551616) : (Lit.int .u64 x).wf = true := by
  simp [Lit.wf, IntKind.min, IntKind.max, IntKind.signed, IntKind.bits]; omega

theorem lits3 (d : Nat) (x : Int) (h : (Lit.int .i64 x).wf = true) : Tryd.prog.keyLits (d + 1) 3 [.int .i64 x] = some [.int .i64 x] := by
  unfold Program.keyLits
  rw [Tryd.underlying3]
  simp [h]
theorem lits30 (d : Nat) (x : Int) (h : (Lit.int .u64 x).wf = true) : Tryd.prog.keyLits (d + 1) 42 [.int .u64 x] = some [.int .u64 x] := by
  unfold Program.keyLits
  rw [Tryd.underlying42]
  simp [h]

theorem lits32 (d : Nat) (n : Nd) (h : Ft n) : ∃ ls, Tryd.prog.keyLits (d + 1 + 1) 63 (ndC n) = some ls := by
  obtain ⟨h0, h1, h2, h3, h4, h5⟩ := h
  unfold Program.keyLits
  rw [Tryd.underlying63]
  simp [ndC, cells32, cells3, cells30, lits3 d _ (wf64 h0.1 h0.2), lits3 d _ (wf64 h1.1 h1.2), lits3 d _ (wf64 h2.1 h2.2), lits3 d _ (wf64 h3.1 h3.2), lits3 d _ (wf64 h4.1 h4.2), lits30 d _ (wfu h5.1 h5.2)]

theorem node_key (n : Nd) (h : Ft n) : ∃ kl, keyOf Tryd.prog 63 (ndV n) = some kl := by
  have hf : (ndV n).formed Tryd.prog 63 = true := by simp [ndV, Value.formed, Tryd.underlying63, cells32]
  obtain ⟨ls, hl⟩ := lits32 160 n h
  have hl' : Tryd.prog.keyLits (Tryd.prog.types.size + 1) 63 (ndV n).cells.toList = some ls := by
    rw [size32]; exact hl
  unfold keyOf
  rw [Tryd.underlying63]
  dsimp only
  rw [if_pos (by rw [key32, hf]; rfl), hl']
  exact ⟨_, rfl⟩

theorem ndV_inj {n m : Nd} (h : ndV n = ndV m) : n = m := by
  cases n; cases m
  simp [ndV] at h
  simp [h]

def hasB (N : List Nd) (n : Nd) : Bool := decide (fnd N n < N.length)
theorem hasB_iff {N : List Nd} {n : Nd} : hasB N n = true ↔ n ∈ N := by rw [hasB, decide_eq_true_eq, fnd_lt]
theorem hasB_no {N : List Nd} {n : Nd} (h : n ∉ N) : hasB N n = false := by
  cases e : hasB N n
  · rfl
  · exact absurd (hasB_iff.1 e) h

/-- The map in block b tells of each term its number. -/
def MapIs (w : World) (b : Nat) (N : List Nd) : Prop :=
  ∃ D : DataW Unit, w.ownsMap Tryd.prog 63 (plainElem Tryd.prog 3) b N.length D ∧ ∀ n kl, keyOf Tryd.prog 63 (ndV n) = some kl → (Maps.has D kl = true ↔ n ∈ N) ∧ (n ∈ N → D.atKey kl (.lit (.int .i64 0)) = .lit (.int .i64 (fnd N n)))

theorem MapIs.made (w : World) : MapIs (w.alloc (.map #[] 0)) w.heap.size [] :=
  ⟨.map [], World.ownsMap_made _ _ _ _, fun n kl _ => ⟨by simp [Maps.has], fun h => by simp at h⟩⟩

theorem MapIs.lt {w : World} {b : Nat} {N : List Nd} (h : MapIs w b N) : b < w.heap.size := by
  obtain ⟨D, h, _⟩ := h; exact h.lt

theorem MapIs.isMap {w : World} {b : Nat} {N : List Nd} (h : MapIs w b N) : ∃ es clock, w.heap[b]? = some (.map es clock) := by
  obtain ⟨D, ⟨es, clock, hb, _⟩, _⟩ := h; exact ⟨es, clock, hb⟩

theorem MapIs.same {w w' : World} {b : Nat} {N : List Nd} (h : MapIs w b N) (e : w'.heap[b]? = w.heap[b]?) : MapIs w' b N := by
  obtain ⟨D, ⟨es, clock, hb, r⟩, h2⟩ := h
  exact ⟨D, ⟨es, clock, by rw [e]; exact hb, r⟩, h2⟩

theorem MapIs.put {w : World} {b : Nat} {N : List Nd} (h : MapIs w b N) {n : Nd} (hf : Ft n) (hn : n ∉ N) (hl : N.length ≤ 65536) :
    ∃ w', (Instr.mapUpdate 65 (.map (some b)) (ndV n) (.int .i64 N.length)).run Tryd.prog w = .ok () w' ∧ MapIs w' b (N ++ [n]) ∧ w.grownBy w' (some b) := by
  obtain ⟨kl, hkl⟩ := node_key n hf
  obtain ⟨D, h, h2⟩ := h
  have hm := h.isMap
  obtain ⟨w', r1, r2, r3⟩ := h.update law32 Tryd.underlying65 (by unfold maxLen; omega) hkl (plainElem_int (H := Unit) Tryd.underlying3 (wf64 (x := (N.length : Int)) (by omega) (by omega)))
  refine ⟨w', r1, ⟨_, by simpa using r2, fun m km hm2 => ?_⟩, r3⟩
  by_cases e : km = kl
  · subst e
    have := ndV_inj (law32.inj hm2 hkl)
    subst this
    have hik : WideAt.IsKeyLit km := law32.key hkl
    refine ⟨by rw [has_put_same hm hik]; simp, fun _ => ?_⟩
    rw [atKey_put_same hm hik, fnd_snoc_new hn]
  · have hne : m ≠ n := fun c => e (by subst c; rw [hm2] at hkl; exact Option.some.inj hkl)
    rw [has_put_other e, atKey_put_other e]
    obtain ⟨q1, q2⟩ := h2 m km hm2
    refine ⟨by rw [q1]; simp [hne], fun hh => ?_⟩
    have hmN : m ∈ N := by simpa [hne] using hh
    rw [q2 hmN, fnd_snoc_old hmN]

theorem MapIs.look {w : World} {b : Nat} {N : List Nd} (h : MapIs w b N) {n : Nd} (hf : Ft n) :
    ∃ c : Int, (Instr.lookup 65 (.map (some b)) (ndV n) true).run Tryd.prog w = .ok (.tuple #[.int .i64 c, .bool (hasB N n)]) w ∧ (n ∈ N → c = fnd N n) := by
  obtain ⟨kl, hkl⟩ := node_key n hf
  obtain ⟨D, h, h2⟩ := h
  obtain ⟨q1, q2⟩ := h2 n kl hkl
  obtain ⟨v, ps, hr, hv⟩ := h.look_ok law32 Tryd.underlying65 (zero3 w) (plainElem_int (H := Unit) Tryd.underlying3 (wf64 (x := 0) (by omega) (by omega))) hkl
  obtain ⟨c, rfl, hc, _⟩ := plainElem_int_inv Tryd.underlying3 hv
  have e : Maps.has D kl = hasB N n := by rw [Bool.eq_iff_iff, q1, hasB_iff]
  refine ⟨c, by rw [hr, e], fun hn => ?_⟩
  have := congrArg Prod.fst hc
  simp at this
  rw [q2 hn] at this
  simpa using this.symm

theorem look_none {w : World} {n : Nd} (hf : Ft n) : (Instr.lookup 65 (.map none) (ndV n) true).run Tryd.prog w = .ok (.tuple #[.int .i64 0, .bool false]) w := by
  obtain ⟨kl, hkl⟩ := node_key n hf
  exact Maps.look_nil true law32 Tryd.underlying65 (zero3 w) hkl

/-! ### a dag -/
structure K where
  B : Nat
  DB : Nat
  M : Nat

/-- The widths of all variables, as a dag keeps them. -/
def wids (N : List Nd) : List Int := (List.range 256).map fun (i : Nat) => vwF N (i : Int)

def dagC (M : Nat) (nv : Value) (mo : Option Nat) (ws : List Int) : Array Value := (Value.int .i64 M :: nv :: Value.map mo :: ws.map (Value.int .i64)).toArray

structure Raw (k : K) (w : World) (N : List Nd) (ws : List Int) (nv : Value) (mo : Option Nat) (P : Nat → Prop) : Prop where
  lw : ws.length = 256
  cl : w.heap[k.DB]? = some (.cells (dagC k.M nv mo ws) 68 (0, 0))
  hM : k.M ≤ 65536
  len : N.length ≤ k.M
  ow : w.ownsRow 0 63 6 nv N.length (flat N)
  mp : (mo = none ∧ N = []) ∨ ∃ mb, mo = some mb ∧ MapIs w mb N
  pd : P k.DB
  pn : ∀ j, nv.ownBlock = some j → P j
  pm : ∀ j, mo = some j → P j
  bd : ∀ j, P j → k.B ≤ j ∧ j < w.heap.size

/-- A dag of these terms. -/
def Dg (k : K) (w : World) (N : List Nd) (P : Nat → Prop) : Prop := Gd N ∧ ∃ nv mo, Raw k w N (wids N) nv mo P

/-- From w to w' blocks of P alone have changed; P' is of them, or new. -/
structure Fr (P P' : Nat → Prop) (w w' : World) : Prop where
  os : w'.os = w.os
  tape : w'.tape = w.tape
  output : w'.output = w.output
  size : w.heap.size ≤ w'.heap.size
  block : ∀ j, j < w.heap.size → ¬ P j → w'.heap[j]? = w.heap[j]?
  new : ∀ j, P' j → P j ∨ w.heap.size ≤ j

theorem Fr.refl (P : Nat → Prop) (w : World) : Fr P P w w := ⟨rfl, rfl, rfl, Nat.le_refl _, fun _ _ _ => rfl, fun _ h => .inl h⟩
theorem Fr.trans {P P' P'' : Nat → Prop} {w w' w'' : World} (h : Fr P P' w w') (g : Fr P' P'' w' w'') : Fr P P'' w w'' := by
  refine ⟨g.os.trans h.os, g.tape.trans h.tape, g.output.trans h.output, Nat.le_trans h.size g.size, fun j hj hm => ?_, fun j hj => ?_⟩
  · rw [g.block j (Nat.lt_of_lt_of_le hj h.size), h.block j hj hm]
    intro e
    rcases h.new j e with e | e
    · exact hm e
    · omega
  · rcases g.new j hj with e | e
    · exact h.new j e
    · have := h.size; exact .inr (by omega)
theorem Fr.below {P : Nat → Prop} {w w' : World} (b : Below w.heap.size w w') : Fr P P w w' := ⟨b.os, b.tape, b.output, b.size, fun j hj _ => b.block j hj, fun _ h => .inl h⟩
theorem Fr.grown {P : Nat → Prop} {w w' : World} {r : Option Nat} (g : w.grownBy w' r) (hr : ∀ j, r = some j → P j) : Fr P P w w' :=
  ⟨g.os, g.tape, g.output, g.size, fun j hj hm => g.block j hj (fun e => hm (hr j e.symm)), fun _ h => .inl h⟩
theorem Fr.set {P : Nat → Prop} {w : World} {a : Addr} (v : Value) (h : P a.block) : Fr P P w (w.setCell a v) := Fr.grown (grown_set w a v) fun j hj => by cases hj; exact h
theorem Fr.be {P P' : Nat → Prop} {w w' : World} {B : Nat} (f : Fr P P' w w') (hP : ∀ j, P j → B ≤ j) (hB : B ≤ w.heap.size) : Below B w w' :=
  ⟨f.os, f.tape, f.output, f.size, fun j hj => f.block j (by omega) (fun h => by have := hP j h; omega)⟩

section
variable {k : K} {w w' : World} {N : List Nd} {ws : List Int} {nv : Value} {mo : Option Nat} {P : Nat → Prop}

theorem Raw.keep (s : Raw k w N ws nv mo P) {r : Option Nat} (g : w.grownBy w' r) (hr : ∀ j, r = some j → ¬ P j) : Raw k w' N ws nv mo P := by
  refine ⟨s.lw, ?_, s.hM, s.len, own_keep s.ow g fun j hj e => hr j hj (s.pn j e), ?_, s.pd, s.pn, s.pm, fun j hj => ⟨(s.bd j hj).1, Nat.lt_of_lt_of_le (s.bd j hj).2 g.size⟩⟩
  · rw [g.block _ (blk_lt s.cl) (fun e => hr _ e.symm s.pd)]; exact s.cl
  · rcases s.mp with h | ⟨mb, h1, h2⟩
    · exact .inl h
    · exact .inr ⟨mb, h1, h2.same (g.block _ h2.lt (fun e => hr _ e.symm (s.pm _ h1)))⟩
theorem Raw.below (s : Raw k w N ws nv mo P) (b : Below w.heap.size w w') : Raw k w' N ws nv mo P := s.keep (grown_below b) (fun j hj => by cases hj)
theorem Dg.keep (s : Dg k w N P) {r : Option Nat} (g : w.grownBy w' r) (hr : ∀ j, r = some j → ¬ P j) : Dg k w' N P := by
  obtain ⟨h, nv, mo, s⟩ := s; exact ⟨h, nv, mo, s.keep g hr⟩
theorem Dg.below (s : Dg k w N P) (b : Below w.heap.size w w') : Dg k w' N P := by
  obtain ⟨h, nv, mo, s⟩ := s; exact ⟨h, nv, mo, s.below b⟩
theorem Dg.bd (s : Dg k w N P) {j : Nat} (h : P j) : k.B ≤ j ∧ j < w.heap.size := by
  obtain ⟨_, nv, mo, s⟩ := s; exact s.bd j h

theorem Raw.c0 (s : Raw k w N ws nv mo P) : w.cell? ⟨k.DB, 0, none⟩ = some (.int .i64 k.M) := by rw [cell_of s.cl]; rfl
theorem Raw.c1 (s : Raw k w N ws nv mo P) : w.cell? ⟨k.DB, 1, none⟩ = some nv := by rw [cell_of s.cl]; rfl
theorem Raw.c2 (s : Raw k w N ws nv mo P) : w.cell? ⟨k.DB, 2, none⟩ = some (.map mo) := by rw [cell_of s.cl]; rfl
theorem Raw.cw (s : Raw k w N ws nv mo P) {i : Nat} (h : i < 256) : w.cell? ⟨k.DB, 3 + i, none⟩ = some (.int .i64 (ws.getD i 0)) := by
  have hl : i < ws.length := by rw [s.lw]; exact h
  rw [cell_of s.cl]; simp [dagC, show 3 + i = i + 1 + 1 + 1 by omega, hl]
theorem Raw.cf (s : Raw k w N ws nv mo P) (i : Nat) : w.frozen? ⟨k.DB, i, none⟩ = false := frozen_of s.cl

theorem Raw.ne_own (s : Raw k w N ws nv mo P) : nv.ownBlock ≠ some k.DB := by
  intro e
  obtain ⟨cur, h⟩ := own_block s.ow e
  rw [s.cl] at h; simp at h
theorem Raw.ne_map (s : Raw k w N ws nv mo P) : mo ≠ some k.DB := by
  intro e
  rcases s.mp with ⟨h, _⟩ | ⟨mb, h1, h2⟩
  · rw [h] at e; cases e
  · rw [h1] at e; cases e
    obtain ⟨es, c, h⟩ := h2.isMap
    rw [s.cl] at h; simp at h
theorem Raw.ne_both (s : Raw k w N ws nv mo P) {j : Nat} (h : mo = some j) : nv.ownBlock ≠ some j := by
  intro e
  obtain ⟨cur, h3⟩ := own_block s.ow e
  rcases s.mp with ⟨h1, _⟩ | ⟨mb, h1, h2⟩
  · rw [h1] at h; cases h
  · rw [h1] at h; cases h
    obtain ⟨es, c, h⟩ := h2.isMap
    rw [h3] at h; simp at h
end

theorem wids_len (N : List Nd) : (wids N).length = 256 := by simp [wids]
theorem wids_at (N : List Nd) {i : Nat} (h : i < 256) : (wids N).getD i 0 = vwF N i := by simp [wids, h]
theorem wids_other {N : List Nd} {M : Nat} {n : Nd} (h : n.op ≠ 21) : wids (mkN M N n) = wids N := by
  unfold wids; apply List.map_congr_left; intro i _; exact mkN_other h _
theorem dagC_set (M : Nat) (nv : Value) (mo : Option Nat) (ws : List Int) (i : Nat) (x : Int) : (dagC M nv mo ws).setIfInBounds (3 + i) (.int .i64 x) = dagC M nv mo (ws.set i x) := by
  apply Array.toList_inj.1
  simp [dagC, show 3 + i = i + 1 + 1 + 1 by omega, List.map_set]

end Go.Proofs.YtefielnmlekhaaaDoor
