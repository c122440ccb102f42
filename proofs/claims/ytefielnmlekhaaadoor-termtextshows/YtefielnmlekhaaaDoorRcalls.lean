/-
  The document's calls: what lies in memory between them.
-/
import Derived.Test.YtefielnmlekhaaaDoorRmade
import Derived.Test.YtefielnmlekhaaaDoorMkA
namespace Go.Proofs.YtefielnmlekhaaaDoor
open Go.RowKit Go.Maps
set_option linter.unusedVariables false
set_option maxRecDepth 100000

/-- Inside a call of the document's: the boxes of the terms and of the result. -/
structure RE (w0 : World) (ao : Option Addr) (c M : Nat) (N : List Nd) (wr : World) : Prop where
  be : Below w0.heap.size w0 wr
  sz : w0.heap.size + 1 < wr.heap.size
  b0 : wr.heap[w0.heap.size]? = some (.cells #[.slice ao N.length c, .int .i64 M] 27 (0, 0))
  b1 : wr.heap[w0.heap.size + 1]? = some (.cells #[.slice none 0 0, .int .i64 0] 27 (0, 0))
  rd : RD wr ao c N

/-- What the walk is told of it. -/
structure RC (w0 : World) (ao : Option Addr) (c M : Nat) (N : List Nd) (wr : World) : Prop where
  c0 : wr.cell? ⟨w0.heap.size, 0, none⟩ = some (.slice ao N.length c)
  c1 : wr.cell? ⟨w0.heap.size, 1, none⟩ = some (.int .i64 M)
  r0 : wr.cell? ⟨w0.heap.size + 1, 0, none⟩ = some (.slice none 0 0)
  r1 : wr.cell? ⟨w0.heap.size + 1, 1, none⟩ = some (.int .i64 0)
  f0 : wr.frozen? ⟨w0.heap.size + 1, 0, none⟩ = false
  f1 : wr.frozen? ⟨w0.heap.size + 1, 1, none⟩ = false

section
variable {w0 wr wr' : World} {ao : Option Addr} {c M : Nat} {N : List Nd}
theorem RE.below (h : RE w0 ao c M N wr) (b : Below wr.heap.size wr wr') : RE w0 ao c M N wr' :=
  ⟨Below.next h.be b, by have := b.size; have := h.sz; omega, by rw [b.block _ (blk_lt h.b0)]; exact h.b0, by rw [b.block _ (blk_lt h.b1)]; exact h.b1, h.rd.below b⟩
theorem RE.cells (h : RE w0 ao c M N wr) : RC w0 ao c M N wr :=
  ⟨(two_of h.b0).1, (two_of h.b0).2, (two_of h.b1).1, (two_of h.b1).2, frozen_of h.b1, frozen_of h.b1⟩
theorem RE.drew (h : RE w0 ao c M N wr) : RE w0 ao c M N wr.drew := h.below (below_drew wr)
theorem RE.start (s : RD w0 ao c N) : RE w0 ao c M N ((w0.alloc (.cells #[.slice ao N.length c, .int .i64 M] 27)).alloc (.cells #[.slice none 0 0, .int .i64 0] 27)) := by
  have b : Below w0.heap.size w0 ((w0.alloc (.cells #[.slice ao N.length c, .int .i64 M] 27)).alloc (.cells #[.slice none 0 0, .int .i64 0] 27)) := by go_grown
  refine ⟨b, by simp, ?_, ?_, s.below b⟩
  · rw [new_other _ (by simp), new_same]
  · exact new_at' _ _ (by simp)
end

def RcEnd (w : World) (ao : Option Addr) (M : Nat) (N : List Nd) (p : Plan) (e : Ending) (w' : World) : Prop := ∃ ao' c', e = .returned (.tuple #[.agg #[.slice ao' (resN M N p).length c', .int .i64 M], .int .i64 (resI M N p), .int .i64 (resE M N p)]) ∧ Hid (RDF w ao w' ao' c' (resN M N p)) ∧ Hid (Below w.heap.size w w')

theorem rc_tells {ao : Option Addr} {M : Nat} {N : List Nd} {p q : Plan} {w : World} {f : FuncId} {args : Array Value} (hp : p = q) (h : Calls Tryd.prog f args w fun e w' => RcEnd w ao M N q e w') : Calls Tryd.prog f args w fun e w' => RcEnd w ao M N p e w' := by rw [hp]; exact h

theorem rc_no {w wr : World} {ao : Option Addr} {c M : Nat} {N : List Nd} {i e : Int} (s : RE w ao c M N wr) : RcEnd w ao M N (.inl (i, e)) (.returned (.tuple #[.agg #[.slice ao N.length c, .int .i64 M], .int .i64 i, .int .i64 e])) ((wr.setCell ⟨w.heap.size + 1, 0, none⟩ (.slice ao N.length c)).setCell ⟨w.heap.size + 1, 1, none⟩ (.int .i64 M)) :=
  ⟨ao, c, rfl, hid ⟨res_keep s.b1 s.rd, Fresh.same _ _⟩, hid (res_below s.be (by omega))⟩

theorem rc_yes {w wr w' : World} {ao ao' : Option Addr} {c c' M : Nat} {N : List Nd} {n : Nd} {x y : Value} (s : RE w ao c M N wr) (hr : Hid (RDF wr ao w' ao' c' (mkN M N n))) (b : Hid (Below wr.heap.size wr w')) :
    RcEnd w ao M N (.inr n) (.returned (.tuple #[.agg #[.slice ao' (mkN M N n).length c', .int .i64 M], .int .i64 (mkI M N n), .int .i64 (mkE M N n)])) ((w'.setCell ⟨w.heap.size + 1, 0, none⟩ x).setCell ⟨w.heap.size + 1, 1, none⟩ y) :=
  ⟨ao', c', rfl, hid ⟨res_keep (s.below b.out).b1 hr.out.1, hr.out.2.from s.be.size⟩, hid (res_below (s.below b.out).be (by omega))⟩

theorem ris_at {w wr : World} {ao : Option Addr} {c M : Nat} {N : List Nd} (s : RE w ao c M N wr) (id : Int) {b : Bool} (hb : isN N id = b) : Calls Tryd.prog 22 #[.agg #[.slice ao N.length c, .int .i64 M], .int .i64 id] wr fun e w' => e = .returned (.bool b) ∧ Hid (RE w ao c M N w') ∧ RC w ao c M N w' := by
  refine (ris_is id hb).mono fun e w' h => ?_
  have s2 := s.below h.2.out
  exact ⟨h.1, hid s2, s2.cells⟩
theorem rwidth_at {w wr : World} {ao : Option Addr} {c M : Nat} {N : List Nd} (s : RE w ao c M N wr) (id : Int) {x : Int} (hx : wdF N id = x) : Calls Tryd.prog 55 #[.agg #[.slice ao N.length c, .int .i64 M], .int .i64 id] wr fun e w' => e = .returned (.int .i64 x) ∧ Hid (RE w ao c M N w') ∧ RC w ao c M N w' := by
  refine (rwidth_is s.rd id hx).mono fun e w' h => ?_
  have s2 := s.below h.2.out
  exact ⟨h.1, hid s2, s2.cells⟩
theorem rmade_at {w wr : World} {ao : Option Addr} {c M : Nat} {N : List Nd} (s : RE w ao c M N wr) (op wd a b d v : Int) (hN : N.length ≤ 65536) :
    Calls Tryd.prog 53 #[.agg #[.slice ao N.length c, .int .i64 M], .agg #[.int .i64 op, .int .i64 wd, .int .i64 a, .int .i64 b, .int .i64 d, .int .u64 v]] wr fun e w' => ∃ ao' c',
      e = .returned (.tuple #[.agg #[.slice ao' (mkN M N ⟨op, wd, a, b, d, v⟩).length c', .int .i64 M], .int .i64 (mkI M N ⟨op, wd, a, b, d, v⟩), .int .i64 (mkE M N ⟨op, wd, a, b, d, v⟩)]) ∧ Hid (RDF wr ao w' ao' c' (mkN M N ⟨op, wd, a, b, d, v⟩)) ∧ Hid (Below wr.heap.size wr w') ∧ RC w ao c M N w' := by
  refine (rmade_any s.rd ⟨op, wd, a, b, d, v⟩ hN).mono fun e w' h => ?_
  obtain ⟨ao', c', rfl, h1, h2⟩ := h
  exact ⟨ao', c', rfl, h1, h2, (s.below h2.out).cells⟩

end Go.Proofs.YtefielnmlekhaaaDoor
