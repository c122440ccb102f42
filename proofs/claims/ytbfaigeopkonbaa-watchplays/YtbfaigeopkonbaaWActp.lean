/-
  A deed: what becomes of all.
-/
import Derived.Test.YtbfaigeopkonbaaWTrail
namespace Go.Proofs.Ytbfaigeopkonbaa
open Go.RowKit Go.Maps
set_option linter.unusedVariables false

theorem Told.same {k : K} {p : V} {w w' : World} {v : Value} {xs : List Int} (h : Told k p w v xs) (hb : ∀ j, Typ w j 3 → w'.heap[j]? = w.heap[j]?) : Told k p w' v xs := by
  obtain ⟨ao, n, c, h1, h2, h3, h4, h5, h5', h6, h7⟩ := h
  refine ⟨ao, n, c, h1, h2, h3, h4, h5, h5', h6, fun j x hx => ?_⟩
  obtain ⟨b, q1, q2, q3, q4⟩ := h7 j x hx
  exact ⟨b, q1, (World.cell?_of_block (hb b q3)).trans q2, q3.same (hb b q3), q4⟩

section
variable {k : K} {kw : WK} {w w1 w' : World} {g : G} {L : List E} {lev : Nat} {p p' : V} {H : List Int}

/-- A box of the law has changed. -/
theorem Wa.other (W : Wa k kw w g L lev p H) {r : Nat} {T : TypeId} (gr : w.grownBy w' (some r)) (hr : Typ w r T) (hT : T = 32 ∨ T = 38) : Wa k kw w' g L lev p H := by
  have key : ∀ j T', Typ w j T' → T' ≠ 32 → T' ≠ 38 → w'.heap[j]? = w.heap[j]? := fun j T' t n1 n2 => gr.block j t.lt (fun e => by
    cases e
    have := t.one hr
    rcases hT with h | h
    · exact n1 (this.trans h)
    · exact n2 (this.trans h))
  have tr : Trl k w' L lev p := W.j.t.keep gr (fun j hj m => by
    cases hj
    obtain ⟨T', h1, _, _, h2, h3⟩ := W.j.t.mine36 m
    have := h1.one hr
    rcases hT with h | h
    · exact h2 (this.trans h)
    · exact h3 (this.trans h))
  have st : St kw w' g := W.j.s.same (fun j T' t hw => key j T' t (by rintro rfl; simp [Wt] at hw) (by rintro rfl; simp [Wt] at hw)) (fun j es clock e => gr.block j (blk_lt e) (fun e2 => by
    cases e2; obtain ⟨c, f, q⟩ := hr; rw [e] at q; cases q)) (fun i j _ _ _ _ t => key j 3 t (by decide) (by decide))
  exact ⟨⟨tr, st, W.j.n, W.j.b, W.j.aw⟩, W.iv, W.ht.same (fun j t => key j 3 t (by decide) (by decide)), W.hf, W.hH, W.hl, W.rs⟩

theorem Wa.put3 (W : Wa k kw w g L lev p H) {r : Nat} {c : Array Value} {T : TypeId} {fz : Nat × Nat} (hr : w.heap[r]? = some (.cells c T fz)) (hT : T = 32 ∨ T = 38) (x y z : Value) : Wa k kw (((w.setCell ⟨r, 0, none⟩ x).setCell ⟨r, 1, none⟩ y).setCell ⟨r, 2, none⟩ z) g L lev p H :=
  W.other (grown3 w r 0 1 2 x y z) ⟨_, _, hr⟩ hT

/-- What lies above is no matter. -/
theorem FT.put {B : Nat} (f : FT k B p p' w w1) {r : Nat} (hr : w.heap.size ≤ r) (gr : w1.grownBy w' (some r)) (hn : ∀ j T, Typ w1 j T → j < w.heap.size → Typ w' j T) : FT k B p p' w w' := by
  have key : ∀ j, j < w.heap.size → w'.heap[j]? = w1.heap[j]? := fun j hj => gr.block j (Nat.lt_of_lt_of_le hj f.size) (fun e => by have := Option.some.inj e; omega)
  refine ⟨gr.os.trans f.os, gr.tape.trans f.tape, gr.output.trans f.output, Nat.le_trans f.size gr.size, fun j T t h1 h2 => (key j t.lt).trans (f.block j T t h1 h2), fun j h1 h2 => (key j h2).trans (f.old j h1 h2), f.new, fun b i T t h1 h2 => ?_⟩
  obtain ⟨q1, q2, q3⟩ := f.safe b i T t h1 h2
  exact ⟨(World.cell?_of_block (key b t.lt)).trans q1, q2.same (key b t.lt), q3⟩

theorem FT.put3 {B : Nat} (f : FT k B p p' w w1) {r : Nat} (hr : w.heap.size ≤ r) (x y z : Value) : FT k B p p' w (((w1.setCell ⟨r, 0, none⟩ x).setCell ⟨r, 1, none⟩ y).setCell ⟨r, 2, none⟩ z) :=
  f.put hr (grown3 w1 r 0 1 2 x y z) (fun j T t hj => t.same ((grown3 w1 r 0 1 2 x y z).block j t.lt (fun e => by have := Option.some.inj e; omega)))
end

theorem Match.add {n : Nat} {g g' : G} {xss : List (List Int)} {ths : List Bool} {xs : List Int} (m : Match g xss ths) (d : AddD n g g' xs) : Match g' (xss ++ [xs]) (ths ++ [true]) := by
  have h1 := m.nx
  have h2 := m.tl
  refine ⟨by rw [d.nx, List.length_append, h1]; rfl, by rw [d.nx, List.length_append, h2]; rfl, fun i hi => ?_, fun i hi hg => ?_⟩
  · rw [d.nx] at hi
    rw [d.gn]
    by_cases e : i = g.nx
    · subst e
      rw [up_same, ← h2]; simp
    · rw [up_ne _ _ e, ← m.th i (by omega)]
      rw [List.getD_eq_getElem?_getD, List.getD_eq_getElem?_getD, List.getElem?_append_left (by omega)]
  · rw [d.nx] at hi
    rw [d.gn] at hg
    rw [d.lt]
    by_cases e : i = g.nx
    · subst e
      rw [up_same, ← h1]; simp
    · rw [up_ne _ _ e] at hg ⊢
      rw [← m.lt i (by omega) hg]
      rw [List.getD_eq_getElem?_getD, List.getD_eq_getElem?_getD, List.getElem?_append_left (by omega)]

theorem Match.rem {n i : Nat} {g g' : G} {xss : List (List Int)} {ths : List Bool} (m : Match g xss ths) (d : RemD n g g' i) (hi : i < g.nx) : Match g' xss (ths.set i false) := by
  have h2 := m.tl
  refine ⟨by rw [d.nx]; exact m.nx, by rw [d.nx, List.length_set]; exact m.tl, fun j hj => ?_, fun j hj hg => ?_⟩
  · rw [d.nx] at hj
    rw [d.gn]
    by_cases e : j = i
    · subst e
      rw [up_same, List.getD_eq_getElem?_getD, List.getElem?_set_self (by omega)]; rfl
    · rw [up_ne _ _ e, ← m.th j hj, List.getD_eq_getElem?_getD, List.getD_eq_getElem?_getD, List.getElem?_set_ne (fun c => e c.symm)]
  · rw [d.nx] at hj
    rw [d.gn] at hg
    have e : j ≠ i := by rintro rfl; rw [up_same] at hg; cases hg
    rw [up_ne _ _ e] at hg
    rw [d.lt]; exact m.lt j hj hg

/-- What is so behind a deed. -/
structure ActE (k : K) (kw : WK) (w0 : World) (g : G) (p : V) (H : List Int) (xss : List (List Int)) (ths : List Bool) (kd : Int) (w : World) (g' : G) (L' : List E) (lev' : Nat) (p' : V) (la' ta' : Value) (xss' : List (List Int)) (ths' : List Bool) (b : Bool) (w' : World) : Prop where
  wa : Wa k kw w' g' L' lev' p' H
  rw : RW w0 w' la' ta' xss' ths'
  ft : FT k kw.B p p' w w'
  nx : g.nx ≤ g'.nx ∧ g'.nx ≤ g.nx + 1 ∧ g'.rm ≤ g.rm + 1 ∧ tot kw.n g' ≤ tot kw.n g + 1
  xl : xss'.length ≤ xss.length + 1
  mt : Match g xss ths → Match g' xss' ths' ∧ b = true
  kp : kd ≠ 1 → ∀ i, i < g.nx → g'.lt i = g.lt i ∧ g'.gn i = g.gn i

/-- Three boxes. -/
theorem three_boxes {w w5 : World} {x y z : Obj} (b : Below (((w.alloc x).alloc y).alloc z).heap.size (((w.alloc x).alloc y).alloc z) w5) : w5.heap[w.heap.size]? = some x ∧ w5.heap[w.heap.size + 1]? = some y ∧ w5.heap[w.heap.size + 1 + 1]? = some z ∧ Below w.heap.size w w5 := by
  obtain ⟨a1, a2, a3⟩ := three w x y z
  have e1 : (w.alloc x).heap.size = w.heap.size + 1 := by simp
  have e2 : ((w.alloc x).alloc y).heap.size = w.heap.size + 1 + 1 := by simp
  have e3 : (((w.alloc x).alloc y).alloc z).heap.size = w.heap.size + 1 + 1 + 1 := by simp
  rw [e3] at b
  refine ⟨?_, ?_, ?_, Below.trans (b := ((w.alloc x).alloc y).alloc z) (by go_grown) (b.mono (by omega))⟩
  · rw [b.block _ (by omega)]; exact a1
  · rw [b.block _ (by omega)]; exact a2
  · rw [b.block _ (by omega)]; exact a3

end Go.Proofs.Ytbfaigeopkonbaa
