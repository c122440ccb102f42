/-
  All that wait are taken, one behind the other.
-/
import Derived.Test.YtbddhjohlpblaaaPlay
namespace Go.Proofs.Ytbddhjohlpblaaa
open Go.RowKit
set_option linter.unusedVariables false

theorem count_none {W : List Bool} (h : ∀ u : Nat, u < W.length → wt W u = false) : W.count true = 0 := by
  rw [List.count_eq_zero]
  intro hm
  obtain ⟨i, hi, e⟩ := List.mem_iff_getElem.1 hm
  have := h i hi
  simp [wt, hi, e] at this

theorem first_of {A : List Int} {W : List Bool} (hl : W.length = A.length) (hc : 0 < W.count true) : ∃ x : Nat, First A W A.length x := by
  rcases bestF_is A W A.length with ⟨_, h⟩ | ⟨v, _, h⟩
  · have := count_none (W := W) (fun u hu => h u (by omega))
    omega
  · exact ⟨v, h⟩

theorem none_of {A : List Int} {W : List Bool} (hl : W.length = A.length) (hc : W.count true = 0) : ∀ u : Nat, u < A.length → wt W u = false := by
  intro u hu
  cases h : wt W u
  · rfl
  · exfalso
    have e : W[u]? = some true := by rw [wt_at (by omega), h]
    have := List.count_pos_iff.2 (List.mem_of_getElem? e)
    omega

/-- The one that was taken last comes ahead of all that wait. -/
def Lst (A : List Int) (W : List Bool) (last : Int) : Prop := last = -1 ∨ ∃ u : Nat, last = u ∧ u < A.length ∧ ∀ x : Nat, x < A.length → wt W x = true → ahd (ac A) u x = true

theorem Lst.next {A : List Int} {W : List Bool} {x : Nat} (hl : W.length = A.length) (h : First A W A.length x) : Lst A (W.set x false) x := by
  have hx : x < W.length := by have := h.1; omega
  refine .inr ⟨x, rfl, h.1, fun y hy hw => ?_⟩
  rw [wt_set hx] at hw
  by_cases e : y = x
  · rw [if_pos e] at hw; cases hw
  · rw [if_neg e] at hw; exact h.2.2 y hy hw e

structure Fl (k : K) (w : World) (m q : Nat) (A : List Int) (W : List Bool) (wv : Value) (last : Int) (wr : World) : Prop where
  o : Ord k wr A W wv
  be : Below w.heap.size w wr
  kb : k.B = w.heap.size
  la : A.length = k.n
  lw : W.length = k.n
  cn : W.count true + q = m
  ls : Lst A W last

theorem Ord.la {k : K} {w : World} {A : List Int} {W : List Bool} {wv : Value} (o : Ord k w A W wv) : A.length = k.n ∧ W.length = k.n ∧ k.n ≤ 1048576 := by
  obtain ⟨hs, ⟨P, s, p⟩, hp, g⟩ := o; exact ⟨s.la, g.lw, s.hn⟩

theorem Ord.be {k : K} {w w1 w' : World} {A : List Int} {W : List Bool} {wv wv' : Value} (o : Ord k w1 A W wv) (f : Fr k wv wv' w1 w') (hB : k.B = w.heap.size) (b : Below w.heap.size w w1) : Below w.heap.size w w' := Fr.from o f hB b

theorem Fl.first {k : K} {w wr : World} {m q : Nat} {A : List Int} {W : List Bool} {wv : Value} {last : Int} (f : Fl k w m q A W wv last wr) (h : q < m) : ∃ x : Nat, First A W A.length x := first_of (by rw [f.la, f.lw]) (by have := f.cn; omega)

theorem Fl.next {k : K} {w wr w' : World} {m q x : Nat} {A : List Int} {W : List Bool} {wv wv' : Value} {last : Int} (f : Fl k w m q A W wv last wr) (h : First A W A.length x) (o : Ord k w' A (W.set x false) wv') (fr : Fr k wv wv' wr w') : Fl k w m (q + 1) A (W.set x false) wv' x w' := by
  have hx : x < W.length := by have := h.1; have := f.la; have := f.lw; omega
  have := count_false hx h.2.1
  have := f.cn
  exact ⟨o, f.o.be fr f.kb f.be, f.kb, f.la, by rw [List.length_set]; exact f.lw, by omega, Lst.next (by rw [f.la, f.lw]) h⟩

/-- What the walk asks of the one that was taken, and of the last. -/
theorem Lst.falls {A : List Int} {W : List Bool} {u x : Nat} (h : Lst A W u) (hf : First A W A.length x) : fn A x < fn A u ∨ (fn A x = fn A u ∧ u < x) := by
  rcases h with h | ⟨u', e, _, h⟩
  · omega
  · have e' : u = u' := by omega
    subst e'
    have := h x hf.1 hf.2.1
    rw [ahd_yes] at this
    simp only [ac, Int.toNat_natCast] at this
    omega

theorem Lst.cases {A : List Int} {W : List Bool} {last : Int} (h : Lst A W last) : last = -1 ∨ ∃ u : Nat, last = u ∧ u < A.length := by
  rcases h with h | ⟨u, e, hu, _⟩
  · exact .inl h
  · exact .inr ⟨u, e, hu⟩

/-- Before the first is taken: deeds are done, each beside a new order of the document's. -/
structure Fd (k : K) (w : World) (A : List Int) (W : List Bool) (wv : Value) (wr : World) : Prop where
  o : Ord k wr A W wv
  be : Below w.heap.size w wr
  kb : k.B = w.heap.size

theorem Fd.start {k : K} {w wr : World} {A : List Int} {W : List Bool} {wv : Value} (f : Fd k w A W wv wr) : Fl k w (W.count true) 0 A W wv (-1) wr := by
  obtain ⟨h1, h2, _⟩ := f.o.la
  exact ⟨f.o, f.be, f.kb, h1, h2, rfl, .inl rfl⟩

theorem Fd.below {k : K} {w wr wq : World} {A : List Int} {W : List Bool} {wv : Value} (f : Fd k w A W wv wr) (b : Below wr.heap.size wr wq) : Fd k w A W wv wq := ⟨f.o.below b, Below.next f.be b, f.kb⟩

theorem Fd.doin {k : K} {w wr w2 : World} {m : Nat} {A : List Int} {W : List Bool} {wv av bv : Value} (f : Fd k w A W wv wr) (hn : k.n = m) (r : RnEnd m wr av bv w2) : DoIn k w2 A W wv av bv (zeros m) (nones m) := by
  obtain ⟨ro, h1, h2, b⟩ := r
  obtain ⟨l1, _, l3⟩ := f.o.la
  refine ⟨f.o.below b, ro, fun j hj hM => ?_, fun j hj hM => ?_, l1, by rw [zeros_len, hn], by rw [nones_len, hn], l3, fun u hu => by rw [fn_zeros]; omega⟩
  · have := h1 j hj; have := (f.o.lt hM).2; omega
  · have := h2 j hj; have := (f.o.lt hM).2; omega

theorem Fd.next {k : K} {w wr w2 w5 : World} {A A2 : List Int} {W W2 : List Bool} {wv av' bv' : Value} {kd v t : Int} (f : Fd k w A W wv wr) (b : Below wr.heap.size wr w2) (e : DoEnd k w2 wv A W A2 W2 kd v t av' bv' w5) : ∃ A' W' wv', Fd k w A' W' wv' w5 := by
  obtain ⟨wv', d, fr⟩ := e
  exact ⟨_, _, wv', d.o, (f.o.below b).be fr f.kb (Below.next f.be b), f.kb⟩

theorem RnEnd.be {m : Nat} {w w2 : World} {av bv : Value} (r : RnEnd m w.drew av bv w2) : Below w.heap.size w w2 := Below.next (below_drew w) r.2.2.2

theorem Fd.after {k : K} {w wr w2 w5 : World} {m : Nat} {A A2 : List Int} {W W2 : List Bool} {wv av bv av' bv' : Value} {kd v t : Int} (f : Fd k w A W wv wr) (r : RnEnd m wr.drew av bv w2) (e : DoEnd k w2 wv A W A2 W2 kd v t av' bv' w5) : ∃ A' W' wv', Fd k w A' W' wv' w5 := f.next r.be e

end Go.Proofs.Ytbddhjohlpblaaa
