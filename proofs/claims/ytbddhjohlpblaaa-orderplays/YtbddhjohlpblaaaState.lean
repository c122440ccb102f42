/-
  What an order is, as a list of activities and one of who waits; what the calls make of it.
-/
import Derived.Test.YtbddhjohlpblaaaSink
import Derived.Maps.AppendAt
namespace Go.Proofs.Ytbddhjohlpblaaa
open Go.RowKit
set_option linter.unusedVariables false

def wt (W : List Bool) (v : Int) : Bool := W.getD v.toNat false

structure Good (n : Nat) (A : List Int) (W : List Bool) (hs : List Int) : Prop where
  lw : W.length = n
  wr : ∀ v : Nat, v < n → (wt W v = true ↔ In hs.length (fn hs) v)
  cn : W.count true = hs.length
  bd : ∀ v : Nat, v < n → 0 ≤ fn A v ∧ fn A v ≤ 1099511627776

def Ord (k : K) (w : World) (A : List Int) (W : List Bool) (wv : Value) : Prop := ∃ hs, Gd k w A hs wv ∧ Heap (ac A) hs.length (fn hs) 0 ∧ Good k.n A W hs

theorem Ord.below {k : K} {w w' : World} {A : List Int} {W : List Bool} {wv : Value} (s : Ord k w A W wv) (b : Below w.heap.size w w') : Ord k w' A W wv := by
  obtain ⟨hs, g, r⟩ := s; exact ⟨hs, g.below b, r⟩

/-! ### Who waits, by lists -/
theorem wt_nat (W : List Bool) (v : Nat) : wt W (v : Int) = W.getD v false := rfl

theorem wt_set {W : List Bool} {v : Nat} (h : v < W.length) (b : Bool) (u : Nat) : wt (W.set v b) (u : Int) = if u = v then b else wt W u := by
  simp only [wt, Int.toNat_natCast, List.getD_eq_getElem?_getD, List.getElem?_set]
  by_cases e : v = u
  · subst e; simp [h]
  · rw [if_neg e, if_neg (fun q => e q.symm)]

theorem count_true {W : List Bool} {v : Nat} (h : v < W.length) (h0 : wt W v = false) : (W.set v true).count true = W.count true + 1 := by
  have e : W[v] = false := by simpa [wt, h] using h0
  rw [List.count_set h]
  simp [e]

theorem count_false {W : List Bool} {v : Nat} (h : v < W.length) (h0 : wt W v = true) : (W.set v false).count true + 1 = W.count true := by
  have e : W[v] = true := by simpa [wt, h] using h0
  have : 0 < W.count true := List.count_pos_iff.2 (e ▸ List.getElem_mem h)
  rw [List.count_set h]
  simp [e]
  omega

theorem Good.push {n : Nat} {A hs hs' : List Int} {W : List Bool} (g : Good n A W hs) {v : Nat} (hv : v < n) (h0 : wt W v = false) (hl : hs'.length = hs.length + 1) (hh : ∀ x, In hs'.length (fn hs') x ↔ In hs.length (fn hs) x ∨ x = v) :
    Good n A (W.set v true) hs' := by
  have hw : v < W.length := by rw [g.lw]; exact hv
  refine ⟨by rw [List.length_set]; exact g.lw, fun u hu => ?_, ?_, g.bd⟩
  · rw [wt_set hw, hh]
    by_cases e : u = v
    · subst e; simp
    · rw [if_neg e, g.wr u hu]
      constructor
      · exact .inl
      · rintro (h | h)
        · exact h
        · omega
  · rw [count_true hw h0, g.cn, hl]

theorem Good.pop {n : Nat} {A hs hs' : List Int} {W : List Bool} (g : Good n A W hs) {v : Nat} (hv : v < n) (h0 : wt W v = true) (hl : hs'.length + 1 = hs.length) (hh : ∀ x, In hs'.length (fn hs') x ↔ In hs.length (fn hs) x ∧ x ≠ v) :
    Good n A (W.set v false) hs' := by
  have hw : v < W.length := by rw [g.lw]; exact hv
  refine ⟨by rw [List.length_set]; exact g.lw, fun u hu => ?_, ?_, g.bd⟩
  · rw [wt_set hw, hh]
    by_cases e : u = v
    · subst e; simp
    · rw [if_neg e, g.wr u hu]
      constructor
      · exact fun h => ⟨h, by omega⟩
      · exact fun h => h.1
  · have := count_false hw h0
    have := g.cn
    omega

theorem Good.same {n : Nat} {A A' hs hs' : List Int} {W : List Bool} (g : Good n A W hs) (hl : hs'.length = hs.length) (hh : ∀ x, In hs.length (fn hs') x ↔ In hs.length (fn hs) x) (hb : ∀ v : Nat, v < n → 0 ≤ fn A' v ∧ fn A' v ≤ 1099511627776) : Good n A' W hs' :=
  ⟨g.lw, fun u hu => by rw [hl, hh]; exact g.wr u hu, by rw [hl]; exact g.cn, hb⟩

/-- The place of one that waits, or not. -/
theorem pl_in {n m : Nat} {h p : Nat → Int} (s : Pl n m h p) {v : Nat} (hv : v < n) : In m h v ↔ 0 < p v := by
  constructor
  · rintro ⟨i, hi, e⟩
    have := (s.1 i hi).2.2
    rw [e, Int.toNat_natCast] at this
    omega
  · intro h0
    exact s.2 v hv (by omega)

theorem pl_out {n m : Nat} {h p : Nat → Int} (s : Pl n m h p) {v : Nat} (hv : v < n) (hn : ¬ In m h v) : p v = 0 :=
  Classical.byContradiction fun c => hn (s.2 v hv c)

/-! ### What the calls make -/
def pushA (n : Nat) (W : List Bool) (v : Int) : Bool := isF n v && !wt W v
def pushW (n : Nat) (W : List Bool) (v : Int) : List Bool := if pushA n W v then W.set v.toNat true else W

def bestF (A : List Int) (W : List Bool) : Nat → Int
  | 0 => -1
  | q + 1 => if wt W q && (decide (bestF A W q < 0) || decide (ac A (bestF A W q) < ac A q)) then (q : Int) else bestF A W q

def popV (A : List Int) (W : List Bool) : Int := bestF A W A.length
def popA (A : List Int) (W : List Bool) : Bool := decide (0 ≤ popV A W)
def popW (A : List Int) (W : List Bool) : List Bool := if popA A W then W.set (popV A W).toNat false else W

def bumpF (A : List Int) (v d : Int) : List Int := if isF A.length v then A.set v.toNat (sumF (ac A v) d) else A
def halveF (A : List Int) : List Int := A.map (· / 2)

/-- The one that waits, and that comes ahead of all others that wait. -/
def First (A : List Int) (W : List Bool) (q : Nat) (v : Nat) : Prop := v < q ∧ wt W v = true ∧ ∀ u : Nat, u < q → wt W u = true → u ≠ v → ahd (ac A) v u = true

theorem bestF_is (A : List Int) (W : List Bool) (q : Nat) : (bestF A W q = -1 ∧ ∀ u : Nat, u < q → wt W u = false) ∨ ∃ v : Nat, bestF A W q = v ∧ First A W q v := by
  induction q with
  | zero => exact .inl ⟨rfl, fun u hu => by omega⟩
  | succ q ih =>
    rcases ih with ⟨e, h⟩ | ⟨v, e, h⟩
    · cases hw : wt W q
      · refine .inl ⟨by simp [bestF, hw, e], fun u hu => ?_⟩
        by_cases c : u = q
        · subst c; exact hw
        · exact h u (by omega)
      · refine .inr ⟨q, by simp [bestF, hw, e], by omega, hw, fun u hu hu2 hne => ?_⟩
        rw [h u (by omega)] at hu2
        cases hu2
    · cases hw : wt W q
      · refine .inr ⟨v, by simp [bestF, hw, e], by have := h.1; omega, h.2.1, fun u hu hu2 hne => ?_⟩
        by_cases c : u = q
        · subst c; rw [hw] at hu2; cases hu2
        · exact h.2.2 u (by omega) hu2 hne
      · have hv := h.1
        by_cases hlt : ac A v < ac A q
        · refine .inr ⟨q, by simp [bestF, hw, e, hlt], by omega, hw, fun u hu hu2 hne => ?_⟩
          rw [ahd_yes]
          by_cases c : u = v
          · subst c; omega
          · have := h.2.2 u (by omega) hu2 c
            rw [ahd_yes] at this
            omega
        · refine .inr ⟨v, ?_, by omega, h.2.1, fun u hu hu2 hne => ?_⟩
          · simp only [bestF, hw, e]
            rw [if_neg]
            simp
            omega
          · by_cases c : u = q
            · subst c; rw [ahd_yes]; omega
            · exact h.2.2 u (by omega) hu2 hne

theorem first_one {A : List Int} {W : List Bool} {q u v : Nat} (h : First A W q u) (g : First A W q v) : u = v := by
  by_cases e : u = v
  · exact e
  · have h1 := h.2.2 v g.1 g.2.1 (fun c => e c.symm)
    have h2 := g.2.2 u h.1 h.2.1 e
    rw [ahd_rev h1] at h2
    cases h2

theorem popV_first {A : List Int} {W : List Bool} {v : Nat} (h : First A W A.length v) : popV A W = v := by
  unfold popV
  rcases bestF_is A W A.length with ⟨_, g⟩ | ⟨u, e, g⟩
  · have := g v h.1; rw [h.2.1] at this; cases this
  · rw [e, first_one g h]

theorem popV_none {A : List Int} {W : List Bool} (h : ∀ u : Nat, u < A.length → wt W u = false) : popV A W = -1 := by
  unfold popV
  rcases bestF_is A W A.length with ⟨e, g⟩ | ⟨u, e, g⟩
  · exact e
  · have := h u g.1; rw [g.2.1] at this; cases this

theorem popA_first {A : List Int} {W : List Bool} {v : Nat} (h : First A W A.length v) : popA A W = true := by
  simp [popA, popV_first h]
theorem popA_none {A : List Int} {W : List Bool} (h : ∀ u : Nat, u < A.length → wt W u = false) : popA A W = false := by
  simp [popA, popV_none h]
theorem popW_first {A : List Int} {W : List Bool} {v : Nat} (h : First A W A.length v) : popW A W = W.set v false := by
  simp [popW, popA_first h, popV_first h]
theorem popW_none {A : List Int} {W : List Bool} (h : ∀ u : Nat, u < A.length → wt W u = false) : popW A W = W := by
  simp [popW, popA_none h]

end Go.Proofs.Ytbddhjohlpblaaa
