/-
  Gates in memory: how many variables, and the clauses.
-/
import Derived.Test.YtifecnnkkbpglaaGp
namespace Go.Proofs.Ytifecnnkkbpglaa
open Go.RowKit
set_option linter.unusedVariables false

/-! ### Blocks by what they hold -/
def Typ (w : World) (j : Nat) (T : TypeId) : Prop := ∃ c f, w.heap[j]? = some (.cells c T f)
theorem Typ.lt {w : World} {j : Nat} {T : TypeId} (h : Typ w j T) : j < w.heap.size := by
  obtain ⟨c, f, h⟩ := h; exact blk_lt h
theorem Typ.same {w w' : World} {j : Nat} {T : TypeId} (h : Typ w j T) (e : w'.heap[j]? = w.heap[j]?) : Typ w' j T := by
  obtain ⟨c, f, h⟩ := h; exact ⟨c, f, e.trans h⟩
theorem typ_of {w : World} {j : Nat} {c : Array Value} {T : TypeId} {f : Nat × Nat} (h : w.heap[j]? = some (.cells c T f)) : Typ w j T := ⟨c, f, h⟩

/-- From which block on gates lie, and which blocks are none of their clauses'. -/
structure BT where
  n : Nat
  T : Nat → Prop
def B0 : BT := ⟨0, fun _ => False⟩

/-- Blocks of gates alone have changed. -/
structure FG (B : BT) (w w' : World) : Prop where
  os : w'.os = w.os
  tape : w'.tape = w.tape
  output : w'.output = w.output
  size : w.heap.size ≤ w'.heap.size
  block : ∀ j T, Typ w j T → T ≠ 47 → T ≠ 29 → w'.heap[j]? = w.heap[j]?
  old : ∀ j, j < B.n → j < w.heap.size → w'.heap[j]? = w.heap[j]?

theorem FG.refl {B : BT} (w : World) : FG B w w := ⟨rfl, rfl, rfl, Nat.le_refl _, fun _ _ _ _ _ => rfl, fun _ _ _ => rfl⟩
theorem FG.trans {B : BT} {a b c : World} (h : FG B a b) (g : FG B b c) : FG B a c :=
  ⟨g.os.trans h.os, g.tape.trans h.tape, g.output.trans h.output, Nat.le_trans h.size g.size, fun j T ht hn hm => (g.block j T (ht.same (h.block j T ht hn hm)) hn hm).trans (h.block j T ht hn hm), fun j hj hl => (g.old j hj (Nat.lt_of_lt_of_le hl h.size)).trans (h.old j hj hl)⟩
theorem FG.grown {B : BT} {w w' : World} {r : Option Nat} (g : w.grownBy w' r) (hr : ∀ j T, r = some j → Typ w j T → T = 47 ∨ T = 29) (hl : ∀ j, r = some j → B.n ≤ j) : FG B w w' :=
  ⟨g.os, g.tape, g.output, g.size, fun j T ht hn hm => g.block j ht.lt (fun e => by rcases hr j T e.symm ht with h | h; exact hn h; exact hm h), fun j hj hs => g.block j hs (fun e => by have := hl j e.symm; omega)⟩
theorem grown_below {w w' : World} (b : Below w.heap.size w w') : w.grownBy w' none := ⟨b.os, b.tape, b.output, b.size, fun k hk _ => b.block k hk⟩
theorem FG.below {B : BT} {w w' : World} (b : Below w.heap.size w w') : FG B w w' := FG.grown (grown_below b) (fun j T h => by cases h) (fun j h => by cases h)
theorem FG.be {B : BT} {w0 w w' : World} (f : FG B w w') (hB : B.n = w0.heap.size) (b : Below w0.heap.size w0 w) : Below w0.heap.size w0 w' :=
  ⟨f.os.trans b.os, f.tape.trans b.tape, f.output.trans b.output, Nat.le_trans b.size f.size, fun j hj => (f.old j (by omega) (Nat.lt_of_lt_of_le hj b.size)).trans (b.block j hj)⟩
theorem FG.drew {B : BT} {a w : World} (h : FG B a w) : FG B a w.drew := ⟨h.os, h.tape, h.output, h.size, h.block, h.old⟩

theorem ownsRow_fg {B : BT} {C : Nat} {w w' : World} {E : TypeId} {sz : Nat} {v : Value} {n : Nat} {xs : List Value} (h : w.ownsRow C E sz v n xs) (f : FG B w w') (h1 : E ≠ 47) (h2 : E ≠ 29) : w'.ownsRow C E sz v n xs := by
  refine ⟨h.1, ?_⟩
  rcases h.2 with h3 | ⟨b, cap, cur, rfl, hb, hg, rest⟩
  · exact .inl h3
  · exact .inr ⟨b, cap, cur, rfl, hb, by rw [f.block b E (typ_of hg) h1 h2]; exact hg, rest⟩

theorem Own.fg {B : BT} {C : Nat} {w w' : World} {v : Value} {xs : List Int} (h : Own w C v xs) (f : FG B w w') : Own w' C v xs := ⟨ownsRow_fg h.1 f (by decide) (by decide), h.2⟩

/-- A row of numbers, and that its block holds numbers. -/
def TRow (T : Nat → Prop) (w : World) (a : Option Addr) (m c : Nat) (xs : List Int) : Prop := Row w a m c xs ∧ (0 < m → ∃ b off, a = some ⟨b, off, none⟩ ∧ Typ w b 3 ∧ ¬ T b)

theorem TRow.fg {T : Nat → Prop} {B : BT} {w w' : World} {a : Option Addr} {m c : Nat} {xs : List Int} (h : TRow T w a m c xs) (f : FG B w w') : TRow T w' a m c xs := by
  obtain ⟨r, t⟩ := h
  refine ⟨⟨r.1, r.2.1, r.2.2.1, r.2.2.2.1, r.2.2.2.2.1, fun h0 => ?_⟩, fun h0 => ?_⟩
  · obtain ⟨b, off, e, hc⟩ := r.2.2.2.2.2 h0
    obtain ⟨b2, off2, e2, ht, hn⟩ := t h0
    rw [e] at e2
    simp only [Option.some.injEq, Addr.mk.injEq, and_true] at e2
    obtain ⟨rfl, rfl⟩ := e2
    refine ⟨b, off, e, fun j hj => ?_⟩
    exact (World.cell?_of_block (f.block b 3 ht (by decide) (by decide))).trans (hc j hj)
  · obtain ⟨b2, off2, e2, ht, hn⟩ := t h0
    exact ⟨b2, off2, e2, ht.same (f.block b2 3 ht (by decide) (by decide)), hn⟩

theorem Own.trow {T : Nat → Prop} {w : World} {C : Nat} {v : Value} {xs : List Int} (h : Own w C v xs) (hT : ∀ b, T b → b < C) : ∃ ao c, v = .slice ao xs.length c ∧ TRow T w ao xs.length c xs := by
  obtain ⟨ao, c, rfl, r⟩ := h.row
  refine ⟨ao, c, rfl, r, fun h0 => ?_⟩
  rcases h.1.2 with ⟨e, hn⟩ | ⟨g, cap, cur, e, hb, hg, _⟩
  · omega
  · simp only [Value.slice.injEq] at e
    exact ⟨g, 0, e.1, typ_of hg, fun ht => by have := hT g ht; omega⟩

/-- The values are lists that lie in memory. -/
def GV (T : Nat → Prop) (w : World) (vs : List Value) (xss : List (List Int)) : Prop := vs.length = xss.length ∧ ∀ j, j < vs.length → ∃ a m c, vs[j]? = some (.slice a m c) ∧ TRow T w a m c (xss.getD j [])

theorem GV.fg {T : Nat → Prop} {B : BT} {w w' : World} {vs : List Value} {xss : List (List Int)} (h : GV T w vs xss) (f : FG B w w') : GV T w' vs xss := by
  refine ⟨h.1, fun j hj => ?_⟩
  obtain ⟨a, m, c, h1, h2⟩ := h.2 j hj
  exact ⟨a, m, c, h1, h2.fg f⟩

theorem GV.snoc {T : Nat → Prop} {w : World} {vs : List Value} {xss : List (List Int)} (h : GV T w vs xss) {a : Option Addr} {m c : Nat} {ys : List Int} (r : TRow T w a m c ys) : GV T w (vs ++ [.slice a m c]) (xss ++ [ys]) := by
  refine ⟨by simp [h.1], fun j hj => ?_⟩
  by_cases hjl : j < vs.length
  · obtain ⟨a, m, c, e1, e2⟩ := h.2 j hjl
    refine ⟨a, m, c, by rw [List.getElem?_append_left hjl]; exact e1, ?_⟩
    have : (xss ++ [ys]).getD j [] = xss.getD j [] := by
      simp only [List.getD_eq_getElem?_getD]; rw [List.getElem?_append_left (by rw [← h.1]; exact hjl)]
    rw [this]; exact e2
  · have e : j = vs.length := by simp at hj; omega
    subst e
    refine ⟨a, m, c, by simp, ?_⟩
    have : (xss ++ [ys]).getD vs.length [] = ys := by rw [h.1]; simp
    rw [this]; exact r

/-- The first n cells behind the address are the lists xss. -/
def Grid (w : World) (ao : Option Addr) (n cap : Nat) (xss : List (List Int)) : Prop :=
  xss.length = n ∧ n ≤ cap ∧ cap ≤ maxLen ∧ (0 < n → ∃ b off, ao = some ⟨b, off, none⟩ ∧ ∀ j, j < n → ∃ a m c, w.cell? ⟨b, off + j, none⟩ = some (.slice a m c) ∧ Row w a m c (xss.getD j []))

theorem Grid.max {w : World} {ao : Option Addr} {n cap : Nat} {xss : List (List Int)} (h : Grid w ao n cap xss) : n ≤ 9223372036854775807 := by
  have := h.2.1; have h2 := h.2.2.1; unfold maxLen at h2; omega

theorem Grid.at {w : World} {ao : Option Addr} {n cap : Nat} {xss : List (List Int)} (h : Grid w ao n cap xss) {k : Nat} (hk : k < n) :
    ∃ b off a m c ys, ao = some ⟨b, off, none⟩ ∧ w.cell? ⟨b, off + k, none⟩ = some (.slice a m c) ∧ Hid (xss[k]? = some ys) ∧ Hid (Row w a m c ys) := by
  obtain ⟨b, off, e, hc⟩ := h.2.2.2 (by omega)
  obtain ⟨a, m, c, h1, h2⟩ := hc k hk
  have hl : k < xss.length := by rw [h.1]; exact hk
  exact ⟨b, off, a, m, c, xss.getD k [], e, h1, by show _ = _; simp [hl], h2⟩

theorem Grid.keep {w w' : World} {ao : Option Addr} {n cap : Nat} {xss : List (List Int)} (h : Grid w ao n cap xss) (b : Below w.heap.size w w') : Grid w' ao n cap xss := by
  refine ⟨h.1, h.2.1, h.2.2.1, fun h0 => ?_⟩
  obtain ⟨k, off, e, hc⟩ := h.2.2.2 h0
  refine ⟨k, off, e, fun j hj => ?_⟩
  obtain ⟨a, m, c, h1, h2⟩ := hc j hj
  exact ⟨a, m, c, by rw [b.cell (cell_lt h1)]; exact h1, h2.keep b⟩

/-- A list of clauses that gates have. -/
def OwnC (B : BT) (w : World) (v : Value) (cs : List (List Int)) : Prop := ∃ vs, w.ownsRow B.n 29 1 v cs.length vs ∧ GV B.T w vs cs

theorem OwnC.below {B : BT} {w w' : World} {v : Value} {cs : List (List Int)} (h : OwnC B w v cs) (b : Below w.heap.size w w') : OwnC B w' v cs := by
  obtain ⟨vs, ⟨h0, h1⟩, h2⟩ := h
  refine ⟨vs, ⟨h0, ?_⟩, h2.fg (FG.below (B := B0) b)⟩
  rcases h1 with h1 | ⟨g, cap, cur, e, hb, hg, rest⟩
  · exact .inl h1
  · exact .inr ⟨g, cap, cur, e, hb, by rw [b.block _ (blk_lt hg)]; exact hg, rest⟩

theorem OwnC.shape {B : BT} {w : World} {v : Value} {cs : List (List Int)} (h : OwnC B w v cs) : ∃ ao c, v = .slice ao cs.length c ∧ (ao = none → c = 0 ∧ cs.length = 0) ∧ cs.length ≤ c ∧ c ≤ maxLen ∧ (∀ j, ao = some j → B.n ≤ j.block) := by
  obtain ⟨vs, h1, h2⟩ := h
  rcases h1.2 with ⟨rfl, hn⟩ | ⟨g, cap, cur, rfl, hb, hg, hl, hm, rest⟩
  · exact ⟨none, 0, by rw [hn], fun _ => ⟨rfl, hn⟩, by omega, by unfold maxLen; omega, fun j h => by cases h⟩
  · exact ⟨_, cap, rfl, fun e => by simp at e, hl, hm, fun j h => by cases h; exact hb⟩

theorem OwnC.grid {B : BT} {w : World} {ao : Option Addr} {k c : Nat} {cs : List (List Int)} (h : OwnC B w (.slice ao k c) cs) : Grid w ao cs.length cs.length cs := by
  obtain ⟨vs, h1, h2⟩ := h
  refine ⟨rfl, Nat.le_refl _, ?_, fun h0 => ?_⟩
  · rcases h1.2 with ⟨e, hn⟩ | ⟨g, cap, cur, e, hb, hg, hl, hm, rest⟩
    · unfold maxLen; omega
    · omega
  · rcases h1.2 with ⟨e, hn⟩ | ⟨g, cap, cur, e, hb, hg, hl, hm, rest⟩
    · omega
    · simp only [Value.slice.injEq] at e
      obtain ⟨rfl, rfl, rfl⟩ := e
      refine ⟨g, 0, rfl, fun j hj => ?_⟩
      obtain ⟨a, m, c4, q1, q2⟩ := h2.2 j (by rw [h2.1]; exact hj)
      refine ⟨a, m, c4, ?_, q2.1⟩
      have h3 : w.ownsRow B.n 29 1 (.slice (some ⟨g, 0, none⟩) cs.length c) cs.length vs := h1
      rw [Nat.zero_add, h3.cellAt j (by omega)]
      exact q1

theorem OwnC.nil (B : BT) (w : World) : OwnC B w (.slice none 0 0) [] := ⟨[], World.ownsRow_nil _ _ _ _, rfl, fun j hj => by simp at hj⟩

/-- Gates in memory. -/
structure Gt (B : BT) (gb : Nat) (w : World) (n : Nat) (cs : List (List Int)) : Prop where
  lo : B.n ≤ gb
  tl : ∀ b, B.T b → b < w.heap.size
  blk : ∃ v, w.heap[gb]? = some (.cells #[.int .i64 n, v] 47 (0, 0)) ∧ OwnC B w v cs

theorem Gt.lt {B : BT} {gb : Nat} {w : World} {n : Nat} {cs : List (List Int)} (h : Gt B gb w n cs) : gb < w.heap.size := by
  obtain ⟨v, e, _⟩ := h.blk; exact blk_lt e
theorem Gt.below {B : BT} {gb : Nat} {w w' : World} {n : Nat} {cs : List (List Int)} (h : Gt B gb w n cs) (b : Below w.heap.size w w') : Gt B gb w' n cs := by
  obtain ⟨v, e, o⟩ := h.blk
  exact ⟨h.lo, fun j hj => Nat.lt_of_lt_of_le (h.tl j hj) b.size, v, (b.block _ (blk_lt e)).trans e, o.below b⟩
theorem Gt.cells {B : BT} {gb : Nat} {w : World} {n : Nat} {cs : List (List Int)} (h : Gt B gb w n cs) : ∃ v, w.cell? ⟨gb, 0, none⟩ = some (.int .i64 n) ∧ w.cell? ⟨gb, 1, none⟩ = some v ∧ w.frozen? ⟨gb, 0, none⟩ = false ∧ w.frozen? ⟨gb, 1, none⟩ = false ∧ Hid (OwnC B w v cs) := by
  obtain ⟨v, e, o⟩ := h.blk
  exact ⟨v, by rw [cell_of e]; rfl, by rw [cell_of e]; rfl, frozen_of e, frozen_of e, o⟩

theorem OwnC.set {B : BT} {gb : Nat} {w : World} {v : Value} {cs : List (List Int)} (h : OwnC B w v cs) {o : Nat} {c : Array Value} (e : w.heap[gb]? = some (.cells c 47 (0, 0))) (u : Value) : OwnC B (w.setCell ⟨gb, o, none⟩ u) v cs := by
  obtain ⟨vs, h1, h2⟩ := h
  have g := grown_set w ⟨gb, o, none⟩ u
  have hT : ∀ j T, (some gb : Option Nat) = some j → Typ w j T → T = 47 ∨ T = 29 := by
    rintro j T e2 ⟨c2, f2, e3⟩
    cases e2
    rw [e] at e3; cases e3; exact .inl rfl
  refine ⟨vs, own_keep h1 g (fun j ej => .inr fun c' T fr hj => ?_), h2.fg (FG.grown (B := B0) g hT (fun _ _ => Nat.zero_le _))⟩
  simp only [Option.some.injEq] at ej
  rw [← ej, e] at hj
  cases hj; decide

/-- One variable more. -/
theorem Gt.var {B : BT} {gb : Nat} {w : World} {n : Nat} {cs : List (List Int)} (h : Gt B gb w n cs) : Gt B gb (w.setCell ⟨gb, 0, none⟩ (.int .i64 ((n : Int) + 1))) (n + 1) cs ∧ FG B w (w.setCell ⟨gb, 0, none⟩ (.int .i64 ((n : Int) + 1))) := by
  obtain ⟨v, e, o⟩ := h.blk
  refine ⟨⟨h.lo, fun j hj => by have := h.tl j hj; simpa [World.setCell] using this, v, by rw [set_same e]; simp, o.set e _⟩, FG.grown (grown_set w _ _) ?_ (fun j ej => by cases ej; exact h.lo)⟩
  rintro j T e2 ⟨c2, f2, e3⟩
  cases e2
  rw [e] at e3; cases e3; exact .inl rfl

/-- The list of clauses is another one. -/
theorem Gt.putc {B : BT} {gb : Nat} {w w' : World} {n : Nat} {cs cs' : List (List Int)} {v v' : Value} (h : Gt B gb w n cs) (e : w.cell? ⟨gb, 1, none⟩ = some v) (g : w.grownBy w' v.ownBlock) (o : OwnC B w' v' cs') :
    Gt B gb (w'.setCell ⟨gb, 1, none⟩ v') n cs' ∧ FG B w (w'.setCell ⟨gb, 1, none⟩ v') ∧ w'.frozen? ⟨gb, 1, none⟩ = false := by
  obtain ⟨v2, e2, o2⟩ := h.blk
  have ev : v = v2 := by
    rw [cell_of e2] at e
    simpa using e.symm
  subst ev
  obtain ⟨vs, h1, h2⟩ := o2
  have hT27 : ∀ j T, v.ownBlock = some j → Typ w j T → T = 29 := by
    rintro j T e3 ⟨c2, f2, e4⟩
    rcases h1.2 with ⟨rfl, hn⟩ | ⟨g2, cap, cur, rfl, hb, hg, _⟩
    · simp [Value.ownBlock] at e3
    · simp [Value.ownBlock] at e3
      subst e3
      rw [hg] at e4; cases e4; rfl
  have hlo : ∀ j, v.ownBlock = some j → B.n ≤ j := fun j hj => (h1.lt j hj).1
  have e5 : w'.heap[gb]? = some (.cells #[.int .i64 n, v] 47 (0, 0)) := by
    rw [g.block gb (blk_lt e2) (fun hj => by have := hT27 gb 47 hj.symm (typ_of e2); exact absurd this (by decide))]
    exact e2
  refine ⟨⟨h.lo, fun j hj => by have := h.tl j hj; have := g.size; simp [World.setCell]; omega, v', by rw [set_same e5]; simp, o.set e5 _⟩, ?_, frozen_of e5⟩
  refine (FG.grown g (fun j T hj ht => .inr (hT27 j T hj ht)) hlo).trans (FG.grown (grown_set w' _ _) ?_ (fun j ej => by cases ej; exact h.lo))
  rintro j T e3 ⟨c2, f2, e4⟩
  cases e3
  rw [e5] at e4; cases e4; exact .inl rfl

/-- Behind a step that changes a row that is none of its clauses', and makes new blocks. -/
theorem Gt.hop {B B' : BT} {gb : Nat} {w w' : World} {n : Nat} {cs : List (List Int)} {r : Option Nat} (h : Gt B gb w n cs) (hn : B'.n = B.n) (g : w.grownBy w' r)
    (hr : ∀ j T, r = some j → Typ w j T → (B.T j ∨ T ≠ 3) ∧ T ≠ 47 ∧ T ≠ 29) (hT : ∀ b, B'.T b → b < w'.heap.size ∧ (B.T b ∨ w.heap.size ≤ b)) : Gt B' gb w' n cs := by
  obtain ⟨v, e, vs, ⟨h0, h1⟩, h2⟩ := h.blk
  refine ⟨by rw [hn]; exact h.lo, fun b hb => (hT b hb).1, v, ?_, vs, ⟨h0, ?_⟩, h2.1, fun j hj => ?_⟩
  · rw [g.block gb (blk_lt e) (fun ej => (hr gb 47 ej.symm (typ_of e)).2.1 rfl)]; exact e
  · rcases h1 with h1 | ⟨k, cap, cur, ev, hb, hg, rest⟩
    · exact .inl h1
    · refine .inr ⟨k, cap, cur, ev, by rw [hn]; exact hb, ?_, rest⟩
      rw [g.block k (blk_lt hg) (fun ej => (hr k 29 ej.symm (typ_of hg)).2.2 rfl)]; exact hg
  · obtain ⟨a, m, c, q1, q2, q3⟩ := h2.2 j hj
    refine ⟨a, m, c, q1, ⟨q2.1, q2.2.1, q2.2.2.1, q2.2.2.2.1, q2.2.2.2.2.1, fun hm => ?_⟩, fun hm => ?_⟩
    · obtain ⟨b, off, e1, hc⟩ := q2.2.2.2.2.2 hm
      obtain ⟨b2, off2, e2, ht, hnT⟩ := q3 hm
      rw [e1] at e2
      simp only [Option.some.injEq, Addr.mk.injEq, and_true] at e2
      obtain ⟨rfl, rfl⟩ := e2
      refine ⟨b, off, e1, fun i hi => ?_⟩
      exact (World.cell?_of_block (g.block b ht.lt (fun ej => by
        obtain ⟨x1, _⟩ := hr b 3 ej.symm ht
        rcases x1 with x1 | x1
        · exact hnT x1
        · exact x1 rfl))).trans (hc i hi)
    · obtain ⟨b2, off2, e2, ht, hnT⟩ := q3 hm
      have eb := g.block b2 ht.lt (fun ej => by
        obtain ⟨x1, _⟩ := hr b2 3 ej.symm ht
        rcases x1 with x1 | x1
        · exact hnT x1
        · exact x1 rfl)
      refine ⟨b2, off2, e2, ht.same eb, fun hb' => ?_⟩
      rcases (hT b2 hb').2 with x1 | x1
      · exact hnT x1
      · have := ht.lt; omega

theorem Below.fgs {B : BT} {w w1 w2 : World} (b : Below w.heap.size w w1) (f : FG B w1 w2) : FG B w w2 := (FG.below b).trans f

end Go.Proofs.Ytifecnnkkbpglaa
