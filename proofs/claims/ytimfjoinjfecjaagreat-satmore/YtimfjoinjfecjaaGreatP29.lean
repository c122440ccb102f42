/-
  A solver in memory: its own fields, its trail, its watch, its order, lists of clauses beside them; which block is whose.
-/
import Derived.Test.YtimfjoinjfecjaaGreatP25
import Derived.Test.YtimfjoinjfecjaaGreatP28

namespace Go.Proofs.YtimfjoinjfecjaaGreat
open Go.RowKit Go.Maps
set_option linter.unusedVariables false

/-- From w to w' blocks of two owners alone have changed. -/
structure Cg (ow : Nat → Nat) (t u : Nat) (w w' : World) : Prop where
  os : w'.os = w.os
  tape : w'.tape = w.tape
  output : w'.output = w.output
  size : w.heap.size ≤ w'.heap.size
  block : ∀ j, j < w.heap.size → ow j ≠ t → ow j ≠ u → w'.heap[j]? = w.heap[j]?

theorem Cg.grown {ow : Nat → Nat} {t u : Nat} {w w' : World} {r : Option Nat} (g : w.grownBy w' r) (hr : ∀ j, r = some j → j < w.heap.size → ow j = t) : Cg ow t u w w' :=
  ⟨g.os, g.tape, g.output, g.size, fun j hj hn _ => g.block j hj (fun e => hn (hr j e.symm hj))⟩
theorem Cg.below {ow : Nat → Nat} {t u : Nat} {w w' : World} (b : Below w.heap.size w w') : Cg ow t u w w' := Cg.grown (grown_below b) (fun j h => by cases h)
theorem Cg.set {ow : Nat → Nat} {t u : Nat} {w w' : World} (h : Cg ow t u w w') {a : Addr} (ha : ow a.block = t ∨ ow a.block = u) (v : Value) : Cg ow t u w (w'.setCell a v) :=
  ⟨h.os, h.tape, h.output, by simpa [World.setCell] using h.size, fun j hj h1 h2 => (set_other v (fun e => by subst e; omega)).trans (h.block j hj h1 h2)⟩
theorem Cg.trans {ow : Nat → Nat} {t u : Nat} {w w' w'' : World} (h : Cg ow t u w w') (g : Cg ow t u w' w'') : Cg ow t u w w'' :=
  ⟨g.os.trans h.os, g.tape.trans h.tape, g.output.trans h.output, Nat.le_trans h.size g.size, fun j hj h1 h2 => (g.block j (Nat.lt_of_lt_of_le hj h.size) h1 h2).trans (h.block j hj h1 h2)⟩

/-- What a watch stands on. -/
def FootW (kw : WK) (g : G) (j : Nat) : Prop :=
  j = kw.OB ∨ j = kw.WB ∨ j = kw.FB ∨ (∃ i, i < g.nx ∧ g.cb i = j) ∨ (∃ s, s ≤ 3 * kw.n ∧ (g.pv s).ownBlock = some j) ∨ g.mp = some j

/-- What Wa stands on. -/
def Foot (k : K) (kw : WK) (g : G) (p : V) (H : List Int) (j : Nat) : Prop :=
  Mine k p j ∨ FootW kw g j ∨ (∃ i, i < g.nx ∧ g.gn i = false ∧ (g.lv i).ownBlock = some j ∧ 0 < (g.lt i).length) ∨ (0 < H.length ∧ g.hv.ownBlock = some j)

theorem St.foot {k : WK} {w w' : World} {g : G} (h : St k w g) (hb : ∀ j, FootW k g j → w'.heap[j]? = w.heap[j]?) (hl : ∀ i j, i < g.nx → g.gn i = false → (g.lv i).ownBlock = some j → 0 < (g.lt i).length → w'.heap[j]? = w.heap[j]?) : St k w' g := by
  refine ⟨⟨by rw [hb _ (.inl rfl)]; exact h.c.ob, by rw [hb _ (.inr (.inl rfl))]; exact h.c.wb, by rw [hb _ (.inr (.inr (.inl rfl)))]; exact h.c.fb, h.c.lo⟩,
    h.l.hn, fun i hi => by rw [hb _ (.inr (.inr (.inr (.inl ⟨i, hi, rfl⟩))))]; exact h.l.cl i hi, h.l.inj, fun s hs => (h.l.rw s hs).same (fun j c f e he => hb j (.inr (.inr (.inr (.inr (.inl ⟨s, hs, he⟩)))))), h.l.sub, h.l.ne, fun i hi hg => (h.l.li i hi hg).same (fun j e h0 _ => hl i j hi hg e h0), ?_, h.l.lo⟩
  rcases h.l.mp with q | ⟨mb, D, h1, h2⟩
  · exact .inl q
  · exact .inr ⟨mb, D, h1, h2.same (hb mb (.inr (.inr (.inr (.inr (.inr h1))))))⟩

theorem St.foot_typ {k : WK} {w : World} {g : G} (h : St k w g) {j : Nat} (hj : FootW k g j) : (∃ T, Typ w j T ∧ Wt T) ∨ ∃ es ck, w.heap[j]? = some (Obj.map es ck) := by
  rcases hj with rfl | rfl | rfl | ⟨i, hi, rfl⟩ | ⟨s, hs, e⟩ | e
  · exact .inl ⟨_, ⟨_, _, h.c.ob⟩, by simp [Wt]⟩
  · obtain ⟨c, h1, _⟩ := h.c.wb
    exact .inl ⟨_, ⟨_, _, h1⟩, by simp [Wt]⟩
  · obtain ⟨c, h1, _⟩ := h.c.fb
    exact .inl ⟨_, ⟨_, _, h1⟩, by simp [Wt]⟩
  · exact .inl ⟨_, ⟨_, _, h.l.cl i hi⟩, by simp [Wt]⟩
  · exact .inl ⟨_, (h.l.rw s hs).typ e, by simp [Wt]⟩
  · rcases h.l.mp with ⟨q, _⟩ | ⟨mb, D, h1, h2⟩
    · rw [q] at e; cases e
    · rw [h1] at e; cases e
      obtain ⟨es, ck, hb, _⟩ := h2.own
      exact .inr ⟨es, ck, hb⟩

theorem Wa.keep {k : K} {kw : WK} {w w' : World} {g : G} {L : List E} {lev : Nat} {p : V} {H : List Int} (W : Wa k kw w g L lev p H) (hb : ∀ j, Foot k kw g p H j → w'.heap[j]? = w.heap[j]?) : Wa k kw w' g L lev p H := by
  have tr : Trl k w' L lev p := by
    obtain ⟨F, S, s, q, h⟩ := W.j.t
    exact ⟨F, S, s.same (fun j hj => hb j (.inl hj)), q, h⟩
  have st : St kw w' g := W.j.s.foot (fun j hj => hb j (.inr (.inl hj))) (fun i j hi hg e h0 => hb j (.inr (.inr (.inl ⟨i, hi, hg, e, h0⟩))))
  refine ⟨⟨tr, st, W.j.n, W.j.b, W.j.aw⟩, W.iv, ?_, W.hf, W.hH, W.hl, W.rs⟩
  obtain ⟨ao, n, c, h1, h2, h3, h4, h5, h5', h6, h7⟩ := W.ht
  refine ⟨ao, n, c, h1, h2, h3, h4, h5, h5', h6, fun j x hx => ?_⟩
  obtain ⟨b, q1, q2, q3, q4⟩ := h7 j x hx
  have e := hb b (.inr (.inr (.inr ⟨by have := (List.getElem?_eq_some_iff.1 hx).1; omega, by rw [h1, q1]; rfl⟩)))
  exact ⟨b, q1, (World.cell?_of_block e).trans q2, q3.same e, q4⟩

theorem Wa.foot_lt {k : K} {kw : WK} {w : World} {g : G} {L : List E} {lev : Nat} {p : V} {H : List Int} (W : Wa k kw w g L lev p H) {j : Nat} (h : Foot k kw g p H j) : j < w.heap.size := by
  rcases h with h | h | ⟨i, h1, h2, h3, h4⟩ | ⟨h0, h⟩
  · exact (W.j.t.lt h).2
  · rcases W.j.s.foot_typ h with ⟨T, q, _⟩ | ⟨es, ck, q⟩
    · exact q.lt
    · exact blk_lt q
  · exact ((W.j.s.l.li i h1 h2).lt h3 h4).lt
  · obtain ⟨ao, n, cp, h1, h2, h3, h4, h5, h5', h6, h7⟩ := W.ht
    obtain ⟨b, q1, q2, q3, q4⟩ := h7 0 _ (List.getElem?_eq_getElem h0)
    rw [h1, q1] at h
    simp [Value.ownBlock] at h
    subst h
    exact q3.lt

theorem Od.Ord.keep {k : Od.K} {w w' : World} {A : List Int} {W : List Bool} {v : Value} (h : Od.Ord k w A W v) (hb : ∀ j, Od.Mine k v j → w'.heap[j]? = w.heap[j]?) : Od.Ord k w' A W v := by
  obtain ⟨hs, ⟨P, s, p⟩, hp, g⟩ := h
  refine ⟨hs, ⟨P, ⟨s.lo1, s.lo2, s.ne, s.lt1, s.lt2, s.hn, s.la, s.lp, ?_, ?_, ?_, s.wt.1, ?_⟩, p⟩, hp, g⟩
  · rw [hb _ (.inr (.inr (.inl rfl)))]; exact s.cl
  · rw [hb _ (.inl rfl)]; exact s.ac
  · rw [hb _ (.inr (.inl rfl))]; exact s.pl
  · rcases s.wt.2 with h | ⟨b, cap, cur, e, h1, h2, r⟩
    · exact .inl h
    · exact .inr ⟨b, cap, cur, e, h1, by rw [hb b (.inr (.inr (.inr (by rw [e]; rfl))))]; exact h2, r⟩

theorem Od.Ord.mine_lt {k : Od.K} {w : World} {A : List Int} {W : List Bool} {v : Value} (h : Od.Ord k w A W v) {j : Nat} (hj : Od.Mine k v j) : k.B ≤ j ∧ j < w.heap.size := by
  obtain ⟨hs, ⟨P, s, p⟩, hp, g⟩ := h
  exact s.mine_lt hj

/-- What is known of a clause that was learned. -/
structure Fa where
  s : Int
  g : Int
  a : Int

def facc (fs : List Fa) : List Value := fs.flatMap (fun f => [.int .i64 f.s, .int .i64 f.g, .int .i64 f.a])

theorem facc_app (a b : List Fa) : facc (a ++ b) = facc a ++ facc b := by simp [facc]

/-- What a solver has, without where it lies. -/
structure SS where
  L : List E
  lev : Nat
  H : List Int
  A : List Int
  W : List Bool
  cls : List (List Int)
  prf : List (List Int)
  fs : List Fa
  ns : List Int
  lim : Nat
  tr : List Bool
  wg : Nat
  cf : Nat
  rd : Nat
  en : Nat

/-- Where it lies. -/
structure SC where
  k : K
  kw : WK
  ko : Od.K
  SB : Nat
  fst : Nat
  all : Bool

/-- Values, and whose the blocks are: 1 of the trail and the watch (and all that is nobody's), 2 of the order, 3 numbers, 4 clauses, 5 the proof, 6 the solver's fields, 7 truths, 8 facts, 0 what is never written again. -/
structure MV where
  p : V
  ov : Value
  cv : Value
  fv : Value
  nv : Value
  pv : Value
  tb : Nat
  ow : Nat → Nat

def sbc (c : SC) (s : SS) (m : MV) : Array Value :=
  #[.pointer (some ⟨c.k.OB, 0, none⟩), .pointer (some ⟨c.kw.OB, 0, none⟩), .pointer (some ⟨c.ko.OB, 0, none⟩), m.cv, .int .i64 c.fst, m.fv, m.nv, .bool c.all, .int .i64 s.lim, m.pv, .slice (some ⟨m.tb, 0, none⟩) c.kw.n c.kw.n, .int .i64 s.wg, .int .i64 s.cf, .int .i64 s.rd, .int .i64 s.en]

/-- Values that are lists, old or never written again. -/
def GVt (w0 w : World) (ow : Nat → Nat) (vs : List Value) (xss : List (List Int)) : Prop :=
  vs.length = xss.length ∧ ∀ j, j < vs.length → ∃ a m c, vs[j]? = some (.slice a m c) ∧ U.Row w a m c (xss.getD j []) ∧ (0 < m → ∃ b off, a = some ⟨b, off, none⟩ ∧ (b < w0.heap.size ∨ (b < w.heap.size ∧ ow b = 0)))

/-- Lists of the proof are new. -/
def Nwr (w0 : World) (t : Nat) (vs : List Value) : Prop := t = 5 → ∀ u ∈ vs, ∀ a n c, u = .slice a n c → 0 < n → ∃ b off, a = some ⟨b, off, none⟩ ∧ w0.heap.size ≤ b
theorem Nwr.nil (w0 : World) (t : Nat) : Nwr w0 t [] := fun _ u hu => by cases hu
theorem Nwr.app {w0 : World} {t : Nat} {vs us : List Value} (h : Nwr w0 t vs) (g : Nwr w0 t us) : Nwr w0 t (vs ++ us) := fun e u hu => (List.mem_append.1 hu).elim (h e u) (g e u)

/-- A list of such lists that is the solver's own. -/
def CR (w0 w : World) (ow : Nat → Nat) (t : Nat) (v : Value) (xss : List (List Int)) : Prop :=
  ∃ vs, w.ownsRow w0.heap.size 42 1 v xss.length vs ∧ (∀ j, v.ownBlock = some j → ow j = t) ∧ GVt w0 w ow vs xss ∧ Nwr w0 t vs

structure Tags (c : SC) (w0 : World) (g : G) (H : List Int) (m : MV) (w : World) : Prop where
  lo : ∀ j, j < w0.heap.size → m.ow j = 1
  ft : ∀ j, Foot c.k c.kw g m.p H j → m.ow j = 1
  od : ∀ j, Od.Mine c.ko m.ov j → m.ow j = 2
  sb : m.ow c.SB = 6
  tb : m.ow m.tb = 7
  ty : ∀ j, j < w.heap.size → m.ow j ≠ 1 → ∃ T, Typ w j T ∧ ¬ Wt T
  u6 : ∀ j, m.ow j = 6 → j = c.SB
  u7 : ∀ j, m.ow j = 7 → j = m.tb

structure Sm (c : SC) (w0 : World) (g : G) (s : SS) (m : MV) (w : World) : Prop where
  W : Wa c.k c.kw w g s.L s.lev m.p s.H
  o : Od.Ord c.ko w s.A s.W m.ov
  sb : w.heap[c.SB]? = some (.cells (sbc c s m) 61 (0, 0))
  cl : CR w0 w m.ow 4 m.cv s.cls
  pr : CR w0 w m.ow 5 m.pv s.prf
  fa : w.ownsRow w0.heap.size 105 3 m.fv s.fs.length (facc s.fs) ∧ ∀ j, m.fv.ownBlock = some j → m.ow j = 8
  nu : OwnL w w0.heap.size m.nv s.ns ∧ ∀ j, m.nv.ownBlock = some j → m.ow j = 3
  tr : w.heap[m.tb]? = some (.cells (s.tr.map Value.bool).toArray 4 (0, 0)) ∧ s.tr.length = c.kw.n
  b0 : Below w0.heap.size w0 w
  hB : c.kw.B = w0.heap.size
  hn : c.ko.n = c.kw.n
  t : Tags c w0 g s.H m w

section
variable {c : SC} {w0 w w' : World} {g g' : G} {s s' : SS} {m m' : MV} {ow ow' : Nat → Nat} {t u : Nat}

theorem row_same {a : Option Addr} {n cap : Nat} {xs : List Int} (h : U.Row w a n cap xs) (hb : 0 < n → ∀ b off, a = some ⟨b, off, none⟩ → w'.heap[b]? = w.heap[b]?) : U.Row w' a n cap xs :=
  Row.same h (fun b off h0 e => hb h0 b off e)

theorem GVt.keep {vs : List Value} {xss : List (List Int)} (h : GVt w0 w ow vs xss) (b0 : Below w0.heap.size w0 w) (b0' : Below w0.heap.size w0 w') (hs : w.heap.size ≤ w'.heap.size) (hb : ∀ j, j < w.heap.size → ow j = 0 → w'.heap[j]? = w.heap[j]?) (he : ∀ j, j < w.heap.size → ow j = 0 → ow' j = ow j) : GVt w0 w' ow' vs xss := by
  refine ⟨h.1, fun j hj => ?_⟩
  obtain ⟨a, n, cp, h1, h2, h3⟩ := h.2 j hj
  refine ⟨a, n, cp, h1, row_same h2 (fun h0 b off e => ?_), fun h0 => ?_⟩
  · obtain ⟨b', off', e', q⟩ := h3 h0
    rw [e] at e'; cases e'
    rcases q with q | ⟨q1, q2⟩
    · rw [b0'.block b q, b0.block b q]
    · exact hb b q1 q2
  · obtain ⟨b', off', e', q⟩ := h3 h0
    refine ⟨b', off', e', ?_⟩
    rcases q with q | ⟨q1, q2⟩
    · exact .inl q
    · exact .inr ⟨by omega, by rw [he b' q1 q2]; exact q2⟩

theorem own_same {B : Nat} {T : TypeId} {sz n : Nat} {v : Value} {xs : List Value} (h : w.ownsRow B T sz v n xs) (hb : ∀ j, v.ownBlock = some j → w'.heap[j]? = w.heap[j]?) : w'.ownsRow B T sz v n xs := by
  refine ⟨h.1, ?_⟩
  rcases h.2 with h2 | ⟨b, cap, cur, rfl, h1, hg, rest⟩
  · exact .inl h2
  · exact .inr ⟨b, cap, cur, rfl, h1, by rw [hb b rfl]; exact hg, rest⟩

/-- Blocks of one owner that is not the old memory's have changed. -/
theorem Sm.old (h : Sm c w0 g s m w) (ch : Cg m.ow t u w w') (ht : t ≠ 1) (hu : u ≠ 1) : Below w0.heap.size w0 w' :=
  ⟨ch.os.trans h.b0.os, ch.tape.trans h.b0.tape, ch.output.trans h.b0.output, Nat.le_trans h.b0.size ch.size, fun j hj => (ch.block j (Nat.lt_of_lt_of_le hj h.b0.size) (by rw [h.t.lo j hj]; exact fun e => ht e.symm) (by rw [h.t.lo j hj]; exact fun e => hu e.symm)).trans (h.b0.block j hj)⟩

/-- Owners, when the blocks of t are others now. -/
def owT (ow : Nat → Nat) (t z : Nat) (Q : Nat → Bool) : Nat → Nat := fun j => if ow j = t ∨ z ≤ j then (if Q j then t else 1) else ow j
theorem owT_old {ow : Nat → Nat} {t z : Nat} {Q : Nat → Bool} {j : Nat} (h : j < z) (h2 : ow j ≠ t) : owT ow t z Q j = ow j := by
  unfold owT; rw [if_neg (by omega)]
theorem owT_mine {ow : Nat → Nat} {t z : Nat} {Q : Nat → Bool} {j : Nat} (h : ow j = t ∨ z ≤ j) (h2 : Q j = true) : owT ow t z Q j = t := by
  unfold owT; rw [if_pos h, if_pos h2]
theorem owT_one {ow : Nat → Nat} {z : Nat} {Q : Nat → Bool} {j : Nat} (h : ow j = 1 ∨ z ≤ j) : owT ow 1 z Q j = 1 := by
  unfold owT; rw [if_pos h]; split <;> rfl
theorem owT_cases (ow : Nat → Nat) (t z : Nat) (Q : Nat → Bool) (j : Nat) : (owT ow t z Q j = 1) ∨ (owT ow t z Q j = t ∧ Q j = true) ∨ (owT ow t z Q j = ow j ∧ j < z ∧ ow j ≠ t) := by
  unfold owT
  by_cases h : ow j = t ∨ z ≤ j
  · rw [if_pos h]
    by_cases q : Q j = true
    · rw [if_pos q]; exact .inr (.inl ⟨rfl, q⟩)
    · rw [if_neg q]; exact .inl rfl
  · rw [if_neg h]; exact .inr (.inr ⟨rfl, by omega, by omega⟩)

/-- All but the parts t and u, when blocks of these alone have changed. -/
structure Rest (c : SC) (w0 w : World) (g : G) (s : SS) (m : MV) (ow' : Nat → Nat) (t u : Nat) (w' : World) : Prop where
  W : t ≠ 1 → u ≠ 1 → Wa c.k c.kw w' g s.L s.lev m.p s.H
  o : t ≠ 2 → u ≠ 2 → Od.Ord c.ko w' s.A s.W m.ov
  sb : t ≠ 6 → u ≠ 6 → w'.heap[c.SB]? = some (.cells (sbc c s m) 61 (0, 0))
  cl : t ≠ 4 → u ≠ 4 → CR w0 w' ow' 4 m.cv s.cls
  pr : t ≠ 5 → u ≠ 5 → CR w0 w' ow' 5 m.pv s.prf
  fa : t ≠ 8 → u ≠ 8 → w'.ownsRow w0.heap.size 105 3 m.fv s.fs.length (facc s.fs) ∧ ∀ j, m.fv.ownBlock = some j → ow' j = 8
  nu : t ≠ 3 → u ≠ 3 → OwnL w' w0.heap.size m.nv s.ns ∧ ∀ j, m.nv.ownBlock = some j → ow' j = 3
  tr : t ≠ 7 → u ≠ 7 → w'.heap[m.tb]? = some (.cells (s.tr.map Value.bool).toArray 4 (0, 0)) ∧ s.tr.length = c.kw.n
  b0 : Below w0.heap.size w0 w'
  lo : ∀ j, j < w0.heap.size → ow' j = 1
  ft : t ≠ 1 → ∀ j, Foot c.k c.kw g m.p s.H j → ow' j = 1
  od : t ≠ 2 → ∀ j, Od.Mine c.ko m.ov j → ow' j = 2
  tsb : t ≠ 6 → ow' c.SB = 6
  ttb : t ≠ 7 → ow' m.tb = 7
  ty : ∀ j, j < w'.heap.size → ow' j ≠ 1 → ow' j ≠ t → ow' j ≠ u → ∃ T, Typ w' j T ∧ ¬ Wt T
  gv : ∀ vs xss, GVt w0 w m.ow vs xss → GVt w0 w' ow' vs xss
  u6 : t ≠ 6 → ∀ j, ow' j = 6 → j = c.SB
  u7 : t ≠ 7 → ∀ j, ow' j = 7 → j = m.tb
  zz : ∀ j, j < w.heap.size → m.ow j = 0 ∨ m.ow j = 9 → w'.heap[j]? = w.heap[j]? ∧ ow' j = m.ow j

theorem Sm.rest (h : Sm c w0 g s m w) (ch : Cg m.ow t u w w') (b0' : Below w0.heap.size w0 w') (ht0 : t ≠ 0 ∧ t ≠ 9) (hu0 : u ≠ 0 ∧ u ≠ 9) (Q : Nat → Bool) : Rest c w0 w g s m (owT m.ow t w.heap.size Q) t u w' := by
  have key : ∀ j, j < w.heap.size → m.ow j ≠ t → m.ow j ≠ u → w'.heap[j]? = w.heap[j]? := ch.block
  have he : ∀ j, j < w.heap.size → m.ow j ≠ t → owT m.ow t w.heap.size Q j = m.ow j := fun j h1 h2 => owT_old h1 h2
  have hgv : ∀ vs xss, GVt w0 w m.ow vs xss → GVt w0 w' (owT m.ow t w.heap.size Q) vs xss := fun vs xss q => q.keep h.b0 b0' ch.size (fun j hj e => key j hj (by omega) (by omega)) (fun j hj e => he j hj (by omega))
  have hcr : ∀ (x : Nat) {v : Value} {xss : List (List Int)}, t ≠ x → u ≠ x → CR w0 w m.ow x v xss → CR w0 w' (owT m.ow t w.heap.size Q) x v xss := fun x v xss hx hx' q => by
    obtain ⟨vs, h1, h2, h3⟩ := q
    exact ⟨vs, own_same h1 (fun j e => key j (own_lt h1 e).2 (by rw [h2 j e]; omega) (by rw [h2 j e]; omega)), fun j e => by rw [he j (own_lt h1 e).2 (by rw [h2 j e]; omega)]; exact h2 j e, hgv _ _ h3.1, h3.2⟩
  have hft : t ≠ 1 → ∀ j, Foot c.k c.kw g m.p s.H j → owT m.ow t w.heap.size Q j = 1 := fun h1 j hj => by rw [he j (h.W.foot_lt hj) (by rw [h.t.ft j hj]; omega)]; exact h.t.ft j hj
  refine ⟨fun h1 h2 => h.W.keep (fun j hj => key j (h.W.foot_lt hj) (by rw [h.t.ft j hj]; omega) (by rw [h.t.ft j hj]; omega)), fun h1 h2 => h.o.keep (fun j hj => key j (h.o.mine_lt hj).2 (by rw [h.t.od j hj]; omega) (by rw [h.t.od j hj]; omega)), fun h1 h2 => ?_, fun h1 h2 => hcr 4 h1 h2 h.cl, fun h1 h2 => hcr 5 h1 h2 h.pr,
    fun h1 h2 => ⟨own_same h.fa.1 (fun j e => key j (own_lt h.fa.1 e).2 (by rw [h.fa.2 j e]; omega) (by rw [h.fa.2 j e]; omega)), fun j e => by rw [he j (own_lt h.fa.1 e).2 (by rw [h.fa.2 j e]; omega)]; exact h.fa.2 j e⟩,
    fun h1 h2 => ⟨OwnL.same h.nu.1 (fun j e => key j (h.nu.1.lt e).2 (by rw [h.nu.2 j e]; omega) (by rw [h.nu.2 j e]; omega)), fun j e => by rw [he j (h.nu.1.lt e).2 (by rw [h.nu.2 j e]; omega)]; exact h.nu.2 j e⟩, fun h1 h2 => ⟨?_, h.tr.2⟩, b0', fun j hj => ?_, hft, fun h1 j hj => by rw [he j (h.o.mine_lt hj).2 (by rw [h.t.od j hj]; omega)]; exact h.t.od j hj,
    fun h1 => by rw [he _ (blk_lt h.sb) (by rw [h.t.sb]; omega)]; exact h.t.sb, fun h1 => by rw [he _ (blk_lt h.tr.1) (by rw [h.t.tb]; omega)]; exact h.t.tb, fun j hj h1 h2 h3 => ?_, hgv, fun h1 j hj => ?_, fun h1 j hj => ?_, fun j hj e => ⟨key j hj (by omega) (by omega), he j hj (by omega)⟩⟩
  · rw [key _ (blk_lt h.sb) (by rw [h.t.sb]; omega) (by rw [h.t.sb]; omega)]; exact h.sb
  · rw [key _ (blk_lt h.tr.1) (by rw [h.t.tb]; omega) (by rw [h.t.tb]; omega)]; exact h.tr.1
  · by_cases e : t = 1
    · subst e; exact owT_one (.inl (h.t.lo j hj))
    · rw [he j (Nat.lt_of_lt_of_le hj h.b0.size) (by rw [h.t.lo j hj]; omega)]; exact h.t.lo j hj
  · rcases owT_cases m.ow t w.heap.size Q j with q | ⟨q, _⟩ | ⟨q, q1, q2⟩
    · exact absurd q h1
    · exact absurd q h2
    · obtain ⟨T, t1, t2⟩ := h.t.ty j q1 (by rw [← q]; exact h1)
      exact ⟨T, t1.same (key j q1 q2 (by rw [← q]; exact h3)), t2⟩
  · rcases owT_cases m.ow t w.heap.size Q j with q | ⟨q, _⟩ | ⟨q, q1, q2⟩
    · omega
    · omega
    · exact h.t.u6 j (by omega)
  · rcases owT_cases m.ow t w.heap.size Q j with q | ⟨q, _⟩ | ⟨q, q1, q2⟩
    · omega
    · omega
    · exact h.t.u7 j (by omega)

/-- Lists that are old or never written again are kept, and what is nobody's stays so. -/
structure Kp (w0 w : World) (ow : Nat → Nat) (w' : World) (ow' : Nat → Nat) : Prop where
  gv : ∀ vs xss, GVt w0 w ow vs xss → GVt w0 w' ow' vs xss
  on : ∀ j, j < w.heap.size → ow j = 1 → ow' j = 1
  sz : w.heap.size ≤ w'.heap.size
  zz : ∀ j, j < w.heap.size → ow j = 0 ∨ ow j = 9 → w'.heap[j]? = w.heap[j]? ∧ ow' j = ow j
theorem Kp.refl (w0 w : World) (ow : Nat → Nat) : Kp w0 w ow w ow := ⟨fun _ _ h => h, fun _ _ h => h, Nat.le_refl _, fun _ _ _ => ⟨rfl, rfl⟩⟩
theorem Kp.trans {w1 w2 w3 : World} {o1 o2 o3 : Nat → Nat} (h : Kp w0 w1 o1 w2 o2) (k : Kp w0 w2 o2 w3 o3) : Kp w0 w1 o1 w3 o3 := ⟨fun vs xss q => k.gv vs xss (h.gv vs xss q), fun j hj e => k.on j (Nat.lt_of_lt_of_le hj h.sz) (h.on j hj e), Nat.le_trans h.sz k.sz, fun j hj e => by
  have h1 := h.zz j hj e
  have h2 := k.zz j (Nat.lt_of_lt_of_le hj h.sz) (by rw [h1.2]; exact e)
  exact ⟨h2.1.trans h1.1, h2.2.trans h1.2⟩⟩
theorem kpT {Q : Nat → Bool} (gv : ∀ vs xss, GVt w0 w ow vs xss → GVt w0 w' (owT ow t w.heap.size Q) vs xss) (sz : w.heap.size ≤ w'.heap.size) (zz : ∀ j, j < w.heap.size → ow j = 0 ∨ ow j = 9 → w'.heap[j]? = w.heap[j]? ∧ owT ow t w.heap.size Q j = ow j) : Kp w0 w ow w' (owT ow t w.heap.size Q) := by
  refine ⟨gv, fun j hj e => ?_, sz, zz⟩
  by_cases h : t = 1
  · subst h; exact owT_one (.inl e)
  · rw [owT_old hj (by omega)]; exact e

/-! ### The trail and the watch have changed -/
def upW (s : SS) (L : List E) (lev : Nat) (H : List Int) : SS := { s with L := L, lev := lev, H := H }

theorem Sm.cg1 {p' : V} (h : Sm c w0 g s m w) (f : FT c.k c.kw.B m.p p' w w') : Cg m.ow 1 1 w w' :=
  ⟨f.os, f.tape, f.output, f.size, fun j hj hn _ => by
    obtain ⟨T, t1, t2⟩ := h.t.ty j hj hn
    exact f.block j T t1 t2 (fun mm => hn (h.t.ft j (.inl mm)))⟩

theorem Sm.wa {L' : List E} {lev' : Nat} {p' : V} {H' : List Int} (h : Sm c w0 g s m w) (W' : Wa c.k c.kw w' g' L' lev' p' H') (f : FT c.k c.kw.B m.p p' w w')
    (hl : ∀ i, i < g'.nx → g'.gn i = false → ∀ j, (g'.lv i).ownBlock = some j → 0 < (g'.lt i).length → j < w.heap.size → m.ow j = 1) (hh : 0 < H'.length → ∀ j, g'.hv.ownBlock = some j → j < w.heap.size → m.ow j = 1) :
    Sm c w0 g' (upW s L' lev' H') { m with p := p', ow := owT m.ow 1 w.heap.size (fun _ => true) } w' ∧ Kp w0 w m.ow w' (owT m.ow 1 w.heap.size (fun _ => true)) := by
  have ch := h.cg1 f
  have R := h.rest ch (f.be h.hB h.b0) (by decide) (by decide) (fun _ => true)
  refine ⟨?_, kpT R.gv ch.size R.zz⟩
  refine ⟨W', R.o (by decide) (by decide), R.sb (by decide) (by decide), R.cl (by decide) (by decide), R.pr (by decide) (by decide), R.fa (by decide) (by decide), R.nu (by decide) (by decide), R.tr (by decide) (by decide), R.b0, h.hB, h.hn, R.lo, fun j hj => ?_, R.od (by decide), R.tsb (by decide), R.ttb (by decide), fun j hj h1 => R.ty j hj h1 h1 h1, R.u6 (by decide), R.u7 (by decide)⟩
  show owT m.ow 1 w.heap.size (fun _ => true) j = 1
  by_cases hs : j < w.heap.size
  · refine owT_one (.inl (Classical.byContradiction fun hn => ?_))
    obtain ⟨T, t1, t2⟩ := h.t.ty j hs hn
    have e := ch.block j hs hn hn
    have t3 := t1.same e
    rcases hj with hj | hj | ⟨i, h1, h2, h3, h4⟩ | ⟨h0, h1⟩
    · exact hn (h.t.ft j (.inl (f.new j hs hj)))
    · rcases W'.j.s.foot_typ hj with ⟨T', q1, q2⟩ | ⟨es, ck, q⟩
      · rw [← t3.one q1] at q2; exact t2 q2
      · obtain ⟨cc, ff, q2⟩ := t3; rw [q] at q2; cases q2
    · exact hn (hl i h1 h2 j h3 h4 hs)
    · exact hn (hh h0 j h1 hs)
  · exact owT_one (.inr (by omega))

/-! ### The order has changed -/
def odB (k : Od.K) (v : Value) (j : Nat) : Bool := decide (j = k.AB) || decide (j = k.PB) || decide (j = k.OB) || decide (v.ownBlock = some j)
theorem odB_iff {k : Od.K} {v : Value} {j : Nat} : odB k v j = true ↔ Od.Mine k v j := by simp [odB, Od.Mine, or_assoc]

theorem Od.Ord.typ {k : Od.K} {A : List Int} {W : List Bool} {v : Value} (h : Od.Ord k w A W v) {j : Nat} (hj : Od.Mine k v j) : ∃ T, Typ w j T ∧ ¬ Wt T := by
  obtain ⟨hs, ⟨P, s, p⟩, hp, g⟩ := h
  rcases hj with rfl | rfl | rfl | e
  · exact ⟨3, ⟨_, _, s.ac⟩, by simp [Wt]⟩
  · exact ⟨3, ⟨_, _, s.pl⟩, by simp [Wt]⟩
  · exact ⟨86, ⟨_, _, s.cl⟩, by simp [Wt]⟩
  · rcases s.wt.2 with ⟨rfl, _⟩ | ⟨b, cap, cur, rfl, _, h2, _⟩
    · simp [Value.ownBlock] at e
    · simp [Value.ownBlock] at e; subst e; exact ⟨3, ⟨_, _, h2⟩, by simp [Wt]⟩

def upO (s : SS) (A : List Int) (W : List Bool) : SS := { s with A := A, W := W }

theorem Sm.ord {A' : List Int} {W' : List Bool} {v' : Value} (h : Sm c w0 g s m w) (o' : Od.Ord c.ko w' A' W' v') (f : Od.Fr c.ko m.ov v' w w') :
    Sm c w0 g (upO s A' W') { m with ov := v', ow := owT m.ow 2 w.heap.size (odB c.ko v') } w' ∧ Kp w0 w m.ow w' (owT m.ow 2 w.heap.size (odB c.ko v')) := by
  have ch : Cg m.ow 2 2 w w' := ⟨f.os, f.tape, f.output, f.size, fun j hj hn _ => f.block j hj (fun mm => hn (h.t.od j mm))⟩
  have R := h.rest ch (h.old ch (by decide) (by decide)) (by decide) (by decide) (odB c.ko v')
  have hod : ∀ j, Od.Mine c.ko v' j → owT m.ow 2 w.heap.size (odB c.ko v') j = 2 := fun j hj => by
    refine owT_mine ?_ (odB_iff.2 hj)
    rcases hj with e | e | e | e
    · exact .inl (h.t.od j (.inl e))
    · exact .inl (h.t.od j (.inr (.inl e)))
    · exact .inl (h.t.od j (.inr (.inr (.inl e))))
    · rcases f.new j e with q | q
      · exact .inl (h.t.od j (.inr (.inr (.inr q))))
      · exact .inr q
  refine ⟨?_, kpT R.gv ch.size R.zz⟩
  refine ⟨R.W (by decide) (by decide), o', R.sb (by decide) (by decide), R.cl (by decide) (by decide), R.pr (by decide) (by decide), R.fa (by decide) (by decide), R.nu (by decide) (by decide), R.tr (by decide) (by decide), R.b0, h.hB, h.hn, R.lo, R.ft (by decide), hod, R.tsb (by decide), R.ttb (by decide), fun j hj h1 => ?_, R.u6 (by decide), R.u7 (by decide)⟩
  by_cases e : owT m.ow 2 w.heap.size (odB c.ko v') j = 2
  · rcases owT_cases m.ow 2 w.heap.size (odB c.ko v') j with q | ⟨_, q⟩ | ⟨q1, q2, q3⟩
    · exact absurd q h1
    · exact o'.typ (odB_iff.1 q)
    · rw [q1] at e; exact absurd e q3
  · exact R.ty j hj h1 e e

/-! ### Nothing has changed -/
theorem Sm.below (h : Sm c w0 g s m w) (b : Below w.heap.size w w') : Sm c w0 g s { m with ow := owT m.ow 1 w.heap.size (fun _ => true) } w' ∧ Kp w0 w m.ow w' (owT m.ow 1 w.heap.size (fun _ => true)) := by
  have ch : Cg m.ow 1 1 w w' := Cg.below b
  have R := h.rest ch (Below.next h.b0 b) (by decide) (by decide) (fun _ => true)
  refine ⟨?_, kpT R.gv ch.size R.zz⟩
  refine ⟨h.W.below b, R.o (by decide) (by decide), R.sb (by decide) (by decide), R.cl (by decide) (by decide), R.pr (by decide) (by decide), R.fa (by decide) (by decide), R.nu (by decide) (by decide), R.tr (by decide) (by decide), R.b0, h.hB, h.hn, R.lo, fun j hj => ?_, R.od (by decide), R.tsb (by decide), R.ttb (by decide), fun j hj h1 => R.ty j hj h1 h1 h1, R.u6 (by decide), R.u7 (by decide)⟩
  show owT m.ow 1 w.heap.size (fun _ => true) j = 1
  exact owT_one (.inl (h.t.ft j hj))

/-! ### A field of the solver -/
/-- The solver's own block has changed, to the fields of s' and m'. -/
theorem Sm.fld (h : Sm c w0 g s m w) {i : Nat} {v : Value} (e : (sbc c s m).setIfInBounds i v = sbc c s' m) (e1 : s'.L = s.L) (e2 : s'.lev = s.lev) (e3 : s'.H = s.H) (e4 : s'.A = s.A) (e5 : s'.W = s.W) (e6 : s'.cls = s.cls) (e7 : s'.prf = s.prf) (e8 : s'.fs = s.fs) (e9 : s'.ns = s.ns) (e10 : s'.tr = s.tr) :
    Sm c w0 g s' { m with ow := owT m.ow 6 w.heap.size (fun j => decide (j = c.SB)) } (w.setCell ⟨c.SB, i, none⟩ v) ∧ Kp w0 w m.ow (w.setCell ⟨c.SB, i, none⟩ v) (owT m.ow 6 w.heap.size (fun j => decide (j = c.SB))) := by
  have ch : Cg m.ow 6 6 w (w.setCell ⟨c.SB, i, none⟩ v) := Cg.set (Cg.below (Below.refl _ _)) (.inl h.t.sb) v
  have R := h.rest ch (h.old ch (by decide) (by decide)) (by decide) (by decide) (fun j => decide (j = c.SB))
  have hsb : (w.setCell ⟨c.SB, i, none⟩ v).heap[c.SB]? = some (.cells (sbc c s' m) 61 (0, 0)) := by rw [set_same h.sb, e]
  refine ⟨?_, kpT R.gv ch.size R.zz⟩
  refine ⟨by rw [e1, e2, e3]; exact R.W (by decide) (by decide), by rw [e4, e5]; exact R.o (by decide) (by decide), hsb, by rw [e6]; exact R.cl (by decide) (by decide), by rw [e7]; exact R.pr (by decide) (by decide), by rw [e8]; exact R.fa (by decide) (by decide), by rw [e9]; exact R.nu (by decide) (by decide), by rw [e10]; exact R.tr (by decide) (by decide), R.b0, h.hB, h.hn, R.lo, by rw [e3]; exact R.ft (by decide), R.od (by decide), owT_mine (Q := fun j => decide (j = c.SB)) (.inl h.t.sb) (decide_eq_true rfl), R.ttb (by decide), fun j hj h1 => ?_, fun j hj => ?_, R.u7 (by decide)⟩
  · by_cases e : owT m.ow 6 w.heap.size (fun j => decide (j = c.SB)) j = 6
    · rcases owT_cases m.ow 6 w.heap.size (fun j => decide (j = c.SB)) j with q | ⟨_, q⟩ | ⟨q1, q2, q3⟩
      · exact absurd q h1
      · have : j = c.SB := by simpa using q
        subst this
        exact ⟨61, ⟨_, _, hsb⟩, by simp [Wt]⟩
      · rw [q1] at e; exact absurd e q3
    · exact R.ty j hj h1 e e
  · rcases owT_cases m.ow 6 w.heap.size (fun j => decide (j = c.SB)) j with q | ⟨_, q⟩ | ⟨q1, q2, q3⟩
    · change owT m.ow 6 w.heap.size (fun j => decide (j = c.SB)) j = 6 at hj; omega
    · simpa using q
    · change owT m.ow 6 w.heap.size (fun j => decide (j = c.SB)) j = 6 at hj; omega

/-- A list of the solver's, and the field that it lies in, have changed. -/
theorem Sm.two (h : Sm c w0 g s m w) {w1 : World} {i : Nat} {v v' : Value} (ht : (t ≠ 0 ∧ t ≠ 9) ∧ t ≠ 1 ∧ t ≠ 6) (gr : w.grownBy w1 v.ownBlock) (hv : ∀ j, v.ownBlock = some j → m.ow j = t) :
    Cg m.ow t 6 w (w1.setCell ⟨c.SB, i, none⟩ v') ∧ w1.heap[c.SB]? = some (.cells (sbc c s m) 61 (0, 0)) ∧ (w1.setCell ⟨c.SB, i, none⟩ v').heap[c.SB]? = some (.cells ((sbc c s m).setIfInBounds i v') 61 (0, 0)) ∧
      Rest c w0 w g s m (owT m.ow t w.heap.size (fun j => decide (v'.ownBlock = some j))) t 6 (w1.setCell ⟨c.SB, i, none⟩ v') := by
  have ch1 : Cg m.ow t 6 w w1 := Cg.grown gr (fun j e _ => hv j e)
  have hsb1 : w1.heap[c.SB]? = some (.cells (sbc c s m) 61 (0, 0)) := by
    rw [gr.block _ (blk_lt h.sb) (fun e => by have := hv _ e.symm; rw [h.t.sb] at this; omega)]; exact h.sb
  have ch : Cg m.ow t 6 w (w1.setCell ⟨c.SB, i, none⟩ v') := Cg.set ch1 (.inr h.t.sb) v'
  exact ⟨ch, hsb1, by rw [set_same hsb1], h.rest ch (h.old ch ht.2.1 (by decide)) ht.1 (by decide) _⟩

theorem tags_two {w2 : World} {v' : Value} (h : Sm c w0 g s m w) {ar : Array Value} (ht : t ≠ 6) (R : Rest c w0 w g s m (owT m.ow t w.heap.size (fun j => decide (v'.ownBlock = some j))) t 6 w2) (hsb : w2.heap[c.SB]? = some (.cells ar 61 (0, 0))) {T : TypeId} (hT : ¬ Wt T) (hty : ∀ j, v'.ownBlock = some j → Typ w2 j T) :
    ∀ j, j < w2.heap.size → owT m.ow t w.heap.size (fun j => decide (v'.ownBlock = some j)) j ≠ 1 → ∃ T, Typ w2 j T ∧ ¬ Wt T := by
  intro j hj h1
  rcases owT_cases m.ow t w.heap.size (fun j => decide (v'.ownBlock = some j)) j with q | ⟨_, q⟩ | ⟨q1, q2, q3⟩
  · exact absurd q h1
  · exact ⟨T, hty j (by simpa using q), hT⟩
  · by_cases e6 : m.ow j = 6
    · by_cases ej : j = c.SB
      · subst ej; exact ⟨61, ⟨_, _, hsb⟩, by simp [Wt]⟩
      · exact absurd (h.t.u6 j e6) ej
    · exact R.ty j hj h1 (by rw [q1]; exact q3) (by rw [q1]; exact e6)

/-! ### Blocks that have come -/
/-- Some of the new blocks are never written again. -/
def owZ (ow : Nat → Nat) (z : Nat) (Q : Nat → Bool) : Nat → Nat := fun j => if j < z then ow j else if Q j then 0 else 1
theorem owZ_old {ow : Nat → Nat} {z : Nat} {Q : Nat → Bool} {j : Nat} (h : j < z) : owZ ow z Q j = ow j := by unfold owZ; rw [if_pos h]
theorem owZ_new {ow : Nat → Nat} {z : Nat} {Q : Nat → Bool} {j : Nat} (h : z ≤ j) (hQ : Q j = true) : owZ ow z Q j = 0 := by unfold owZ; rw [if_neg (by omega), if_pos hQ]

theorem Sm.fresh (h : Sm c w0 g s m w) (b : Below w.heap.size w w') (Q : Nat → Bool) (hQ : ∀ j, Q j = true → w.heap.size ≤ j → j < w'.heap.size → ∃ T, Typ w' j T ∧ ¬ Wt T) : Sm c w0 g s { m with ow := owZ m.ow w.heap.size Q } w' ∧ Kp w0 w m.ow w' (owZ m.ow w.heap.size Q) := by
  have key : ∀ j, j < w.heap.size → w'.heap[j]? = w.heap[j]? := b.block
  have he : ∀ j, j < w.heap.size → owZ m.ow w.heap.size Q j = m.ow j := fun j hj => owZ_old hj
  have b0' := Below.next h.b0 b
  have hgv : ∀ vs xss, GVt w0 w m.ow vs xss → GVt w0 w' (owZ m.ow w.heap.size Q) vs xss := fun vs xss q => q.keep h.b0 b0' b.size (fun j hj _ => key j hj) (fun j hj _ => he j hj)
  have hkp : Kp w0 w m.ow w' (owZ m.ow w.heap.size Q) := ⟨hgv, fun j hj e => by rw [he j hj]; exact e, b.size, fun j hj e => ⟨key j hj, he j hj⟩⟩
  have hcr : ∀ (x : Nat) {v : Value} {xss : List (List Int)}, CR w0 w m.ow x v xss → CR w0 w' (owZ m.ow w.heap.size Q) x v xss := fun x v xss q => by
    obtain ⟨vs, h1, h2, h3⟩ := q
    exact ⟨vs, own_same h1 (fun j e => key j (own_lt h1 e).2), fun j e => by rw [he j (own_lt h1 e).2]; exact h2 j e, hgv _ _ h3.1, h3.2⟩
  refine ⟨⟨h.W.below b, h.o.below b, by rw [key _ (blk_lt h.sb)]; exact h.sb, hcr 4 h.cl, hcr 5 h.pr, ⟨own_same h.fa.1 (fun j e => key j (own_lt h.fa.1 e).2), fun j e => by show owZ _ _ _ j = 8; rw [he j (own_lt h.fa.1 e).2]; exact h.fa.2 j e⟩,
    ⟨OwnL.same h.nu.1 (fun j e => key j (h.nu.1.lt e).2), fun j e => by show owZ _ _ _ j = 3; rw [he j (h.nu.1.lt e).2]; exact h.nu.2 j e⟩, ⟨by rw [key _ (blk_lt h.tr.1)]; exact h.tr.1, h.tr.2⟩, b0', h.hB, h.hn,
    fun j hj => by show owZ _ _ _ j = 1; rw [he j (Nat.lt_of_lt_of_le hj h.b0.size)]; exact h.t.lo j hj, fun j hj => by show owZ _ _ _ j = 1; rw [he j (h.W.foot_lt hj)]; exact h.t.ft j hj, fun j hj => by show owZ _ _ _ j = 2; rw [he j (h.o.mine_lt hj).2]; exact h.t.od j hj,
    by show owZ _ _ _ c.SB = 6; rw [he _ (blk_lt h.sb)]; exact h.t.sb, by show owZ _ _ _ m.tb = 7; rw [he _ (blk_lt h.tr.1)]; exact h.t.tb, fun j hj h1 => ?_, fun j hj => ?_, fun j hj => ?_⟩, hkp⟩
  · change owZ m.ow w.heap.size Q j ≠ 1 at h1
    by_cases e : j < w.heap.size
    · rw [he j e] at h1
      obtain ⟨T, t1, t2⟩ := h.t.ty j e h1
      exact ⟨T, t1.same (key j e), t2⟩
    · unfold owZ at h1
      rw [if_neg e] at h1
      by_cases q : Q j = true
      · exact hQ j q (by omega) hj
      · rw [if_neg q] at h1; exact absurd rfl h1
  · change owZ m.ow w.heap.size Q j = 6 at hj
    unfold owZ at hj
    split at hj
    · exact h.t.u6 j hj
    · split at hj <;> omega
  · change owZ m.ow w.heap.size Q j = 7 at hj
    unfold owZ at hj
    split at hj
    · exact h.t.u7 j hj
    · split at hj <;> omega

def owN (ow : Nat → Nat) (z : Nat) (Q : Nat → Bool) : Nat → Nat := fun j => if j < z then ow j else if Q j then 9 else 1
theorem owN_old {ow : Nat → Nat} {z : Nat} {Q : Nat → Bool} {j : Nat} (h : j < z) : owN ow z Q j = ow j := by unfold owN; rw [if_pos h]
theorem owN_new {ow : Nat → Nat} {z : Nat} {Q : Nat → Bool} {j : Nat} (h : z ≤ j) (hQ : Q j = true) : owN ow z Q j = 9 := by unfold owN; rw [if_neg (by omega), if_pos hQ]

theorem Sm.fresh9 (h : Sm c w0 g s m w) (b : Below w.heap.size w w') (Q : Nat → Bool) (hQ : ∀ j, Q j = true → w.heap.size ≤ j → j < w'.heap.size → ∃ T, Typ w' j T ∧ ¬ Wt T) : Sm c w0 g s { m with ow := owN m.ow w.heap.size Q } w' ∧ Kp w0 w m.ow w' (owN m.ow w.heap.size Q) := by
  have key : ∀ j, j < w.heap.size → w'.heap[j]? = w.heap[j]? := b.block
  have he : ∀ j, j < w.heap.size → owN m.ow w.heap.size Q j = m.ow j := fun j hj => owN_old hj
  have b0' := Below.next h.b0 b
  have hgv : ∀ vs xss, GVt w0 w m.ow vs xss → GVt w0 w' (owN m.ow w.heap.size Q) vs xss := fun vs xss q => q.keep h.b0 b0' b.size (fun j hj _ => key j hj) (fun j hj _ => he j hj)
  have hkp : Kp w0 w m.ow w' (owN m.ow w.heap.size Q) := ⟨hgv, fun j hj e => by rw [he j hj]; exact e, b.size, fun j hj e => ⟨key j hj, he j hj⟩⟩
  have hcr : ∀ (x : Nat) {v : Value} {xss : List (List Int)}, CR w0 w m.ow x v xss → CR w0 w' (owN m.ow w.heap.size Q) x v xss := fun x v xss q => by
    obtain ⟨vs, h1, h2, h3⟩ := q
    exact ⟨vs, own_same h1 (fun j e => key j (own_lt h1 e).2), fun j e => by rw [he j (own_lt h1 e).2]; exact h2 j e, hgv _ _ h3.1, h3.2⟩
  refine ⟨⟨h.W.below b, h.o.below b, by rw [key _ (blk_lt h.sb)]; exact h.sb, hcr 4 h.cl, hcr 5 h.pr, ⟨own_same h.fa.1 (fun j e => key j (own_lt h.fa.1 e).2), fun j e => by show owN _ _ _ j = 8; rw [he j (own_lt h.fa.1 e).2]; exact h.fa.2 j e⟩,
    ⟨OwnL.same h.nu.1 (fun j e => key j (h.nu.1.lt e).2), fun j e => by show owN _ _ _ j = 3; rw [he j (h.nu.1.lt e).2]; exact h.nu.2 j e⟩, ⟨by rw [key _ (blk_lt h.tr.1)]; exact h.tr.1, h.tr.2⟩, b0', h.hB, h.hn,
    fun j hj => by show owN _ _ _ j = 1; rw [he j (Nat.lt_of_lt_of_le hj h.b0.size)]; exact h.t.lo j hj, fun j hj => by show owN _ _ _ j = 1; rw [he j (h.W.foot_lt hj)]; exact h.t.ft j hj, fun j hj => by show owN _ _ _ j = 2; rw [he j (h.o.mine_lt hj).2]; exact h.t.od j hj,
    by show owN _ _ _ c.SB = 6; rw [he _ (blk_lt h.sb)]; exact h.t.sb, by show owN _ _ _ m.tb = 7; rw [he _ (blk_lt h.tr.1)]; exact h.t.tb, fun j hj h1 => ?_, fun j hj => ?_, fun j hj => ?_⟩, hkp⟩
  · change owN m.ow w.heap.size Q j ≠ 1 at h1
    by_cases e : j < w.heap.size
    · rw [he j e] at h1
      obtain ⟨T, t1, t2⟩ := h.t.ty j e h1
      exact ⟨T, t1.same (key j e), t2⟩
    · unfold owN at h1
      rw [if_neg e] at h1
      by_cases q : Q j = true
      · exact hQ j q (by omega) hj
      · rw [if_neg q] at h1; exact absurd rfl h1
  · change owN m.ow w.heap.size Q j = 6 at hj
    unfold owN at hj
    split at hj
    · exact h.t.u6 j hj
    · split at hj <;> omega
  · change owN m.ow w.heap.size Q j = 7 at hj
    unfold owN at hj
    split at hj
    · exact h.t.u7 j hj
    · split at hj <;> omega

/-! ### Fields -/
theorem Sm.cell (h : Sm c w0 g s m w) (i : Nat) : w.cell? ⟨c.SB, i, none⟩ = (sbc c s m)[i]? := cell_of h.sb
theorem Sm.frz (h : Sm c w0 g s m w) (i : Nat) : w.frozen? ⟨c.SB, i, none⟩ = false := frozen_of h.sb
theorem Sm.c0 (h : Sm c w0 g s m w) : w.cell? ⟨c.SB, 0, none⟩ = some (.pointer (some ⟨c.k.OB, 0, none⟩)) := h.cell 0
theorem Sm.c1 (h : Sm c w0 g s m w) : w.cell? ⟨c.SB, 1, none⟩ = some (.pointer (some ⟨c.kw.OB, 0, none⟩)) := h.cell 1
theorem Sm.c2 (h : Sm c w0 g s m w) : w.cell? ⟨c.SB, 2, none⟩ = some (.pointer (some ⟨c.ko.OB, 0, none⟩)) := h.cell 2
theorem Sm.c3 (h : Sm c w0 g s m w) : w.cell? ⟨c.SB, 3, none⟩ = some m.cv := h.cell 3
theorem Sm.c4 (h : Sm c w0 g s m w) : w.cell? ⟨c.SB, 4, none⟩ = some (.int .i64 c.fst) := h.cell 4
theorem Sm.c5 (h : Sm c w0 g s m w) : w.cell? ⟨c.SB, 5, none⟩ = some m.fv := h.cell 5
theorem Sm.c6 (h : Sm c w0 g s m w) : w.cell? ⟨c.SB, 6, none⟩ = some m.nv := h.cell 6
theorem Sm.c7 (h : Sm c w0 g s m w) : w.cell? ⟨c.SB, 7, none⟩ = some (.bool c.all) := h.cell 7
theorem Sm.c8 (h : Sm c w0 g s m w) : w.cell? ⟨c.SB, 8, none⟩ = some (.int .i64 s.lim) := h.cell 8
theorem Sm.c9 (h : Sm c w0 g s m w) : w.cell? ⟨c.SB, 9, none⟩ = some m.pv := h.cell 9
theorem Sm.c10 (h : Sm c w0 g s m w) : w.cell? ⟨c.SB, 10, none⟩ = some (.slice (some ⟨m.tb, 0, none⟩) c.kw.n c.kw.n) := h.cell 10
theorem Sm.c11 (h : Sm c w0 g s m w) : w.cell? ⟨c.SB, 11, none⟩ = some (.int .i64 s.wg) := h.cell 11
theorem Sm.c12 (h : Sm c w0 g s m w) : w.cell? ⟨c.SB, 12, none⟩ = some (.int .i64 s.cf) := h.cell 12
theorem Sm.c13 (h : Sm c w0 g s m w) : w.cell? ⟨c.SB, 13, none⟩ = some (.int .i64 s.rd) := h.cell 13
theorem Sm.c14 (h : Sm c w0 g s m w) : w.cell? ⟨c.SB, 14, none⟩ = some (.int .i64 s.en) := h.cell 14
theorem Sm.sb_lt (h : Sm c w0 g s m w) : c.SB < w.heap.size := blk_lt h.sb

/-! ### Lists -/
theorem own_set_other {B : Nat} {T : TypeId} {sz n : Nat} {v : Value} {xs : List Value} {a : Addr} {x : Value} (h : w.ownsRow B T sz v n xs) (ha : ∀ j, v.ownBlock = some j → j ≠ a.block) : (w.setCell a x).ownsRow B T sz v n xs :=
  own_same h (fun j e => set_other x (ha j e))
theorem own_typ {B : Nat} {T : TypeId} {sz n : Nat} {v : Value} {xs : List Value} (h : w.ownsRow B T sz v n xs) {j : Nat} (e : v.ownBlock = some j) : Typ w j T := by
  rcases h.2 with ⟨rfl, _⟩ | ⟨b, cap, cur, rfl, _, hg, _⟩
  · simp [Value.ownBlock] at e
  · simp [Value.ownBlock] at e; subst e; exact ⟨_, _, hg⟩

/-- One clause more. -/
theorem Sm.addc {w1 : World} {v' : Value} {xs : List Int} {vs : List Value} {x : Value} (h : Sm c w0 g s m w) (hvs : w.ownsRow w0.heap.size 42 1 m.cv s.cls.length vs) (hg : GVt w0 w m.ow (vs ++ [x]) (s.cls ++ [xs])) (htv : ∀ j, m.cv.ownBlock = some j → m.ow j = 4) (own : w1.ownsRow w0.heap.size 42 1 v' (s.cls.length + 1) (vs ++ [x])) (gr : w.grownBy w1 m.cv.ownBlock) (nw : Nw w m.cv v') :
    w1.heap[c.SB]? = some (.cells (sbc c s m) 61 (0, 0)) ∧ Sm c w0 g { s with cls := s.cls ++ [xs] } { m with cv := v', ow := owT m.ow 4 w.heap.size (fun j => decide (v'.ownBlock = some j)) } (w1.setCell ⟨c.SB, 3, none⟩ v') ∧ Kp w0 w m.ow (w1.setCell ⟨c.SB, 3, none⟩ v') (owT m.ow 4 w.heap.size (fun j => decide (v'.ownBlock = some j))) := by
  obtain ⟨ch, hsb1, hsb2, R⟩ := h.two (t := 4) (i := 3) (v' := v') (by decide) gr htv
  have ho : ∀ j, v'.ownBlock = some j → j ≠ c.SB := fun j e q => by
    subst q
    have h1 := own_typ own e
    have := h1.one ⟨_, _, hsb1⟩
    cases this
  have own2 := own_set_other (x := v') (a := ⟨c.SB, 3, none⟩) own ho
  refine ⟨hsb1, ⟨R.W (by decide) (by decide), R.o (by decide) (by decide), hsb2, ?_, R.pr (by decide) (by decide), R.fa (by decide) (by decide), R.nu (by decide) (by decide), R.tr (by decide) (by decide), R.b0, h.hB, h.hn, R.lo, R.ft (by decide), R.od (by decide), R.tsb (by decide), R.ttb (by decide), tags_two h (by decide) R hsb2 (T := 42) (by simp [Wt]) (fun j e => own_typ own2 e), R.u6 (by decide), R.u7 (by decide)⟩, kpT R.gv ch.size R.zz⟩
  refine ⟨vs ++ [x], by rw [List.length_append]; exact own2, fun j e => ?_, R.gv _ _ hg, fun e => by cases e⟩
  exact owT_mine (Q := fun j => decide (v'.ownBlock = some j)) ((nw j e).elim (fun q => Or.inl (htv j q)) Or.inr) (decide_eq_true e)

/-- One clause more in the proof. -/
theorem Sm.addp {w1 : World} {v' : Value} {xs : List Int} {vs : List Value} {x : Value} (h : Sm c w0 g s m w) (hvs : w.ownsRow w0.heap.size 42 1 m.pv s.prf.length vs) (hg : GVt w0 w m.ow (vs ++ [x]) (s.prf ++ [xs])) (htv : ∀ j, m.pv.ownBlock = some j → m.ow j = 5) (own : w1.ownsRow w0.heap.size 42 1 v' (s.prf.length + 1) (vs ++ [x])) (gr : w.grownBy w1 m.pv.ownBlock) (nw : Nw w m.pv v') (hnw : Nwr w0 5 (vs ++ [x])) :
    w1.heap[c.SB]? = some (.cells (sbc c s m) 61 (0, 0)) ∧ Sm c w0 g { s with prf := s.prf ++ [xs] } { m with pv := v', ow := owT m.ow 5 w.heap.size (fun j => decide (v'.ownBlock = some j)) } (w1.setCell ⟨c.SB, 9, none⟩ v') ∧ Kp w0 w m.ow (w1.setCell ⟨c.SB, 9, none⟩ v') (owT m.ow 5 w.heap.size (fun j => decide (v'.ownBlock = some j))) := by
  obtain ⟨ch, hsb1, hsb2, R⟩ := h.two (t := 5) (i := 9) (v' := v') (by decide) gr htv
  have ho : ∀ j, v'.ownBlock = some j → j ≠ c.SB := fun j e q => by
    subst q
    have h1 := own_typ own e
    have := h1.one ⟨_, _, hsb1⟩
    cases this
  have own2 := own_set_other (x := v') (a := ⟨c.SB, 9, none⟩) own ho
  refine ⟨hsb1, ⟨R.W (by decide) (by decide), R.o (by decide) (by decide), hsb2, R.cl (by decide) (by decide), ?_, R.fa (by decide) (by decide), R.nu (by decide) (by decide), R.tr (by decide) (by decide), R.b0, h.hB, h.hn, R.lo, R.ft (by decide), R.od (by decide), R.tsb (by decide), R.ttb (by decide), tags_two h (by decide) R hsb2 (T := 42) (by simp [Wt]) (fun j e => own_typ own2 e), R.u6 (by decide), R.u7 (by decide)⟩, kpT R.gv ch.size R.zz⟩
  refine ⟨vs ++ [x], by rw [List.length_append]; exact own2, fun j e => ?_, R.gv _ _ hg, hnw⟩
  exact owT_mine (Q := fun j => decide (v'.ownBlock = some j)) ((nw j e).elim (fun q => Or.inl (htv j q)) Or.inr) (decide_eq_true e)

/-- One number more. -/
theorem Sm.addn {w1 : World} {v' : Value} {x : Int} (h : Sm c w0 g s m w) (own : OwnL w1 w0.heap.size v' (s.ns ++ [x])) (gr : w.grownBy w1 m.nv.ownBlock) (nw : Nw w m.nv v') :
    w1.heap[c.SB]? = some (.cells (sbc c s m) 61 (0, 0)) ∧ Sm c w0 g { s with ns := s.ns ++ [x] } { m with nv := v', ow := owT m.ow 3 w.heap.size (fun j => decide (v'.ownBlock = some j)) } (w1.setCell ⟨c.SB, 6, none⟩ v') ∧ Kp w0 w m.ow (w1.setCell ⟨c.SB, 6, none⟩ v') (owT m.ow 3 w.heap.size (fun j => decide (v'.ownBlock = some j))) := by
  obtain ⟨ch, hsb1, hsb2, R⟩ := h.two (t := 3) (i := 6) (v' := v') (by decide) gr h.nu.2
  have ho : ∀ j, v'.ownBlock = some j → j ≠ c.SB := fun j e q => by
    subst q
    have h1 := own_typ own e
    have := h1.one ⟨_, _, hsb1⟩
    cases this
  have own2 : OwnL (w1.setCell ⟨c.SB, 6, none⟩ v') w0.heap.size v' (s.ns ++ [x]) := own_set_other (x := v') (a := ⟨c.SB, 6, none⟩) own ho
  refine ⟨hsb1, ⟨R.W (by decide) (by decide), R.o (by decide) (by decide), hsb2, R.cl (by decide) (by decide), R.pr (by decide) (by decide), R.fa (by decide) (by decide), ⟨own2, fun j e => owT_mine (Q := fun j => decide (v'.ownBlock = some j)) ((nw j e).elim (fun q => Or.inl (h.nu.2 j q)) Or.inr) (decide_eq_true e)⟩, R.tr (by decide) (by decide), R.b0, h.hB, h.hn, R.lo, R.ft (by decide), R.od (by decide), R.tsb (by decide), R.ttb (by decide), tags_two h (by decide) R hsb2 (T := 3) (by simp [Wt]) (fun j e => own_typ own2 e), R.u6 (by decide), R.u7 (by decide)⟩, kpT R.gv ch.size R.zz⟩

/-- One fact more. -/
theorem Sm.addf {w1 : World} {v' : Value} {x : Fa} (h : Sm c w0 g s m w) (own : w1.ownsRow w0.heap.size 105 3 v' (s.fs.length + 1) (facc (s.fs ++ [x]))) (gr : w.grownBy w1 m.fv.ownBlock) (nw : Nw w m.fv v') :
    w1.heap[c.SB]? = some (.cells (sbc c s m) 61 (0, 0)) ∧ Sm c w0 g { s with fs := s.fs ++ [x] } { m with fv := v', ow := owT m.ow 8 w.heap.size (fun j => decide (v'.ownBlock = some j)) } (w1.setCell ⟨c.SB, 5, none⟩ v') ∧ Kp w0 w m.ow (w1.setCell ⟨c.SB, 5, none⟩ v') (owT m.ow 8 w.heap.size (fun j => decide (v'.ownBlock = some j))) := by
  obtain ⟨ch, hsb1, hsb2, R⟩ := h.two (t := 8) (i := 5) (v' := v') (by decide) gr h.fa.2
  have ho : ∀ j, v'.ownBlock = some j → j ≠ c.SB := fun j e q => by
    subst q
    have h1 := own_typ own e
    have := h1.one ⟨_, _, hsb1⟩
    cases this
  have own2 := own_set_other (x := v') (a := ⟨c.SB, 5, none⟩) own ho
  refine ⟨hsb1, ⟨R.W (by decide) (by decide), R.o (by decide) (by decide), hsb2, R.cl (by decide) (by decide), R.pr (by decide) (by decide), ⟨by rw [List.length_append]; exact own2, fun j e => owT_mine (Q := fun j => decide (v'.ownBlock = some j)) ((nw j e).elim (fun q => Or.inl (h.fa.2 j q)) Or.inr) (decide_eq_true e)⟩, R.nu (by decide) (by decide), R.tr (by decide) (by decide), R.b0, h.hB, h.hn, R.lo, R.ft (by decide), R.od (by decide), R.tsb (by decide), R.ttb (by decide), tags_two h (by decide) R hsb2 (T := 105) (by simp [Wt]) (fun j e => own_typ own2 e), R.u6 (by decide), R.u7 (by decide)⟩, kpT R.gv ch.size R.zz⟩

/-- A fact is written. -/
theorem Sm.putf (h : Sm c w0 g s m w) {b cap : Nat} (ev : m.fv = .slice (some ⟨b, 0, none⟩) s.fs.length cap) {i : Nat} (hi : i < s.fs.length) (x : Int) {f : Fa} (hf : s.fs[i]? = some f) :
    Sm c w0 g { s with fs := s.fs.set i { f with a := x } } { m with ow := owT m.ow 8 w.heap.size (fun j => decide (m.fv.ownBlock = some j)) } (w.setCell ⟨b, i * 3 + 2, none⟩ (.int .i64 x)) ∧ Kp w0 w m.ow (w.setCell ⟨b, i * 3 + 2, none⟩ (.int .i64 x)) (owT m.ow 8 w.heap.size (fun j => decide (m.fv.ownBlock = some j))) := by
  have hb8 : m.ow b = 8 := h.fa.2 b (by rw [ev]; rfl)
  have ch : Cg m.ow 8 8 w (w.setCell ⟨b, i * 3 + 2, none⟩ (.int .i64 x)) := Cg.set (Cg.below (Below.refl _ _)) (.inl hb8) _
  have R := h.rest ch (h.old ch (by decide) (by decide)) (by decide) (by decide) (fun j => decide (m.fv.ownBlock = some j))
  have key : facc (s.fs.set i { f with a := x }) = (facc s.fs).set (i * 3 + 2) (.int .i64 x) := by
    clear R ch h ev hb8
    revert i
    induction s.fs with
    | nil => intro i hi _; simp at hi
    | cons a fs ih =>
      intro i hi hf
      have e1 : ∀ (q : Fa) (r : List Fa), facc (q :: r) = .int .i64 q.s :: .int .i64 q.g :: .int .i64 q.a :: facc r := fun q r => rfl
      cases i with
      | zero => simp at hf; subst hf; simp [e1]
      | succ i =>
        simp only [List.set_cons_succ, e1]
        rw [ih (by simpa using hi) (by simpa using hf)]
        have : (i + 1) * 3 = (i * 3 + 2) + 1 := by omega
        rw [this]
        simp only [List.set_cons_succ]
  have own2 : (w.setCell ⟨b, i * 3 + 2, none⟩ (.int .i64 x)).ownsRow w0.heap.size 105 3 m.fv (s.fs.set i { f with a := x }).length (facc (s.fs.set i { f with a := x })) := by
    rw [List.length_set, key]
    refine ⟨by rw [List.length_set]; exact h.fa.1.1, ?_⟩
    rcases h.fa.1.2 with ⟨q, _⟩ | ⟨b', cp, cur, q, hb, hg, h1, h2, h3, h4⟩
    · rw [ev] at q; cases q
    · rw [ev] at q; cases q
      refine .inr ⟨b, cap, cur.setIfInBounds (i * 3 + 2) (.int .i64 x), ev, hb, set_same hg _, h1, h2, by simpa using h3, ?_⟩
      rw [← h4]
      simp [List.take_set]
  refine ⟨⟨R.W (by decide) (by decide), R.o (by decide) (by decide), R.sb (by decide) (by decide), R.cl (by decide) (by decide), R.pr (by decide) (by decide), ⟨own2, fun j e => owT_mine (Q := fun j => decide (m.fv.ownBlock = some j)) (.inl (h.fa.2 j e)) (decide_eq_true e)⟩, R.nu (by decide) (by decide), R.tr (by decide) (by decide), R.b0, h.hB, h.hn, R.lo, R.ft (by decide), R.od (by decide), R.tsb (by decide), R.ttb (by decide), fun j hj h1 => ?_, R.u6 (by decide), R.u7 (by decide)⟩, kpT R.gv ch.size R.zz⟩
  by_cases e : owT m.ow 8 w.heap.size (fun j => decide (m.fv.ownBlock = some j)) j = 8
  · rcases owT_cases m.ow 8 w.heap.size (fun j => decide (m.fv.ownBlock = some j)) j with q | ⟨_, q⟩ | ⟨q1, q2, q3⟩
    · exact absurd q h1
    · exact ⟨105, own_typ own2 (by simpa using q), by simp [Wt]⟩
    · rw [q1] at e; exact absurd e q3
  · exact R.ty j hj h1 e e
end
end Go.Proofs.YtimfjoinjfecjaaGreat
