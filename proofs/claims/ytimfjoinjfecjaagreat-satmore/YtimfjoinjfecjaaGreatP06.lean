/-
  A watch in memory: its own fields, the lists of clauses, the clauses.
-/
import Derived.Test.YtimfjoinjfecjaaGreatP02
import Derived.Test.YtimfjoinjfecjaaGreatP04
import Derived.Test.YtimfjoinjfecjaaGreatP05

namespace Go.Proofs.YtimfjoinjfecjaaGreat
open Go.RowKit Go.Maps
set_option linter.unusedVariables false

structure WK where
  n : Nat
  OB : Nat
  WB : Nat
  FB : Nat
  B : Nat

/-- What a watch has: clauses by their numbers; lists of clauses by slots: of each literal those that watch it, of each variable those that lean on it, those that wait. -/
structure G where
  nx : Nat
  cb : Nat → Nat
  lt : Nat → List Int
  lv : Nat → Value
  a : Nat → Int
  b : Nat → Int
  fr : Nat → Nat
  gn : Nat → Bool
  P : Nat → List Nat
  pv : Nat → Value
  pl : Nat → Int
  mp : Option Nat
  hv : Value
  dn : Nat
  rm : Nat

/-- What a watch has, without where it lies. -/
structure WP where
  nx : Nat
  lt : Nat → List Int
  a : Nat → Int
  b : Nat → Int
  fr : Nat → Nat
  gn : Nat → Bool
  P : Nat → List Nat
  pl : Nat → Int
  dn : Nat

def G.pt (g : G) : WP := ⟨g.nx, g.lt, g.a, g.b, g.fr, g.gn, g.P, g.pl, g.dn⟩

def up {α : Type} (f : Nat → α) (i : Nat) (x : α) : Nat → α := fun j => if j = i then x else f j
theorem up_same {α : Type} (f : Nat → α) (i : Nat) (x : α) : up f i x i = x := by simp [up]
theorem up_ne {α : Type} (f : Nat → α) {i j : Nat} (x : α) (h : j ≠ i) : up f i x j = f j := by simp [up, h]

def G.slot (g : G) (s : Nat) (xs : List Nat) (v : Value) : G := { g with P := up g.P s xs, pv := up g.pv s v }
def G.watch (g : G) (c : Nat) (x y : Int) : G := { g with a := up g.a c x, b := up g.b c y }
def G.from (g : G) (c : Nat) (f : Nat) : G := { g with fr := up g.fr c f }
def G.place (g : G) (v : Nat) (q : Int) : G := { g with pl := up g.pl v q }

def ptrElem : Value → Option (DataW (Option Addr) × List MemPlace)
  | .pointer p => some (.held p, [])
  | _ => none

def live (g : G) (x : Int) : Bool := decide (0 ≤ x ∧ x < g.nx) && !g.gn x.toNat
def liveN (g : G) : Nat := ((List.range g.nx).filter (fun i => !g.gn i)).length

structure MapAt (w : World) (g : G) (mb : Nat) (D : DataW (Option Addr)) : Prop where
  own : w.ownsMap Tryz.prog 3 ptrElem mb g.nx D
  val : ∀ x : Int, D.atKey (.int .i64 x) (.held none) = .held (if live g x = true then some ⟨g.cb x.toNat, 0, none⟩ else none)
  has : ∀ x : Int, Maps.has D (.int .i64 x) = live g x
  size : Maps.size D = liveN g

def MapOk (w : World) (g : G) : Prop := (g.mp = none ∧ g.nx = 0) ∨ ∃ mb D, g.mp = some mb ∧ MapAt w g mb D

/-- A clause's own fields. -/
def clc (g : G) (i : Nat) : Array Value :=
  if g.gn i then #[.int .i64 0, .slice none 0 0, .int .i64 0, .int .i64 0, .int .i64 0, .bool true]
  else #[.int .i64 i, g.lv i, .int .i64 (g.a i), .int .i64 (g.b i), .int .i64 (g.fr i), .bool false]

def LitRow (w : World) (v : Value) (xs : List Int) : Prop := ∃ ao n c, v = .slice ao n c ∧ U.Row w ao n c xs ∧ (0 < n → ∃ b off, ao = some ⟨b, off, none⟩ ∧ Typ w b 3)

/-- The watch's own fields, and its two lists of fields. -/
structure Con (k : WK) (w : World) (g : G) : Prop where
  ob : w.heap[k.OB]? = some (.cells #[.map g.mp, .int .i64 g.nx, .slice (some ⟨k.WB, 0, none⟩) (2 * k.n) (2 * k.n), .slice (some ⟨k.FB, 0, none⟩) k.n k.n, g.pv (3 * k.n), g.hv, .int .i64 g.dn, .int .i64 g.rm] 84 (0, 0))
  wb : ∃ c, w.heap[k.WB]? = some (.cells c 82 (0, 0)) ∧ c.size = 2 * k.n ∧ ∀ i, i < 2 * k.n → c[i]? = some (g.pv i)
  fb : ∃ c, w.heap[k.FB]? = some (.cells c 144 (0, 0)) ∧ c.size = k.n * 2 ∧ ∀ v, v < k.n → c[v * 2]? = some (.int .i64 (g.pl v)) ∧ c[v * 2 + 1]? = some (g.pv (2 * k.n + v))
  lo : k.B ≤ k.OB ∧ k.B ≤ k.WB ∧ k.B ≤ k.FB

/-- All of it lies above B. -/
structure LoL (k : WK) (g : G) : Prop where
  c : ∀ i, i < g.nx → k.B ≤ g.cb i
  p : ∀ s, s ≤ 3 * k.n → ∀ j, (g.pv s).ownBlock = some j → k.B ≤ j
  m : ∀ mb, g.mp = some mb → k.B ≤ mb

/-- Its lists and clauses. -/
structure Lst (k : WK) (w : World) (g : G) : Prop where
  hn : k.n ≤ 1048576
  cl : ∀ i, i < g.nx → w.heap[g.cb i]? = some (.cells (clc g i) 97 (0, 0))
  inj : ∀ i j, i < g.nx → j < g.nx → g.cb i = g.cb j → i = j
  rw : ∀ s, s ≤ 3 * k.n → PRow w g.cb (g.pv s) (g.P s)
  sub : ∀ s, s ≤ 3 * k.n → ∀ i ∈ g.P s, i < g.nx
  ne : ∀ s t, s ≤ 3 * k.n → t ≤ 3 * k.n → s ≠ t → ∀ j, (g.pv s).ownBlock = some j → (g.pv t).ownBlock ≠ some j
  li : ∀ i, i < g.nx → g.gn i = false → LitRow w (g.lv i) (g.lt i)
  mp : MapOk w g
  lo : LoL k g

structure St (k : WK) (w : World) (g : G) : Prop where
  c : Con k w g
  l : Lst k w g

/-! ### What alone has changed -/
def Wt (T : TypeId) : Prop := T = 84 ∨ T = 82 ∨ T = 144 ∨ T = 97 ∨ T = 92

/-- Blocks of watches alone have changed. -/
structure FW (B : Nat) (w w' : World) : Prop where
  os : w'.os = w.os
  tape : w'.tape = w.tape
  output : w'.output = w.output
  size : w.heap.size ≤ w'.heap.size
  block : ∀ j T, Typ w j T → ¬ Wt T → w'.heap[j]? = w.heap[j]?
  old : ∀ j, j < B → j < w.heap.size → w'.heap[j]? = w.heap[j]?

theorem FW.refl {B : Nat} (w : World) : FW B w w := ⟨rfl, rfl, rfl, Nat.le_refl _, fun _ _ _ _ => rfl, fun _ _ _ => rfl⟩
theorem FW.trans {B : Nat} {a b c : World} (h : FW B a b) (g : FW B b c) : FW B a c :=
  ⟨g.os.trans h.os, g.tape.trans h.tape, g.output.trans h.output, Nat.le_trans h.size g.size, fun j T ht hn => (g.block j T (ht.same (h.block j T ht hn)) hn).trans (h.block j T ht hn), fun j hj hl => (g.old j hj (Nat.lt_of_lt_of_le hl h.size)).trans (h.old j hj hl)⟩
theorem FW.grown {B : Nat} {w w' : World} {r : Option Nat} (g : w.grownBy w' r) (hr : ∀ j T, r = some j → Typ w j T → Wt T) (hl : ∀ j, r = some j → B ≤ j) : FW B w w' :=
  ⟨g.os, g.tape, g.output, g.size, fun j T ht hn => g.block j ht.lt (fun e => hn (hr j T e.symm ht)), fun j hj hs => g.block j hs (fun e => by have := hl j e.symm; omega)⟩
theorem FW.below {B : Nat} {w w' : World} (b : Below w.heap.size w w') : FW B w w' := FW.grown (grown_below b) (fun j T h => by cases h) (fun j h => by cases h)
theorem FW.be {B : Nat} {w0 w w' : World} (f : FW B w w') (hB : B = w0.heap.size) (b : Below w0.heap.size w0 w) : Below w0.heap.size w0 w' :=
  ⟨f.os.trans b.os, f.tape.trans b.tape, f.output.trans b.output, Nat.le_trans b.size f.size, fun j hj => (f.old j (by omega) (Nat.lt_of_lt_of_le hj b.size)).trans (b.block j hj)⟩

theorem Typ.one {w : World} {j : Nat} {T T' : TypeId} (h : Typ w j T) (g : Typ w j T') : T = T' := by
  obtain ⟨c, f, h⟩ := h
  obtain ⟨c', f', g⟩ := g
  rw [h] at g
  cases g; rfl

/-! ### A trail beside it -/
theorem LRow.typ {w : World} {base : Nat} {v : Value} {xs : List Int} (h : LRow w base v xs) {j : Nat} (hj : v.ownBlock = some j) : Typ w j 3 := by
  rcases h with ⟨rfl, _⟩ | ⟨b, cap, cur, rfl, hb, hg, _⟩
  · simp [Value.ownBlock] at hj
  · simp [Value.ownBlock] at hj; subst hj; exact ⟨_, _, hg⟩

theorem LRow.same {w w' : World} {base : Nat} {v : Value} {xs : List Int} (h : LRow w base v xs) (hb : ∀ j, v.ownBlock = some j → w'.heap[j]? = w.heap[j]?) : LRow w' base v xs := by
  rcases h with h | ⟨b, cap, cur, rfl, h1, hg, rest⟩
  · exact .inl h
  · exact .inr ⟨b, cap, cur, rfl, h1, by rw [hb b rfl]; exact hg, rest⟩

theorem OwnL.same {w w' : World} {base : Nat} {v : Value} {xs : List Int} (h : OwnL w base v xs) (hb : ∀ j, v.ownBlock = some j → w'.heap[j]? = w.heap[j]?) : OwnL w' base v xs := by
  refine ⟨h.1, ?_⟩
  rcases h.2 with h2 | ⟨b, cap, cur, rfl, h1, hg, rest⟩
  · exact .inl h2
  · exact .inr ⟨b, cap, cur, rfl, h1, by rw [hb b rfl]; exact hg, rest⟩

theorem Raw.mine_typ {k : K} {w : World} {F : Nat → Fc} {ls ss : List Int} {p : V} (s : Raw k w F ls ss p) {j : Nat} (h : Mine k p j) : ∃ T, Typ w j T ∧ ¬ Wt T := by
  rcases h with e | e | e | e
  · obtain ⟨c, h, _⟩ := s.fc
    exact ⟨157, by rw [e]; exact ⟨_, _, h⟩, by simp [Wt]⟩
  · exact ⟨78, by rw [e]; exact ⟨_, _, s.cl⟩, by simp [Wt]⟩
  · exact ⟨3, s.rl.typ e, by simp [Wt]⟩
  · exact ⟨3, (LRow.of_own s.rs).typ e, by simp [Wt]⟩

theorem Raw.same {k : K} {w w' : World} {F : Nat → Fc} {ls ss : List Int} {p : V} (s : Raw k w F ls ss p) (h : ∀ j, Mine k p j → w'.heap[j]? = w.heap[j]?) : Raw k w' F ls ss p := by
  refine ⟨s.lo, s.lt, s.hn, by rw [h _ (.inr (.inl rfl))]; exact s.cl, ?_, s.rl.same (fun j e => h j (.inr (.inr (.inl e)))), s.rs.same (fun j e => h j (.inr (.inr (.inr e)))), s.ne⟩
  obtain ⟨c, h1, h2⟩ := s.fc
  exact ⟨c, by rw [h _ (.inl rfl)]; exact h1, h2⟩

theorem Trl.mine_typ {k : K} {w : World} {L : List E} {lev : Nat} {p : V} (t : Trl k w L lev p) {j : Nat} (h : Mine k p j) : ∃ T, Typ w j T ∧ ¬ Wt T := by
  obtain ⟨F, S, s, _⟩ := t; exact s.mine_typ h

theorem Trl.fw {k : K} {B : Nat} {w w' : World} {L : List E} {lev : Nat} {p : V} (t : Trl k w L lev p) (f : FW B w w') : Trl k w' L lev p := by
  obtain ⟨F, S, s, g, h⟩ := t
  refine ⟨F, S, s.same (fun j hj => ?_), g, h⟩
  obtain ⟨T, h1, h2⟩ := s.mine_typ hj
  exact f.block j T h1 h2

/-- From w to w' blocks of watches and of the trail alone have changed. -/
structure FT (k : K) (B : Nat) (p p' : V) (w w' : World) : Prop where
  os : w'.os = w.os
  tape : w'.tape = w.tape
  output : w'.output = w.output
  size : w.heap.size ≤ w'.heap.size
  block : ∀ j T, Typ w j T → ¬ Wt T → ¬ Mine k p j → w'.heap[j]? = w.heap[j]?
  old : ∀ j, j < B → j < w.heap.size → w'.heap[j]? = w.heap[j]?
  new : ∀ j, j < w.heap.size → Mine k p' j → Mine k p j
  safe : ∀ g i T, Typ w g T → ¬ Wt T → Safe k p g i → w'.cell? ⟨g, i, none⟩ = w.cell? ⟨g, i, none⟩ ∧ Typ w' g T ∧ Safe k p' g i

theorem FT.refl (k : K) (B : Nat) (p : V) (w : World) : FT k B p p w w := ⟨rfl, rfl, rfl, Nat.le_refl _, fun _ _ _ _ _ => rfl, fun _ _ _ => rfl, fun _ _ h => h, fun _ _ _ ht _ h => ⟨rfl, ht, h⟩⟩
theorem FT.trans {k : K} {B : Nat} {p p' p'' : V} {w w' w'' : World} (h : FT k B p p' w w') (g : FT k B p' p'' w' w'') : FT k B p p'' w w'' := by
  refine ⟨g.os.trans h.os, g.tape.trans h.tape, g.output.trans h.output, Nat.le_trans h.size g.size, fun j T ht hn hm => ?_, fun j hj hl => (g.old j hj (Nat.lt_of_lt_of_le hl h.size)).trans (h.old j hj hl), fun j hj hm => ?_, fun b i T ht hn hs => ?_⟩
  · have e := h.block j T ht hn hm
    rw [g.block j T (ht.same e) hn (fun c => hm (h.new j ht.lt c)), e]
  · exact h.new j hj (g.new j (Nat.lt_of_lt_of_le hj h.size) hm)
  · obtain ⟨a1, a2, a3⟩ := h.safe b i T ht hn hs
    obtain ⟨b1, b2, b3⟩ := g.safe b i T a2 hn a3
    exact ⟨b1.trans a1, b2, b3⟩
theorem FT.fw {k : K} {B : Nat} {p : V} {w w' : World} (f : FW B w w') : FT k B p p w w' :=
  ⟨f.os, f.tape, f.output, f.size, fun j T ht hn _ => f.block j T ht hn, f.old, fun _ _ h => h, fun b i T ht hn hs => ⟨World.cell?_of_block (f.block b T ht hn), ht.same (f.block b T ht hn), hs⟩⟩
theorem FT.fr {k : K} {B : Nat} {p p' : V} {w w' : World} {L : List E} {lev : Nat} (t : Trl k w L lev p) (hB : B ≤ k.B) (f : Fr k p p' w w') : FT k B p p' w w' :=
  ⟨f.os, f.tape, f.output, f.size, fun j T ht hn hm => f.block j ht.lt hm, fun j hj hl => f.block j hl (fun m => by have := (t.lt m).1; omega), f.new, fun b i T ht hn hs => f.safe b i T ht hs⟩
theorem FT.below {k : K} {B : Nat} {p : V} {w w' : World} (b : Below w.heap.size w w') : FT k B p p w w' := FT.fw (FW.below b)
theorem FT.be {k : K} {B : Nat} {p p' : V} {w0 w w' : World} (f : FT k B p p' w w') (hB : B = w0.heap.size) (b : Below w0.heap.size w0 w) : Below w0.heap.size w0 w' :=
  ⟨f.os.trans b.os, f.tape.trans b.tape, f.output.trans b.output, Nat.le_trans b.size f.size, fun j hj => (f.old j (by omega) (Nat.lt_of_lt_of_le hj b.size)).trans (b.block j hj)⟩

/-- What a trail once told: it is as it was. -/
def Told (k : K) (p : V) (w : World) (v : Value) (xs : List Int) : Prop :=
  ∃ ao n c, v = .slice ao n c ∧ xs.length = n ∧ n ≤ c ∧ c ≤ maxLen ∧ (ao = none → c = 0) ∧ (∀ b off, ao = some ⟨b, off, none⟩ → off = 0) ∧ (∀ x ∈ xs, 0 ≤ x ∧ x ≤ 9223372036854775807) ∧ ∀ (j : Nat) (x : Int), xs[j]? = some x → ∃ b, ao = some ⟨b, 0, none⟩ ∧ w.cell? ⟨b, j, none⟩ = some (.int .i64 x) ∧ Typ w b 3 ∧ Safe k p b j

theorem Told.ft {k : K} {B : Nat} {p p' : V} {w w' : World} {v : Value} {xs : List Int} (h : Told k p w v xs) (f : FT k B p p' w w') : Told k p' w' v xs := by
  obtain ⟨ao, n, c, h1, h2, h3, h4, h5, h5', h6, h7⟩ := h
  refine ⟨ao, n, c, h1, h2, h3, h4, h5, h5', h6, fun j x hx => ?_⟩
  obtain ⟨b, q1, q2, q3, q4⟩ := h7 j x hx
  obtain ⟨r1, r2, r3⟩ := f.safe b j 3 q3 (by simp [Wt]) q4
  exact ⟨b, q1, r1.trans q2, r2, r3⟩

theorem Told.nil (k : K) (p : V) (w : World) : Told k p w (.slice none 0 0) [] := by
  refine ⟨none, 0, 0, rfl, rfl, Nat.le_refl _, by unfold maxLen; omega, fun _ => rfl, ?_, ?_, ?_⟩
  · intro b off e; cases e
  · intro x hx; simp at hx
  · intro j x hx; simp at hx

theorem Told.row {k : K} {p : V} {w : World} {ao : Option Addr} {n c : Nat} {xs : List Int} (h : Told k p w (.slice ao n c) xs) : U.Row w ao n c xs := by
  obtain ⟨ao', n', c', e, h2, h3, h4, h5, h5', h6, h7⟩ := h
  cases e
  refine ⟨h2, h3, h4, h5, fun x hx => by obtain ⟨a1, a2⟩ := h6 x hx; exact ⟨by omega, a2⟩, fun h0 => ?_⟩
  obtain ⟨b, e, _⟩ := h7 0 _ (List.getElem?_eq_getElem (l := xs) (by omega))
  refine ⟨b, 0, e, fun j hj => ?_⟩
  have hl : j < xs.length := by omega
  obtain ⟨b', e', q, _⟩ := h7 j _ (List.getElem?_eq_getElem hl)
  rw [e] at e'; cases e'
  rw [Nat.zero_add, q]
  simp [hl]

/-! ### Rows of literals -/
theorem Row.same {w w' : World} {ao : Option Addr} {n c : Nat} {xs : List Int} (h : U.Row w ao n c xs) (hb : ∀ b off, 0 < n → ao = some ⟨b, off, none⟩ → w'.heap[b]? = w.heap[b]?) : U.Row w' ao n c xs := by
  refine ⟨h.1, h.2.1, h.2.2.1, h.2.2.2.1, h.2.2.2.2.1, fun h0 => ?_⟩
  obtain ⟨b, off, e, hc⟩ := h.2.2.2.2.2 h0
  exact ⟨b, off, e, fun j hj => by rw [← hc j hj]; exact World.cell?_of_block (hb b off h0 e)⟩

theorem LitRow.same {w w' : World} {v : Value} {xs : List Int} (h : LitRow w v xs) (hb : ∀ j, v.ownBlock = some j → 0 < xs.length → Typ w j 3 → w'.heap[j]? = w.heap[j]?) : LitRow w' v xs := by
  obtain ⟨ao, n, c, rfl, h1, h2⟩ := h
  have hl := h1.1
  refine ⟨ao, n, c, rfl, Row.same h1 (fun b off h0 e => ?_), fun h0 => ?_⟩
  · subst e
    obtain ⟨b', off', e', ht⟩ := h2 h0
    cases e'
    exact hb b rfl (by omega) ht
  · obtain ⟨b, off, rfl, ht⟩ := h2 h0
    exact ⟨b, off, rfl, ht.same (hb b rfl (by omega) ht)⟩

/-! ### What stays -/
section
variable {k : WK} {w w' : World} {g : G}

theorem MapAt.same {mb : Nat} {D : DataW (Option Addr)} (h : MapAt w g mb D) (e : w'.heap[mb]? = w.heap[mb]?) : MapAt w' g mb D := by
  obtain ⟨es, clock, hb, r⟩ := h.own
  exact ⟨⟨es, clock, e.trans hb, r⟩, h.val, h.has, h.size⟩

theorem MapOk.same (h : MapOk w g) (hm : ∀ (j : Nat) es clock, w.heap[j]? = some (Obj.map es clock) → w'.heap[j]? = w.heap[j]?) : MapOk w' g := by
  rcases h with h | ⟨mb, D, h1, h2⟩
  · exact .inl h
  · obtain ⟨es, clock, hb, r⟩ := id h2.own
    exact .inr ⟨mb, D, h1, h2.same (hm mb es clock hb)⟩

theorem MapOk.as (h : MapOk w g) {g' : G} (e1 : g'.nx = g.nx) (e2 : g'.cb = g.cb) (e3 : g'.gn = g.gn) (e4 : g'.mp = g.mp) : MapOk w g' := by
  rcases h with ⟨h1, h2⟩ | ⟨mb, D, h1, h2⟩
  · exact .inl ⟨e4.trans h1, e1.trans h2⟩
  · have hl : ∀ x, live g' x = live g x := fun x => by simp only [live, e1, e3]
    refine .inr ⟨mb, D, e4.trans h1, by rw [e1]; exact h2.own, fun x => ?_, fun x => ?_, ?_⟩
    · rw [hl, e2]; exact h2.val x
    · rw [hl]; exact h2.has x
    · rw [h2.size, liveN, liveN, e1, e3]

theorem Con.same (h : Con k w g) (hb : ∀ j T, Typ w j T → (T = 84 ∨ T = 82 ∨ T = 144) → w'.heap[j]? = w.heap[j]?) : Con k w' g := by
  refine ⟨by rw [hb _ 84 ⟨_, _, h.ob⟩ (by simp)]; exact h.ob, ?_, ?_, h.lo⟩
  · obtain ⟨c, h1, h2⟩ := h.wb
    exact ⟨c, by rw [hb _ 82 ⟨_, _, h1⟩ (by simp)]; exact h1, h2⟩
  · obtain ⟨c, h1, h2⟩ := h.fb
    exact ⟨c, by rw [hb _ 144 ⟨_, _, h1⟩ (by simp)]; exact h1, h2⟩

theorem Lst.same (h : Lst k w g) (hb : ∀ j T, Typ w j T → (T = 97 ∨ T = 92) → w'.heap[j]? = w.heap[j]?) (hm : ∀ (j : Nat) es clock, w.heap[j]? = some (Obj.map es clock) → w'.heap[j]? = w.heap[j]?)
    (hl : ∀ i j, i < g.nx → g.gn i = false → (g.lv i).ownBlock = some j → 0 < (g.lt i).length → Typ w j 3 → w'.heap[j]? = w.heap[j]?) : Lst k w' g := by
  refine ⟨h.hn, fun i hi => ?_, h.inj, fun s hs => (h.rw s hs).same (fun j c f e _ => hb j 92 ⟨_, _, e⟩ (by simp)), h.sub, h.ne, fun i hi hg => (h.li i hi hg).same (fun j e h0 ht => hl i j hi hg e h0 ht), h.mp.same hm, h.lo⟩
  have := h.cl i hi
  rw [hb _ 97 ⟨_, _, this⟩ (by simp)]; exact this

theorem St.same (h : St k w g) (hb : ∀ j T, Typ w j T → Wt T → w'.heap[j]? = w.heap[j]?) (hm : ∀ (j : Nat) es clock, w.heap[j]? = some (Obj.map es clock) → w'.heap[j]? = w.heap[j]?)
    (hl : ∀ i j, i < g.nx → g.gn i = false → (g.lv i).ownBlock = some j → 0 < (g.lt i).length → Typ w j 3 → w'.heap[j]? = w.heap[j]?) : St k w' g :=
  ⟨h.c.same (fun j T ht hT => hb j T ht (by rcases hT with rfl | rfl | rfl <;> simp [Wt])), h.l.same (fun j T ht hT => hb j T ht (by rcases hT with rfl | rfl <;> simp [Wt])) hm hl⟩

theorem St.grown (h : St k w g) (b : w.grownBy w' none) : St k w' g :=
  h.same (fun j T ht _ => b.block j ht.lt (by simp)) (fun j es clock e => b.block j (blk_lt e) (by simp)) (fun i j _ _ _ _ ht => b.block j ht.lt (by simp))
theorem St.below (h : St k w g) (b : Below w.heap.size w w') : St k w' g := h.grown (grown_below b)
theorem St.drew (h : St k w g) : St k w.drew g := h.below (below_drew w)
theorem Lst.grown (h : Lst k w g) (b : w.grownBy w' none) : Lst k w' g :=
  h.same (fun j T ht _ => b.block j ht.lt (by simp)) (fun j es clock e => b.block j (blk_lt e) (by simp)) (fun i j _ _ _ _ ht => b.block j ht.lt (by simp))

/-- A block of fields alone has changed. -/
theorem Lst.other (h : Lst k w g) {r : Nat} {T : TypeId} (b : w.grownBy w' (some r)) (hT : Typ w r T) (h1 : T ≠ 97) (h2 : T ≠ 92) (h3 : T ≠ 3) : Lst k w' g := by
  have key : ∀ j T', Typ w j T' → T' ≠ T → w'.heap[j]? = w.heap[j]? := fun j T' ht hne => b.block j ht.lt (fun e => hne (by cases e; exact ht.one hT))
  refine h.same (fun j T' ht hT' => key j T' ht (by rintro rfl; rcases hT' with rfl | rfl <;> contradiction)) (fun j es clock e => b.block j (blk_lt e) (fun e2 => ?_)) (fun i j _ _ _ _ ht => key j 3 ht (fun e => h3 e.symm))
  cases e2; obtain ⟨c, f, q⟩ := hT; rw [e] at q; cases q

theorem Con.other (h : Con k w g) {r : Option Nat} (b : w.grownBy w' r) (hT : ∀ j T, r = some j → Typ w j T → T ≠ 84 ∧ T ≠ 82 ∧ T ≠ 144) : Con k w' g :=
  h.same (fun j T ht hT' => b.block j ht.lt (fun e => by obtain ⟨a1, a2, a3⟩ := hT j T e.symm ht; rcases hT' with q | q | q <;> contradiction))

/-- One list has changed, and lies where it lay or elsewhere. -/
theorem St.list (h : St k w g) {s : Nat} (hs : s ≤ 3 * k.n) {v : Value} {xs : List Nat} (b : w.grownBy w' (g.pv s).ownBlock) (hr : PRow w' g.cb v xs) (nw : Nw w (g.pv s) v) (hx : ∀ i ∈ xs, i < g.nx) : Con k w' g ∧ Lst k w' (g.slot s xs v) := by
  have ht : ∀ j T, (g.pv s).ownBlock = some j → Typ w j T → T = 92 := fun j T e t => t.one ((h.l.rw s hs).typ e)
  have key : ∀ j T, Typ w j T → T ≠ 92 → w'.heap[j]? = w.heap[j]? := fun j T t hne => b.block j t.lt (fun e => hne (ht j T e.symm t))
  refine ⟨h.c.other b (fun j T e t => by rw [ht j T e t]; decide), h.l.hn, fun i hi => ?_, h.l.inj, fun t hT => ?_, fun t hT i hi => ?_, fun t u hT hU htu j hj => ?_, fun i hi hg => (h.l.li i hi hg).same (fun j e h0 q => key j 3 q (by decide)), ?_, h.l.lo.c, fun t hT j hj => ?_, h.l.lo.m⟩
  · have := h.l.cl i hi
    rw [show (g.slot s xs v).cb = g.cb from rfl, key _ 97 ⟨_, _, this⟩ (by decide)]; exact this
  · simp only [G.slot, up]
    by_cases e : t = s
    · rw [if_pos e, if_pos e]; exact hr
    · rw [if_neg e, if_neg e]
      exact (h.l.rw t hT).keep b (fun j hj => h.l.ne s t hs hT (fun c => e c.symm) j hj)
  · simp only [G.slot, up] at hi
    by_cases e : t = s
    · rw [if_pos e] at hi; exact hx i hi
    · rw [if_neg e] at hi; exact h.l.sub t hT i hi
  · simp only [G.slot, up] at hj ⊢
    by_cases e : t = s <;> by_cases e2 : u = s
    · omega
    · rw [if_pos e] at hj; rw [if_neg e2]
      rcases nw j hj with q | q
      · exact h.l.ne s u hs hU (fun c => e2 c.symm) j q
      · intro c; have := (h.l.rw u hU).lt c; omega
    · rw [if_neg e] at hj; rw [if_pos e2]
      intro c
      rcases nw j c with q | q
      · exact h.l.ne t s hT hs e j hj q
      · have := (h.l.rw t hT).lt hj; omega
    · rw [if_neg e] at hj; rw [if_neg e2]; exact h.l.ne t u hT hU htu j hj
  · refine MapOk.as (g := g) (MapOk.same (g := g) h.l.mp (fun j es clock e => b.block j (blk_lt e) (fun e2 => ?_))) rfl rfl rfl rfl
    obtain ⟨c, f, q⟩ := (h.l.rw s hs).typ e2.symm
    rw [e] at q; cases q
  · simp only [G.slot, up] at hj
    by_cases e : t = s
    · rw [if_pos e] at hj
      rcases nw j hj with q | q
      · exact h.l.lo.p s hs j q
      · have h1 := h.c.lo.1
        have h2 := blk_lt h.c.ob
        omega
    · rw [if_neg e] at hj; exact h.l.lo.p t hT j hj

/-- The list is put where it belongs: of a literal, of a variable, of those that wait. -/
theorem Con.putw (h : Con k w g) {s : Nat} (hs : s < 2 * k.n) (xs : List Nat) (v : Value) (l : Lst k w (g.slot s xs v)) : St k (w.setCell ⟨k.WB, s, none⟩ v) (g.slot s xs v) := by
  obtain ⟨c, h1, h2, h3⟩ := h.wb
  have gr := grown_set w ⟨k.WB, s, none⟩ v
  have ht : Typ w k.WB 82 := ⟨_, _, h1⟩
  have n1 : k.OB ≠ k.WB := blk_ne h.ob h1 (by decide)
  refine ⟨⟨?_, ?_, ?_, h.lo⟩, l.other gr ht (by decide) (by decide) (by decide)⟩
  · rw [gr.block _ (blk_lt h.ob) (fun e => n1 (Option.some.inj e))]
    simp only [G.slot]
    rw [up_ne _ _ (by omega)]; exact h.ob
  · refine ⟨_, set_same h1 v, by simpa using h2, fun i hi => ?_⟩
    simp only [G.slot, up]
    rw [Array.getElem?_setIfInBounds]
    by_cases e : s = i
    · subst e; rw [if_pos rfl, if_pos (by omega), if_pos rfl]
    · rw [if_neg e, if_neg (fun c => e c.symm)]; exact h3 i hi
  · obtain ⟨c', q1, q2, q3⟩ := h.fb
    have n2 : k.FB ≠ k.WB := blk_ne q1 h1 (by decide)
    refine ⟨c', by rw [gr.block _ (blk_lt q1) (fun e => n2 (Option.some.inj e))]; exact q1, q2, fun u hu => ?_⟩
    simp only [G.slot]
    rw [up_ne _ _ (by omega)]; exact q3 u hu

theorem Con.putl (h : Con k w g) {u : Nat} (hu : u < k.n) (xs : List Nat) (v : Value) (l : Lst k w (g.slot (2 * k.n + u) xs v)) : St k (w.setCell ⟨k.FB, u * 2 + 1, none⟩ v) (g.slot (2 * k.n + u) xs v) := by
  obtain ⟨c, h1, h2, h3⟩ := h.fb
  have gr := grown_set w ⟨k.FB, u * 2 + 1, none⟩ v
  have ht : Typ w k.FB 144 := ⟨_, _, h1⟩
  have n1 : k.OB ≠ k.FB := blk_ne h.ob h1 (by decide)
  refine ⟨⟨?_, ?_, ?_, h.lo⟩, l.other gr ht (by decide) (by decide) (by decide)⟩
  · rw [gr.block _ (blk_lt h.ob) (fun e => n1 (Option.some.inj e))]
    simp only [G.slot]
    rw [up_ne _ _ (by omega)]; exact h.ob
  · obtain ⟨c', q1, q2, q3⟩ := h.wb
    have n2 : k.WB ≠ k.FB := blk_ne q1 h1 (by decide)
    refine ⟨c', by rw [gr.block _ (blk_lt q1) (fun e => n2 (Option.some.inj e))]; exact q1, q2, fun i hi => ?_⟩
    simp only [G.slot]
    rw [up_ne _ _ (by omega)]; exact q3 i hi
  · refine ⟨_, set_same h1 v, by simpa using h2, fun i hi => ?_⟩
    obtain ⟨r1, r2⟩ := h3 i hi
    simp only [G.slot, up]
    rw [Array.getElem?_setIfInBounds, Array.getElem?_setIfInBounds, if_neg (by omega)]
    refine ⟨r1, ?_⟩
    by_cases e : u = i
    · subst e; rw [if_pos rfl, if_pos (by omega), if_pos rfl]
    · rw [if_neg (by omega), if_neg (by omega)]; exact r2

theorem Con.puta (h : Con k w g) (xs : List Nat) (v : Value) (l : Lst k w (g.slot (3 * k.n) xs v)) : St k (w.setCell ⟨k.OB, 4, none⟩ v) (g.slot (3 * k.n) xs v) := by
  have gr := grown_set w ⟨k.OB, 4, none⟩ v
  have ht : Typ w k.OB 84 := ⟨_, _, h.ob⟩
  obtain ⟨c, h1, h2, h3⟩ := h.wb
  obtain ⟨c', q1, q2, q3⟩ := h.fb
  have n1 : k.WB ≠ k.OB := blk_ne h1 h.ob (by decide)
  have n2 : k.FB ≠ k.OB := blk_ne q1 h.ob (by decide)
  refine ⟨⟨?_, ?_, ?_, h.lo⟩, l.other gr ht (by decide) (by decide) (by decide)⟩
  · rw [set_same h.ob]
    simp only [G.slot]
    rw [up_same]
    rfl
  · refine ⟨c, by rw [gr.block _ (blk_lt h1) (fun e => n1 (Option.some.inj e))]; exact h1, h2, fun i hi => ?_⟩
    simp only [G.slot]
    rw [up_ne _ _ (by omega)]; exact h3 i hi
  · refine ⟨c', by rw [gr.block _ (blk_lt q1) (fun e => n2 (Option.some.inj e))]; exact q1, q2, fun i hi => ?_⟩
    simp only [G.slot]
    rw [up_ne _ _ (by omega)]; exact q3 i hi

/-! ### Fields -/
theorem St.fieldO (h : St k w g) (i : Nat) (v : Value) (g' : G) (e1 : (#[Value.map g.mp, .int .i64 g.nx, .slice (some ⟨k.WB, 0, none⟩) (2 * k.n) (2 * k.n), .slice (some ⟨k.FB, 0, none⟩) k.n k.n, g.pv (3 * k.n), g.hv, .int .i64 g.dn, .int .i64 g.rm].setIfInBounds i v) = #[.map g'.mp, .int .i64 g'.nx, .slice (some ⟨k.WB, 0, none⟩) (2 * k.n) (2 * k.n), .slice (some ⟨k.FB, 0, none⟩) k.n k.n, g'.pv (3 * k.n), g'.hv, .int .i64 g'.dn, .int .i64 g'.rm])
    (e2 : g'.pv = g.pv) (e3 : g'.pl = g.pl) (l : Lst k w g → Lst k w g') : St k (w.setCell ⟨k.OB, i, none⟩ v) g' := by
  have gr := grown_set w ⟨k.OB, i, none⟩ v
  have ht : Typ w k.OB 84 := ⟨_, _, h.c.ob⟩
  obtain ⟨c, h1, h2, h3⟩ := h.c.wb
  obtain ⟨c', q1, q2, q3⟩ := h.c.fb
  have n1 : k.WB ≠ k.OB := blk_ne h1 h.c.ob (by decide)
  have n2 : k.FB ≠ k.OB := blk_ne q1 h.c.ob (by decide)
  refine ⟨⟨?_, ?_, ?_, h.c.lo⟩, (l h.l).other gr ht (by decide) (by decide) (by decide)⟩
  · rw [set_same h.c.ob, e1]
  · exact ⟨c, by rw [gr.block _ (blk_lt h1) (fun e => n1 (Option.some.inj e))]; exact h1, h2, by rw [e2]; exact h3⟩
  · exact ⟨c', by rw [gr.block _ (blk_lt q1) (fun e => n2 (Option.some.inj e))]; exact q1, q2, by rw [e2, e3]; exact q3⟩

theorem Lst.as (l : Lst k w g) {hv : Value} {dn rm : Nat} {pl : Nat → Int} : Lst k w { g with hv := hv, dn := dn, rm := rm, pl := pl } := ⟨l.hn, l.cl, l.inj, l.rw, l.sub, l.ne, l.li, l.mp.as rfl rfl rfl rfl, l.lo.c, l.lo.p, l.lo.m⟩

theorem St.puth (h : St k w g) (v : Value) : St k (w.setCell ⟨k.OB, 5, none⟩ v) { g with hv := v } := h.fieldO 5 v _ rfl rfl rfl (fun l => l.as)
theorem St.putd (h : St k w g) (d : Nat) : St k (w.setCell ⟨k.OB, 6, none⟩ (.int .i64 d)) { g with dn := d } := h.fieldO 6 _ _ rfl rfl rfl (fun l => l.as)
theorem St.putr (h : St k w g) (d : Nat) : St k (w.setCell ⟨k.OB, 7, none⟩ (.int .i64 d)) { g with rm := d } := h.fieldO 7 _ _ rfl rfl rfl (fun l => l.as)

theorem St.putp (h : St k w g) {u : Nat} (hu : u < k.n) (q : Int) : St k (w.setCell ⟨k.FB, u * 2, none⟩ (.int .i64 q)) (g.place u q) := by
  obtain ⟨c, h1, h2, h3⟩ := h.c.fb
  have gr := grown_set w ⟨k.FB, u * 2, none⟩ (.int .i64 q)
  have ht : Typ w k.FB 144 := ⟨_, _, h1⟩
  have n1 : k.OB ≠ k.FB := blk_ne h.c.ob h1 (by decide)
  refine ⟨⟨?_, ?_, ?_, h.c.lo⟩, (h.l.as (hv := g.hv) (dn := g.dn) (rm := g.rm) (pl := up g.pl u q)).other gr ht (by decide) (by decide) (by decide)⟩
  · rw [gr.block _ (blk_lt h.c.ob) (fun e => n1 (Option.some.inj e))]; exact h.c.ob
  · obtain ⟨c', q1, q2, q3⟩ := h.c.wb
    have n2 : k.WB ≠ k.FB := blk_ne q1 h1 (by decide)
    exact ⟨c', by rw [gr.block _ (blk_lt q1) (fun e => n2 (Option.some.inj e))]; exact q1, q2, q3⟩
  · refine ⟨_, set_same h1 _, by simpa using h2, fun i hi => ?_⟩
    obtain ⟨r1, r2⟩ := h3 i hi
    simp only [G.place, up]
    rw [Array.getElem?_setIfInBounds, Array.getElem?_setIfInBounds, if_neg (show ¬ u * 2 = i * 2 + 1 by omega)]
    refine ⟨?_, r2⟩
    by_cases e : u = i
    · subst e; rw [if_pos rfl, if_pos (by omega), if_pos rfl]
    · rw [if_neg (by omega), if_neg (by omega)]; exact r1

/-- A clause's fields are others now. -/
theorem St.clause (h : St k w g) {i : Nat} (hi : i < g.nx) (gr : w.grownBy w' (some (g.cb i))) (g' : G) (he : w'.heap[g.cb i]? = some (.cells (clc g' i) 97 (0, 0)))
    (e1 : g' = { g with a := g'.a, b := g'.b, fr := g'.fr }) (e2 : ∀ j, j ≠ i → clc g' j = clc g j) : St k w' g' := by
  have ht : Typ w (g.cb i) 97 := ⟨_, _, h.l.cl i hi⟩
  have key : ∀ j T, Typ w j T → T ≠ 97 → w'.heap[j]? = w.heap[j]? := fun j T t hne => gr.block j t.lt (fun e => hne (by cases e; exact t.one ht))
  obtain ⟨nx, cb, lt, lv, a, b, fr, gn, P, pv, pl, mp, hv, dn, rm⟩ := g
  obtain ⟨nx', cb', lt', lv', a', b', fr', gn', P', pv', pl', mp', hv', dn', rm'⟩ := g'
  simp only [G.mk.injEq] at e1
  obtain ⟨rfl, rfl, rfl, rfl, -, -, -, rfl, rfl, rfl, rfl, rfl, rfl, rfl, rfl⟩ := e1
  refine ⟨⟨?_, ?_, ?_, h.c.lo⟩, h.l.hn, fun j hj => ?_, h.l.inj, fun s hs => (h.l.rw s hs).same (fun j c f e _ => key j 92 ⟨_, _, e⟩ (by decide)), h.l.sub, h.l.ne, fun j hj hg => (h.l.li j hj hg).same (fun q e h0 t => key q 3 t (by decide)), MapOk.as (MapOk.same h.l.mp (fun j es clock e => gr.block j (blk_lt e) (fun e2 => ?_))) rfl rfl rfl rfl, h.l.lo.c, h.l.lo.p, h.l.lo.m⟩
  · rw [key _ 84 ⟨_, _, h.c.ob⟩ (by decide)]; exact h.c.ob
  · obtain ⟨c, h1, h2⟩ := h.c.wb
    exact ⟨c, by rw [key _ 82 ⟨_, _, h1⟩ (by decide)]; exact h1, h2⟩
  · obtain ⟨c, h1, h2⟩ := h.c.fb
    exact ⟨c, by rw [key _ 144 ⟨_, _, h1⟩ (by decide)]; exact h1, h2⟩
  · by_cases e : j = i
    · subst e; exact he
    · have q := h.l.cl j hj
      rw [gr.block _ (blk_lt q) (fun c => e (h.l.inj j i hj hi (Option.some.inj c)))]
      rw [q, e2 j e]
  · cases e2; obtain ⟨c, f, q⟩ := ht; rw [e] at q; cases q

theorem St.putwatch (h : St k w g) {i : Nat} (hi : i < g.nx) (hg : g.gn i = false) (x y : Int) : St k ((w.setCell ⟨g.cb i, 2, none⟩ (.int .i64 x)).setCell ⟨g.cb i, 3, none⟩ (.int .i64 y)) (g.watch i x y) := by
  refine h.clause hi (grown_two (grown_set w ⟨g.cb i, 2, none⟩ _) (grown_set _ ⟨g.cb i, 3, none⟩ _)) _ ?_ rfl (fun j hj => ?_)
  · rw [set_same (set_same (h.l.cl i hi) _)]
    simp [clc, G.watch, hg, up_same]
  · simp [clc, G.watch, up_ne _ _ hj]

theorem St.putfrom (h : St k w g) {i : Nat} (hi : i < g.nx) (hg : g.gn i = false) (f : Nat) : St k (w.setCell ⟨g.cb i, 4, none⟩ (.int .i64 f)) (g.from i f) := by
  refine h.clause hi (grown_set w ⟨g.cb i, 4, none⟩ _) _ ?_ rfl (fun j hj => ?_)
  · rw [set_same (h.l.cl i hi)]
    simp [clc, G.from, hg, up_same]
  · simp [clc, G.from, up_ne _ _ hj]

/-! ### Cells -/
theorem St.o (h : St k w g) : w.cell? ⟨k.OB, 0, none⟩ = some (.map g.mp) ∧ w.cell? ⟨k.OB, 1, none⟩ = some (.int .i64 g.nx) ∧ w.cell? ⟨k.OB, 2, none⟩ = some (.slice (some ⟨k.WB, 0, none⟩) (2 * k.n) (2 * k.n)) ∧ w.cell? ⟨k.OB, 3, none⟩ = some (.slice (some ⟨k.FB, 0, none⟩) k.n k.n) ∧ w.cell? ⟨k.OB, 4, none⟩ = some (g.pv (3 * k.n)) ∧ w.cell? ⟨k.OB, 5, none⟩ = some g.hv ∧ w.cell? ⟨k.OB, 6, none⟩ = some (.int .i64 g.dn) ∧ w.cell? ⟨k.OB, 7, none⟩ = some (.int .i64 g.rm) := by
  simp [cell_of h.c.ob]
theorem St.c0 (h : St k w g) : w.cell? ⟨k.OB, 0, none⟩ = some (.map g.mp) := h.o.1
theorem St.c1 (h : St k w g) : w.cell? ⟨k.OB, 1, none⟩ = some (.int .i64 g.nx) := h.o.2.1
theorem St.c2 (h : St k w g) : w.cell? ⟨k.OB, 2, none⟩ = some (.slice (some ⟨k.WB, 0, none⟩) (2 * k.n) (2 * k.n)) := h.o.2.2.1
theorem St.c3 (h : St k w g) : w.cell? ⟨k.OB, 3, none⟩ = some (.slice (some ⟨k.FB, 0, none⟩) k.n k.n) := h.o.2.2.2.1
theorem St.c4 (h : St k w g) : w.cell? ⟨k.OB, 4, none⟩ = some (g.pv (3 * k.n)) := h.o.2.2.2.2.1
theorem St.c5 (h : St k w g) : w.cell? ⟨k.OB, 5, none⟩ = some g.hv := h.o.2.2.2.2.2.1
theorem St.c6 (h : St k w g) : w.cell? ⟨k.OB, 6, none⟩ = some (.int .i64 g.dn) := h.o.2.2.2.2.2.2.1
theorem St.c7 (h : St k w g) : w.cell? ⟨k.OB, 7, none⟩ = some (.int .i64 g.rm) := h.o.2.2.2.2.2.2.2
theorem St.of (h : St k w g) (i : Nat) : w.frozen? ⟨k.OB, i, none⟩ = false := frozen_of h.c.ob
theorem Con.of (h : Con k w g) (i : Nat) : w.frozen? ⟨k.OB, i, none⟩ = false := frozen_of h.ob
theorem Con.c2 (h : Con k w g) : w.cell? ⟨k.OB, 2, none⟩ = some (.slice (some ⟨k.WB, 0, none⟩) (2 * k.n) (2 * k.n)) := by rw [cell_of h.ob]; rfl
theorem Con.c3 (h : Con k w g) : w.cell? ⟨k.OB, 3, none⟩ = some (.slice (some ⟨k.FB, 0, none⟩) k.n k.n) := by rw [cell_of h.ob]; rfl
theorem Con.c4 (h : Con k w g) : w.cell? ⟨k.OB, 4, none⟩ = some (g.pv (3 * k.n)) := by rw [cell_of h.ob]; rfl
theorem Con.wc (h : Con k w g) {s : Nat} (hs : s < 2 * k.n) : w.cell? ⟨k.WB, s, none⟩ = some (g.pv s) := by
  obtain ⟨c, h1, h2, h3⟩ := h.wb; rw [cell_of h1]; exact h3 s hs
theorem Con.wf (h : Con k w g) (s : Nat) : w.frozen? ⟨k.WB, s, none⟩ = false := by obtain ⟨c, h1, _⟩ := h.wb; exact frozen_of h1
theorem Con.fp (h : Con k w g) {u : Nat} (hu : u < k.n) : w.cell? ⟨k.FB, u * 2, none⟩ = some (.int .i64 (g.pl u)) := by
  obtain ⟨c, h1, h2, h3⟩ := h.fb; rw [cell_of h1]; exact (h3 u hu).1
theorem Con.fl (h : Con k w g) {u : Nat} (hu : u < k.n) : w.cell? ⟨k.FB, u * 2 + 1, none⟩ = some (g.pv (2 * k.n + u)) := by
  obtain ⟨c, h1, h2, h3⟩ := h.fb; rw [cell_of h1]; exact (h3 u hu).2
theorem Con.ff (h : Con k w g) (s : Nat) : w.frozen? ⟨k.FB, s, none⟩ = false := by obtain ⟨c, h1, _⟩ := h.fb; exact frozen_of h1

theorem Lst.k5 (h : Lst k w g) {i : Nat} (hi : i < g.nx) : w.cell? ⟨g.cb i, 5, none⟩ = some (.bool (g.gn i)) := by
  rw [cell_of (h.cl i hi), clc]; cases g.gn i <;> rfl
theorem Lst.ks (h : Lst k w g) {i : Nat} (hi : i < g.nx) (hg : g.gn i = false) : w.cell? ⟨g.cb i, 0, none⟩ = some (.int .i64 i) ∧ w.cell? ⟨g.cb i, 1, none⟩ = some (g.lv i) ∧ w.cell? ⟨g.cb i, 2, none⟩ = some (.int .i64 (g.a i)) ∧ w.cell? ⟨g.cb i, 3, none⟩ = some (.int .i64 (g.b i)) ∧ w.cell? ⟨g.cb i, 4, none⟩ = some (.int .i64 (g.fr i)) := by
  simp [cell_of (h.cl i hi), clc, hg]
theorem Lst.kf (h : Lst k w g) {i : Nat} (hi : i < g.nx) (o : Nat) : w.frozen? ⟨g.cb i, o, none⟩ = false := frozen_of (h.cl i hi)
end

end Go.Proofs.YtimfjoinjfecjaaGreat
