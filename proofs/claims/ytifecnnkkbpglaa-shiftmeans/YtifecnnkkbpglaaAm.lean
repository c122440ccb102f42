/-
  A row that a call makes, beside gates: its block; what holds while gates are made.
-/
import Derived.Test.YtifecnnkkbpglaaGd
import Derived.Test.YtifecnnkkbpglaaPb
namespace Go.Proofs.Ytifecnnkkbpglaa
open Go.RowKit
set_option linter.unusedVariables false

/-- A row of numbers that lies in a block of numbers. -/
def TR (w : World) (ao : Option Addr) (m c : Nat) (xs : List Int) : Prop := TRow (fun _ => False) w ao m c xs
theorem TR.fg {B : BT} {w w' : World} {ao : Option Addr} {m c : Nat} {xs : List Int} (h : TR w ao m c xs) (f : FG B w w') : TR w' ao m c xs := TRow.fg h f
theorem TR.below {w w' : World} {ao : Option Addr} {m c : Nat} {xs : List Int} (h : TR w ao m c xs) (b : Below w.heap.size w w') : TR w' ao m c xs := TRow.fg h (FG.below (B := B0) b)
theorem TR.row {w : World} {ao : Option Addr} {m c : Nat} {xs : List Int} (h : TR w ao m c xs) : Row w ao m c xs := h.1

/-- The literals of a row, and what they hold. -/
structure Lits (n : Nat) (val : Nat → Bool) (xs : List Int) (m : Nat) (A : Nat → Bool) : Prop where
  len : xs.length = m
  rg : ∀ x ∈ xs, rng n x
  is : ∀ (j : Nat) (x : Int), xs[j]? = some x → hd val x = A j

theorem Lits.more {n n' : Nat} {val val' : Nat → Bool} {xs : List Int} {m : Nat} {A : Nat → Bool} (h : Lits n val xs m A) (hn : n ≤ n') (ha : ∀ i, i < n → val' i = val i) : Lits n' val' xs m A :=
  ⟨h.len, fun x hx => rng_more (h.rg x hx) hn, fun j x hx => by rw [hd_agree ha (h.rg x (List.mem_of_getElem? hx))]; exact h.is j x hx⟩
theorem Lits.not {n : Nat} {val : Nat → Bool} {xs : List Int} {m : Nat} {A : Nat → Bool} (h : Lits n val xs m A) : Lits n val (xs.map notF) m (noF A) := by
  refine ⟨by simp [h.len], fun x hx => ?_, fun j x hx => ?_⟩
  · obtain ⟨y, hy, rfl⟩ := List.mem_map.1 hx
    exact rng_not (h.rg y hy)
  · rw [List.getElem?_map, Option.map_eq_some_iff] at hx
    obtain ⟨y, hy, rfl⟩ := hx
    rw [hd_not _ (h.rg y (List.mem_of_getElem? hy)).1, h.is j y hy]; rfl

/-- What holds while gates are made, from a world w on. -/
structure Sx (B : BT) (gb : Nat) (is : List Int) (n0 : Nat) (v0 : Nat → Bool) (k : Nat) (w wr : World) (n : Nat) (cs : List (List Int)) (val : Nat → Bool) : Prop where
  lo : n0 ≤ n
  hi : n ≤ n0 + k
  g : Good n cs val is
  ag : ∀ i, i < n0 → val i = v0 i
  h : Gt B gb wr n cs
  f : FG B w wr

section
variable {B : BT} {gb : Nat} {is : List Int} {n0 : Nat} {v0 : Nat → Bool} {k : Nat} {w wr w' : World} {n : Nat} {cs : List (List Int)} {val : Nat → Bool} {r : Bool} {y : Int}

theorem Sx.start (g : Good n cs val is) (h : Gt B gb w n cs) : Sx B gb is n val 0 w w n cs val := ⟨Nat.le_refl _, Nat.le_refl _, g, fun _ _ => rfl, h, FG.refl _⟩
theorem Sx.below (s : Sx B gb is n0 v0 k w wr n cs val) (b : Below wr.heap.size wr w') : Sx B gb is n0 v0 k w w' n cs val := ⟨s.lo, s.hi, s.g, s.ag, s.h.below b, s.f.trans (FG.below b)⟩
theorem Sx.mono {k' : Nat} (s : Sx B gb is n0 v0 k w wr n cs val) (h : k ≤ k') : Sx B gb is n0 v0 k' w wr n cs val := ⟨s.lo, by have := s.hi; omega, s.g, s.ag, s.h, s.f⟩
theorem Sx.ahead {w1 : World} (s : Sx B gb is n0 v0 k w1 wr n cs val) (f : FG B w w1) : Sx B gb is n0 v0 k w wr n cs val := ⟨s.lo, s.hi, s.g, s.ag, s.h, f.trans s.f⟩
/-- One call behind another. -/
theorem Sx.on {n1 k1 : Nat} {v1 : Nat → Bool} {w1 : World} {cs1 : List (List Int)} (s : Sx B gb is n0 v0 k w w1 n1 cs1 v1) (t : Sx B gb is n1 v1 k1 w1 wr n cs val) : Sx B gb is n0 v0 (k + k1) w wr n cs val :=
  ⟨Nat.le_trans s.lo t.lo, by have := s.hi; have := t.hi; omega, t.g, fun i hi => (t.ag i (Nat.lt_of_lt_of_le hi s.lo)).trans (s.ag i hi), t.h, s.f.trans t.f⟩
/-- A gate was made. -/
theorem GEnd.on {w1 : World} (e : GEnd B gb n cs val is r w1 w' y) (s : Sx B gb is n0 v0 k w wr n cs val) (b : Below wr.heap.size wr w1) :
    ∃ n' cs' val', n ≤ n' ∧ n' ≤ n + 1 ∧ Hid (Sx B gb is n0 v0 (k + 1) w w' n' cs' val') ∧ Hid (∀ i, i < n → val' i = val i) ∧ Hid (rng n' y) ∧ Hid (hd val' y = r) := by
  obtain ⟨n', cs', val', h1, h2, h3, h4, h5⟩ := e
  exact ⟨n', cs', val', h1.lo, h1.hi, ⟨Nat.le_trans s.lo h1.lo, by have := s.hi; have := h1.hi; omega, h1.good, fun i hi => (h1.agree i (Nat.lt_of_lt_of_le hi s.lo)).trans (s.ag i hi), h2, s.f.trans ((FG.below b).trans h5)⟩, h1.agree, h3, h4⟩
end

/-! ### a row that the call makes -/
/-- The gates', and the row's. -/
def BT.and (B : BT) (rb : Nat) : BT := ⟨B.n, fun b => B.T b ∨ b = rb⟩

theorem FG.and {B : BT} {w w' : World} (rb : Nat) (f : FG B w w') : FG (B.and rb) w w' := ⟨f.os, f.tape, f.output, f.size, f.block, f.old⟩
theorem FG.less {B : BT} {w w' : World} {rb : Nat} (f : FG (B.and rb) w w') : FG B w w' := ⟨f.os, f.tape, f.output, f.size, f.block, f.old⟩

theorem Gt.take {B : BT} {gb : Nat} {w : World} {n : Nat} {cs : List (List Int)} (h : Gt B gb w n cs) (c : Array Value) : Gt (B.and w.heap.size) gb (w.alloc (.cells c 3)) n cs := by
  refine h.hop rfl (World.grownBy_alloc w _ none) (fun j T hj => by cases hj) (fun b hb => ?_)
  have hs : (w.alloc (.cells c 3)).heap.size = w.heap.size + 1 := by simp
  rcases hb with hb | hb
  · exact ⟨by have := h.tl b hb; omega, .inl hb⟩
  · exact ⟨by omega, .inr (by omega)⟩
theorem Gt.drop {B : BT} {gb rb : Nat} {w : World} {n : Nat} {cs : List (List Int)} (h : Gt (B.and rb) gb w n cs) : Gt B gb w n cs :=
  h.hop rfl (World.grownBy.refl _ none) (fun j T hj => by cases hj) (fun b hb => ⟨h.tl b (.inl hb), .inl (.inl hb)⟩)

/-- The numbers of the row. -/
def Mr (w : World) (rb m : Nat) (zs : List Int) : Prop := w.heap[rb]? = some (.cells (zs.map (Value.int .i64)).toArray 3 (0, 0)) ∧ zs.length = m

theorem Mr.typ {w : World} {rb m : Nat} {zs : List Int} (h : Mr w rb m zs) : Typ w rb 3 := typ_of h.1
theorem Mr.fg {B : BT} {w w' : World} {rb m : Nat} {zs : List Int} (h : Mr w rb m zs) (f : FG B w w') : Mr w' rb m zs := ⟨(f.block rb 3 h.typ (by decide) (by decide)).trans h.1, h.2⟩
theorem Mr.below {w w' : World} {rb m : Nat} {zs : List Int} (h : Mr w rb m zs) (b : Below w.heap.size w w') : Mr w' rb m zs := h.fg (FG.below (B := B0) b)
theorem Mr.cell {w : World} {rb m : Nat} {zs : List Int} (h : Mr w rb m zs) {j : Nat} (hj : j < m) : ∃ z, w.cell? ⟨rb, j, none⟩ = some (.int .i64 z) := by
  have hl : j < zs.length := by rw [h.2]; exact hj
  exact ⟨zs[j], by rw [cell_of h.1]; simp [hl]⟩
theorem Mr.frozen {w : World} {rb m : Nat} {zs : List Int} (h : Mr w rb m zs) (j : Nat) : w.frozen? ⟨rb, j, none⟩ = false := frozen_of h.1
theorem Mr.set {w : World} {rb m : Nat} {zs : List Int} (h : Mr w rb m zs) (j : Nat) (y : Int) : Mr (w.setCell ⟨rb, j, none⟩ (.int .i64 y)) rb m (zs.set j y) := by
  refine ⟨?_, by rw [List.length_set]; exact h.2⟩
  rw [set_same h.1]
  simp [List.map_set]
theorem Mr.trow {w : World} {rb m : Nat} {zs : List Int} (h : Mr w rb m zs) (hf : Fit zs) (hm : m ≤ 100000) : TR w (some ⟨rb, 0, none⟩) m m zs := by
  refine ⟨⟨h.2, Nat.le_refl _, by unfold maxLen; omega, fun e => by simp at e, hf, fun h0 => ⟨rb, 0, rfl, fun j hj => ?_⟩⟩, fun h0 => ⟨rb, 0, rfl, h.typ, fun q => q⟩⟩
  have hl : j < zs.length := by rw [h.2]; exact hj
  rw [cell_of h.1]; simp [hl]

def rC (m : Nat) : Array Value := ((List.replicate m (0 : Int)).map (Value.int .i64)).toArray
theorem made_ints (n : Nat) : madeCells #[.int .i64 0] n = rC n := by
  apply Array.ext
  · simp [madeCells, rC]
  · intro i h1 h2
    simp [madeCells, rC, Nat.mod_one]
theorem makeR (n : Nat) (hn : n ≤ 100000) (w : World) : (Instr.makeSlice 29 (.int .i64 n) (.int .i64 n)).run Try.prog w = .ok (.slice (some ⟨w.heap.size, 0, none⟩) n n) (w.alloc (.cells (rC n) 3)) := by
  obtain ⟨i0, hi, hz0, hz1, hz2⟩ := info_parts Try.info3
  have := run_make (P := Try.prog) w 29 3 i0 (.int .i64 0) Try.underlying29 hi hz0 .i64 .i64 n n (by omega) (Int.le_refl _) (by rw [hz2]; omega) (by omega)
  rw [this, hz1]
  simp only [Int.toNat_natCast, Nat.mul_one]
  rw [show (Value.int IntKind.i64 0).cells = #[.int .i64 0] from rfl, made_ints]
theorem Mr.new (w : World) (m : Nat) : Mr (w.alloc (.cells (rC m) 3)) w.heap.size m (List.replicate m 0) := ⟨new_same w _, by simp⟩

/-- What holds between the stores. -/
structure Lp (B : BT) (gb : Nat) (is : List Int) (n0 : Nat) (v0 : Nat → Bool) (k : Nat) (w wr : World) (n : Nat) (cs : List (List Int)) (val : Nat → Bool) (rb m : Nat) (zs : List Int) (q : Nat) (S : Nat → Bool) : Prop where
  s : Sx (B.and rb) gb is n0 v0 k w wr n cs val
  r : Mr wr rb m zs
  nb : w.heap.size ≤ rb
  fin : ∀ (j : Nat) (x : Int), j < q → zs[j]? = some x → rng n x ∧ hd val x = S j

/-- A row was made: its literals hold just where S does. -/
def REnd (B : BT) (gb : Nat) (is : List Int) (n0 : Nat) (v0 : Nat → Bool) (k : Nat) (w w' : World) (rb m : Nat) (S : Nat → Bool) : Prop :=
  ∃ n cs val zs, Sx B gb is n0 v0 k w w' n cs val ∧ TR w' (some ⟨rb, 0, none⟩) m m zs ∧ Lits n val zs m S ∧ w.heap.size ≤ rb

section
variable {B : BT} {gb : Nat} {is : List Int} {n0 : Nat} {v0 : Nat → Bool} {k : Nat} {w wr w' : World} {n : Nat} {cs : List (List Int)} {val : Nat → Bool} {r : Bool} {y : Int} {rb m q : Nat} {zs : List Int} {S : Nat → Bool}

theorem Lp.start (g : Good n cs val is) (h : Gt B gb w n cs) : Lp B gb is n val 0 w (w.alloc (.cells (rC m) 3)) n cs val w.heap.size m (List.replicate m 0) 0 S :=
  ⟨⟨Nat.le_refl _, Nat.le_refl _, g, fun _ _ => rfl, h.take _, FG.below ((Below.refl _ _).alloc (Nat.le_refl _) _)⟩, Mr.new w m, Nat.le_refl _, fun j x hj => by omega⟩
theorem Lp.below (l : Lp B gb is n0 v0 k w wr n cs val rb m zs q S) (b : Below wr.heap.size wr w') : Lp B gb is n0 v0 k w w' n cs val rb m zs q S := ⟨l.s.below b, l.r.below b, l.nb, l.fin⟩
theorem Lp.mono {k' : Nat} (l : Lp B gb is n0 v0 k w wr n cs val rb m zs q S) (h : k ≤ k') : Lp B gb is n0 v0 k' w wr n cs val rb m zs q S := ⟨l.s.mono h, l.r, l.nb, l.fin⟩
theorem Lp.gate {w1 : World} (l : Lp B gb is n0 v0 k w wr n cs val rb m zs q S) (b : Below wr.heap.size wr w1) (e : GEnd (B.and rb) gb n cs val is r w1 w' y) :
    ∃ n' cs' val', n ≤ n' ∧ n' ≤ n + 1 ∧ Hid (Lp B gb is n0 v0 (k + 1) w w' n' cs' val' rb m zs q S) ∧ Hid (∀ i, i < n → val' i = val i) ∧ Hid (rng n' y) ∧ Hid (hd val' y = r) := by
  have hf : FG (B.and rb) wr w' := by
    obtain ⟨_, _, _, _, _, _, _, h5⟩ := e
    exact (FG.below b).trans h5
  obtain ⟨n', cs', val', lo, hi, s, ag, h3, h4⟩ := e.on l.s b
  refine ⟨n', cs', val', lo, hi, ⟨s.out, l.r.fg hf, l.nb, fun j x hj hx => ?_⟩, ag, h3, h4⟩
  obtain ⟨f1, f2⟩ := l.fin j x hj hx
  exact ⟨rng_more f1 lo, by rw [hd_agree ag.out f1]; exact f2⟩

theorem FG.put {B : BT} {w wr : World} (f : FG B w wr) {rb : Nat} (nb : w.heap.size ≤ rb) (i : Nat) (v : Value) : FG B w (wr.setCell ⟨rb, i, none⟩ v) := by
  have g := grown_set wr ⟨rb, i, none⟩ v
  refine ⟨g.os.trans f.os, g.tape.trans f.tape, g.output.trans f.output, Nat.le_trans f.size g.size, fun j T ht h1 h2 => ?_, fun j hj hl => ?_⟩
  · have := ht.lt
    rw [g.block j (Nat.lt_of_lt_of_le this f.size) (fun e => by simp at e; omega)]
    exact f.block j T ht h1 h2
  · rw [g.block j (Nat.lt_of_lt_of_le hl f.size) (fun e => by simp at e; omega)]
    exact f.old j hj hl

theorem Gt.put {i : Nat} {v : Value} (h : Gt (B.and rb) gb wr n cs) (r : Mr wr rb m zs) : Gt (B.and rb) gb (wr.setCell ⟨rb, i, none⟩ v) n cs := by
  have g := grown_set wr ⟨rb, i, none⟩ v
  refine h.hop rfl g (fun j T hj ht => ?_) (fun b hb => ⟨Nat.lt_of_lt_of_le (h.tl b hb) g.size, .inl hb⟩)
  simp only [Option.some.injEq] at hj
  subst hj
  obtain ⟨c, f, e⟩ := ht
  rw [r.1] at e
  cases e
  exact ⟨.inl (.inr rfl), by decide, by decide⟩

/-- The next one is stored. -/
theorem Lp.put (l : Lp B gb is n0 v0 k w wr n cs val rb m zs q S) (hq : q < m) (hy : rng n y) (hv : hd val y = S q) : Lp B gb is n0 v0 k w (wr.setCell ⟨rb, q, none⟩ (.int .i64 y)) n cs val rb m (zs.set q y) (q + 1) S := by
  refine ⟨⟨l.s.lo, l.s.hi, l.s.g, l.s.ag, l.s.h.put l.r, l.s.f.put l.nb _ _⟩, l.r.set q y, l.nb, fun j x hj hx => ?_⟩
  by_cases e : j = q
  · subst e
    rw [List.getElem?_set_self (by rw [l.r.2]; exact hq)] at hx
    cases hx
    exact ⟨hy, hv⟩
  · rw [List.getElem?_set_ne (by omega)] at hx
    exact l.fin j x (by omega) hx

theorem Lp.end (l : Lp B gb is n0 v0 k w wr n cs val rb m zs m S) (hm : m ≤ 100000) (hn : n ≤ 10000) : REnd B gb is n0 v0 k w wr rb m S := by
  have hl : ∀ (j : Nat) (x : Int), zs[j]? = some x → rng n x ∧ hd val x = S j := fun j x hx => l.fin j x (by rw [← l.r.2]; exact (List.getElem?_eq_some_iff.1 hx).1) hx
  have hr : ∀ x ∈ zs, rng n x := fun x hx => by
    obtain ⟨j, hj⟩ := List.mem_iff_getElem?.1 hx
    exact (hl j x hj).1
  exact ⟨n, cs, val, zs, ⟨l.s.lo, l.s.hi, l.s.g, l.s.ag, l.s.h.drop, l.s.f.less⟩, l.r.trow (fun x hx => rng_fit (hr x hx) hn) hm, ⟨l.r.2, hr, fun j x hx => (hl j x hx).2⟩, l.nb⟩
theorem REnd.new (h : REnd B gb is n0 v0 k w w' rb m S) : w.heap.size ≤ rb := by
  obtain ⟨_, _, _, _, _, _, _, h⟩ := h
  exact h
end

end Go.Proofs.Ytifecnnkkbpglaa
