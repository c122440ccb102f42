/-
  One deed of an order, and of the document's.
-/
import Derived.Test.YtbddhjohlpblaaaRnew
namespace Go.Proofs.Ytbddhjohlpblaaa
open Go.RowKit
set_option linter.unusedVariables false

def Away (k : K) (wv av : Value) : Prop := ∀ j, av.ownBlock = some j → ¬ Mine k wv j

theorem Ord.lt {k : K} {w : World} {A : List Int} {W : List Bool} {wv : Value} (s : Ord k w A W wv) {j : Nat} (h : Mine k wv j) : k.B ≤ j ∧ j < w.heap.size := by
  obtain ⟨hs, ⟨P, s, p⟩, r⟩ := s; exact s.mine_lt h

theorem Ord.keep {k : K} {w w' : World} {A : List Int} {W : List Bool} {wv : Value} (s : Ord k w A W wv) {r : Option Nat} (g : w.grownBy w' r) (hr : ∀ j, r = some j → ¬ Mine k wv j) : Ord k w' A W wv := by
  obtain ⟨hs, ⟨P, s, p⟩, q⟩ := s; exact ⟨hs, ⟨P, s.keep g hr, p⟩, q⟩

theorem Fr.box {k : K} {wv wv' : Value} {w w' : World} {r : Nat} {o : Obj} (f : Fr k wv wv' w w') (h : w.heap[r]? = some o) (hm : ¬ Mine k wv r) : w'.heap[r]? = some o := by rw [f.block _ (blk_lt h) hm]; exact h

theorem Fr.not_mine {k : K} {wv wv' : Value} {w w' : World} {r : Nat} (f : Fr k wv wv' w w') (hr : r < w.heap.size) (hm : ¬ Mine k wv r) : ¬ Mine k wv' r := by
  rintro (e | e | e | e)
  · exact hm (.inl e)
  · exact hm (.inr (.inl e))
  · exact hm (.inr (.inr (.inl e)))
  · rcases f.new r e with e | e
    · exact hm (.inr (.inr (.inr e)))
    · omega

theorem Fr.put {k : K} {wv wv' : Value} {w w6 : World} (f : Fr k wv wv' w w6) {r : Nat} (hr : w.heap.size ≤ r) (p q : Value) : Fr k wv wv' w ((w6.setCell ⟨r, 0, none⟩ p).setCell ⟨r, 1, none⟩ q) := by
  refine ⟨f.os, f.tape, f.output, by have := f.size; simp [World.setCell] at this ⊢; exact this, fun j hj hm => ?_, f.new⟩
  rw [set_other _ (by show j ≠ r; omega), set_other _ (by show j ≠ r; omega)]
  exact f.block j hj hm

theorem RO.fr {k : K} {wv wv' av bv : Value} {w w' : World} {A : List Int} {W : List Bool} (s : RO w av bv A W) (f : Fr k wv wv' w w') (h1 : Away k wv av) (h2 : Away k wv bv) : RO w' av bv A W ∧ Away k wv' av ∧ Away k wv' bv := by
  have g : ∀ {v : Value} {E : TypeId} {n : Nat} {xs : List Value}, w.ownsRow 0 E 1 v n xs → Away k wv v → w'.ownsRow 0 E 1 v n xs := by
    intro v E n xs h ha
    refine ⟨h.1, ?_⟩
    rcases h.2 with h2 | ⟨b, cap, cur, rfl, hb, hg, rest⟩
    · exact .inl h2
    · refine .inr ⟨b, cap, cur, rfl, hb, ?_, rest⟩
      rw [f.block b (blk_lt hg) (ha b rfl)]
      exact hg
  exact ⟨⟨g s.a h1, g s.b h2⟩, fun j hj => f.not_mine (s.lt.1 j hj) (h1 j hj), fun j hj => f.not_mine (s.lt.2 j hj) (h2 j hj)⟩

theorem Away.nw {k : K} {w w4 : World} {A : List Int} {W : List Bool} {wv v v' : Value} (h : Away k wv v) (s : Ord k w A W wv) (n : Nw w4 v v') (hs : w.heap.size ≤ w4.heap.size) : Away k wv v' := by
  intro j hj hm
  rcases n j hj with e | e
  · exact h j e hm
  · have := (s.lt hm).2; omega

/-- The three boxes of the call. -/
theorem three_boxes {w w5 : World} {x y z : Obj} (b : Below (((w.alloc x).alloc y).alloc z).heap.size (((w.alloc x).alloc y).alloc z) w5) :
    w5.heap[w.heap.size]? = some x ∧ w5.heap[w.heap.size + 1]? = some y ∧ w5.heap[w.heap.size + 1 + 1]? = some z ∧ Below w.heap.size w w5 := by
  obtain ⟨e0, e1, e2⟩ := push3 w.heap x y z
  have e : (((w.alloc x).alloc y).alloc z).heap.size = w.heap.size + 1 + 1 + 1 := by simp
  rw [e] at b
  refine ⟨?_, ?_, ?_, Below.trans (b := ((w.alloc x).alloc y).alloc z) (by go_grown) (b.mono (by omega))⟩
  · rw [b.block _ (by omega)]; exact e0
  · rw [b.block _ (by omega)]; exact e1
  · rw [b.block _ (by omega)]; exact e2

theorem box3_cells {w : World} {r : Nat} {p q s : Value} {T : TypeId} (h : w.heap[r]? = some (.cells #[p, q, s] T (0, 0))) : w.cell? ⟨r, 0, none⟩ = some p ∧ w.cell? ⟨r, 1, none⟩ = some q ∧ w.cell? ⟨r, 2, none⟩ = some s :=
  ⟨by rw [cell_of h]; rfl, by rw [cell_of h]; rfl, by rw [cell_of h]; rfl⟩

def doA (A : List Int) (kd v t : Int) : List Int := if kd = 2 then bumpF A v t else if kd = 3 then halveF A else A
def doW (A : List Int) (W : List Bool) (kd v : Int) : List Bool := if kd = 0 then pushW A.length W v else if kd = 1 then popW A W else W
def doOk (A : List Int) (W : List Bool) (A2 : List Int) (W2 : List Bool) (kd v : Int) : Bool := if kd = 0 then pushA A.length W v == pushA A2.length W2 v else if kd = 1 then popV A2 W2 == popV A W && (popA A W == popA A2 W2) else true

structure DoIn (k : K) (w : World) (A : List Int) (W : List Bool) (wv : Value) (av bv : Value) (A2 : List Int) (W2 : List Bool) : Prop where
  o : Ord k w A W wv
  r : RO w av bv A2 W2
  wa : Away k wv av
  wb : Away k wv bv
  la : A.length = k.n
  l2 : A2.length = k.n
  lw : W2.length = k.n
  hn : k.n ≤ 1048576
  bd : ∀ u : Nat, u < A2.length → 0 ≤ fn A2 u ∧ fn A2 u ≤ 1099511627776

def DoEnd (k : K) (w : World) (wv : Value) (A : List Int) (W : List Bool) (A2 : List Int) (W2 : List Bool) (kd v t : Int) (av' bv' : Value) (w' : World) : Prop :=
  ∃ wv', DoIn k w' (doA A kd v t) (doW A W kd v) wv' av' bv' (doA A2 kd v t) (doW A2 W2 kd v) ∧ Fr k wv wv' w w'

theorem PushEnd.out {k : K} {A : List Int} {W : List Bool} {wv : Value} {v : Int} {w w' : World} (h : PushEnd k A W wv v w w') : ∃ wv', Hid (Ord k w' A (pushW k.n W v) wv') ∧ Hid (Fr k wv wv' w w') := h

theorem rpush_at {w : World} {av bv : Value} {A : List Int} {W : List Bool} (s : RO w av bv A W) (v : Int) (hl : W.length = A.length) (hn : W.length ≤ 1048576) :
    Calls Try.prog 19 #[.agg #[av, bv], .int .i64 v] w fun e w' => ∃ bo d, e = .returned (.tuple #[.agg #[av, .slice bo W.length d], .bool (pushA A.length W v)]) ∧ Hid (RO w' av (.slice bo W.length d) A (pushW A.length W v)) ∧ Hid (Nw w bv (.slice bo W.length d)) ∧ Hid (Below w.heap.size w w') := by
  refine (rpush_any s v hl hn).mono fun e w' h => ?_
  obtain ⟨bv', rfl, h1, h2, h3⟩ := h
  have e : (pushW A.length W v).length = W.length := by unfold pushW; split <;> simp
  obtain ⟨bo, d, rfl⟩ := own_shape h1.b
  rw [e] at h1 h2 ⊢
  exact ⟨bo, d, rfl, h1, h2, h3⟩

theorem own_ne {w : World} {E : TypeId} {v : Value} {n r : Nat} {xs : List Value} {c : Array Value} {T : TypeId} (h : w.ownsRow 0 E 1 v n xs) (hr : w.heap[r]? = some (.cells c T (0, 0))) (hE : E ≠ T) : v.ownBlock ≠ some r := by
  intro e
  rcases h.2 with ⟨rfl, _⟩ | ⟨b, cap, cur, rfl, hb, hg, _⟩
  · simp [Value.ownBlock] at e
  · simp [Value.ownBlock] at e
    subst e
    rw [hr] at hg
    simp only [Option.some.injEq, Obj.cells.injEq] at hg
    exact hE hg.2.1.symm

/-- What is so while the deed is done: y and r are the boxes of the document's answer and of the result. -/
structure Mid (k : K) (w : World) (wv0 wv av bv : Value) (A2 : List Int) (W2 : List Bool) (y r : Nat) (p q : Value) (w5 : World) : Prop where
  hy : w5.heap[y]? = some (.cells #[av, bv] 29 (0, 0))
  hr : w5.heap[r]? = some (.cells #[p, q] 29 (0, 0))
  ro : RO w5 av bv A2 W2
  wa : Away k wv av
  wb : Away k wv bv
  ny : ¬ Mine k wv y
  nr : ¬ Mine k wv r
  lo : w.heap.size ≤ r
  fr : Fr k wv0 wv w w5

theorem Mid.step {k : K} {w w5 w6 : World} {wv0 wv wv' av bv p q : Value} {A2 : List Int} {W2 : List Bool} {y r : Nat} (m : Mid k w wv0 wv av bv A2 W2 y r p q w5) (f : Fr k wv wv' w5 w6) : Mid k w wv0 wv' av bv A2 W2 y r p q w6 := by
  obtain ⟨h1, h2, h3⟩ := m.ro.fr f m.wa m.wb
  exact ⟨f.box m.hy m.ny, f.box m.hr m.nr, h1, h2, h3, f.not_mine (blk_lt m.hy) m.ny, f.not_mine (blk_lt m.hr) m.nr, m.lo, m.fr.trans f⟩

/-- The result is written. -/
theorem Mid.done {k : K} {w w5 : World} {wv0 wv av bv p q : Value} {A A2 : List Int} {W W2 : List Bool} {y r : Nat} (m : Mid k w wv0 wv av bv A2 W2 y r p q w5) (o : Ord k w5 A W wv) (la : A.length = k.n) (l2 : A2.length = k.n) (lw : W2.length = k.n) (hn : k.n ≤ 1048576)
    (bd : ∀ u : Nat, u < A2.length → 0 ≤ fn A2 u ∧ fn A2 u ≤ 1099511627776) :
    DoIn k ((w5.setCell ⟨r, 0, none⟩ av).setCell ⟨r, 1, none⟩ bv) A W wv av bv A2 W2 ∧ Fr k wv0 wv w ((w5.setCell ⟨r, 0, none⟩ av).setCell ⟨r, 1, none⟩ bv) := by
  have h1 := own_ne m.ro.a m.hr (by decide)
  have h2 := own_ne m.ro.b m.hr (by decide)
  refine ⟨⟨?_, m.ro.put h1 h2, m.wa, m.wb, la, l2, lw, hn, bd⟩, m.fr.put m.lo _ _⟩
  exact (o.keep (grown_set w5 _ _) (fun j hj => by cases hj; exact m.nr)).keep (grown_set _ _ _) (fun j hj => by cases hj; exact m.nr)

/-- The cells of the two boxes. -/
theorem Mid.cells {k : K} {w w5 : World} {wv0 wv av bv p q : Value} {A2 : List Int} {W2 : List Bool} {y r : Nat} (m : Mid k w wv0 wv av bv A2 W2 y r p q w5) :
    (w5.cell? ⟨y, 0, none⟩ = some av ∧ w5.cell? ⟨y, 1, none⟩ = some bv) ∧ w5.cell? ⟨r, 0, none⟩ = some p ∧ w5.cell? ⟨r, 1, none⟩ = some q ∧ w5.frozen? ⟨r, 0, none⟩ = false ∧ w5.frozen? ⟨r, 1, none⟩ = false := by
  obtain ⟨a1, a2, _, _⟩ := box_cells m.hy
  obtain ⟨b1, b2, b3, b4⟩ := box_cells m.hr
  exact ⟨⟨a1, a2⟩, b1, b2, b3, b4⟩

/-- It begins, behind the document's answer: y is the newest block. -/
theorem mid_new {k : K} {w w4 : World} {A A2 A2' : List Int} {W W2 W2' : List Bool} {wv av bv av' bv' p q : Value} {o1 o2 : Obj} (h : DoIn k w A W wv av bv A2 W2)
    (b : Below (((w.alloc o1).alloc o2).alloc (.cells #[p, q] 29)).heap.size (((w.alloc o1).alloc o2).alloc (.cells #[p, q] 29)) w4) (ro : RO w4 av' bv' A2' W2')
    (na : Nw (((w.alloc o1).alloc o2).alloc (.cells #[p, q] 29)) av av') (nb : Nw (((w.alloc o1).alloc o2).alloc (.cells #[p, q] 29)) bv bv') :
    Mid k w wv wv av' bv' A2' W2' w4.heap.size (w.heap.size + 1 + 1) p q (w4.alloc (.cells #[av', bv'] 29)) ∧ Ord k (w4.alloc (.cells #[av', bv'] 29)) A W wv := by
  obtain ⟨_, _, z, b5⟩ := three_boxes b
  have hs := b5.size
  have b6 : Below w4.heap.size w4 (w4.alloc (.cells #[av', bv'] 29)) := by go_grown
  have e : w.heap.size ≤ (((w.alloc o1).alloc o2).alloc (.cells #[p, q] 29)).heap.size := by simp; omega
  refine ⟨⟨new_same _ _, box_keep z b6, ro.below b6, h.wa.nw h.o na e, h.wb.nw h.o nb e, fun hm => ?_, fun hm => ?_, by omega, Fr.below (Below.next b5 b6)⟩, h.o.below (Below.next b5 b6)⟩
  · have := (h.o.lt hm).2; omega
  · have := (h.o.lt hm).2; omega

theorem pushW_len (n : Nat) (W : List Bool) (v : Int) : (pushW n W v).length = W.length := by unfold pushW; split <;> simp
theorem popW_len (A : List Int) (W : List Bool) : (popW A W).length = W.length := by unfold popW; split <;> simp
theorem bumpF_len (A : List Int) (v t : Int) : (bumpF A v t).length = A.length := by unfold bumpF; split <;> simp
theorem halveF_len (A : List Int) : (halveF A).length = A.length := by simp [halveF]

theorem bump_bd {A : List Int} (h : ∀ u : Nat, u < A.length → 0 ≤ fn A u ∧ fn A u ≤ 1099511627776) (v t : Int) : ∀ u : Nat, u < (bumpF A v t).length → 0 ≤ fn (bumpF A v t) u ∧ fn (bumpF A v t) u ≤ 1099511627776 := by
  intro u hu
  rw [bumpF_len] at hu
  unfold bumpF
  cases hi : isF A.length v
  · exact h u hu
  · obtain ⟨x, rfl, hx⟩ := isF_yes hi
    exact fn_bd (n := A.length) h hx (sumF_in (h x hx).1 (h x hx).2) u hu
theorem halve_bd {A : List Int} (h : ∀ u : Nat, u < A.length → 0 ≤ fn A u ∧ fn A u ≤ 1099511627776) : ∀ u : Nat, u < (halveF A).length → 0 ≤ fn (halveF A) u ∧ fn (halveF A) u ≤ 1099511627776 := by
  intro u hu
  rw [halveF_len] at hu
  rw [halve_fn]
  have := h u hu
  omega

theorem do_end0 {k : K} {w w6 : World} {A A2 : List Int} {W W2 : List Bool} {wv wv' av bv av' bv' p q : Value} {y r : Nat} {v t : Int} (h : DoIn k w A W wv av bv A2 W2) (m : Mid k w wv wv' av' bv' A2 (pushW A2.length W2 v) y r p q w6) (o : Ord k w6 A (pushW k.n W v) wv') :
    DoEnd k w wv A W A2 W2 0 v t av' bv' ((w6.setCell ⟨r, 0, none⟩ av').setCell ⟨r, 1, none⟩ bv') := by
  rw [← h.la] at o
  have := m.done o h.la h.l2 (by rw [pushW_len]; exact h.lw) h.hn h.bd
  exact ⟨wv', by simpa [doA, doW] using this.1, this.2⟩

set_option maxHeartbeats 2000000 in
theorem do_push {k : K} {w : World} {A A2 : List Int} {W W2 : List Bool} {wv av bv : Value} (h : DoIn k w A W wv av bv A2 W2) (v t : Int) :
    Calls Try.prog 9 #[.pointer (some ⟨k.OB, 0, none⟩), .agg #[av, bv], .agg #[.int .i64 0, .int .i64 v, .int .i64 t]] w fun e w' => ∃ av' bv', e = .returned (.tuple #[.agg #[av', bv'], .bool (doOk A W A2 W2 0 v)]) ∧ DoEnd k w wv A W A2 W2 0 v t av' bv' w' := by
  obtain ⟨ao, c, rfl⟩ := own_shape h.r.a
  obtain ⟨bo, d, rfl⟩ := own_shape h.r.b
  have H := hid h
  have hlw : W2.length = A2.length := by have := h.l2; have := h.lw; omega
  have hn2 : W2.length ≤ 1048576 := by have := h.hn; have := h.lw; omega
  have HL := hid hlw
  have HK : Hid (doOk A W A2 W2 0 v = (pushA k.n W v == pushA A2.length W2 v)) := hid (by simp [doOk, h.la])
  clear h hlw
  go_enter Try.func9, Try.ntmps9
  go_wp2_with (go_at_call 19; with_reducible (refine (rpush_at (H.out.r.below (by go_grown)) v HL.out hn2).mono ?_); rintro e w4 ⟨bo4, d4, rfl, r4, n4, b4⟩; have h4 := three_boxes b4.out; obtain ⟨x4, y4, z4, b5⟩ := h4; have y5 := box3_cells y4; obtain ⟨y0, y1, y2⟩ := y5)
  have MO := hid (mid_new H.out b4.out r4.out (Nw.refl _ _) n4.out)
  have y1' : (w4.alloc (.cells #[.slice ao A2.length c, .slice bo4 W2.length d4] 29)).cell? ⟨w.heap.size + 1, 1, none⟩ = some (.int .i64 v) := by
    rw [(show Below w4.heap.size w4 (w4.alloc (.cells #[.slice ao A2.length c, .slice bo4 W2.length d4] 29)) by go_grown).cell (cell_lt y1)]; exact y1
  obtain ⟨⟨c1, c2⟩, c3, c4, c5, c6⟩ := MO.out.1.cells
  revert MO y1' c1 c2 c3 c4 c5 c6
  generalize w4.alloc (.cells #[.slice ao A2.length c, .slice bo4 W2.length d4] 29) = w5
  intro MO y1' c1 c2 c3 c4 c5 c6
  clear x4 y4 z4 b5 y0 y1 y2 r4 n4 b4
  go_region_with (go_at_call 17; with_reducible (refine (push_any (MO.out.2.below (below_drew _)) v).mono ?_); rintro e w6 ⟨rfl, h6⟩; have h7 := h6.out; obtain ⟨wv', o6, f6⟩ := h7; have m6 := hid (MO.out.1.step ((Fr.drew _ _ _).trans f6.out)); have g1 := m6.out.cells; obtain ⟨⟨g2, g3⟩, g4, g5, g6, g7⟩ := g1)
  all_goals go_wp2
  all_goals refine bodyPost_ret (results_box2 rfl _ _ (w.heap.size + 1 + 1) (.slice ao A2.length c) (.slice bo4 W2.length d4) rfl (by simp [go_sem, g4]) (by simp [go_sem, g5])) rfl ?_
  all_goals exact ⟨_, _, by rw [HK.out]; rfl, do_end0 H.out m6.out o6.out⟩

/-! ### Pop -/
theorem PopEnd.out {k : K} {A : List Int} {W : List Bool} {wv : Value} {w w' : World} (h : PopEnd k A W wv w w') : ∃ wv', Hid (Ord k w' A (popW A W) wv') ∧ Hid (Fr k wv wv' w w') := h

theorem rpop_at {w : World} {av bv : Value} {A : List Int} {W : List Bool} (s : RO w av bv A W) (hl : W.length = A.length) (hn : W.length ≤ 1048576) :
    Calls Try.prog 20 #[.agg #[av, bv]] w fun e w' => ∃ bo d, e = .returned (.tuple #[.agg #[av, .slice bo W.length d], .int .i64 (popV A W), .bool (popA A W)]) ∧ Hid (RO w' av (.slice bo W.length d) A (popW A W)) ∧ Hid (Nw w bv (.slice bo W.length d)) ∧ Hid (Below w.heap.size w w') := by
  refine (rpop_any s hl hn).mono fun e w' h => ?_
  obtain ⟨bv', rfl, h1, h2, h3⟩ := h
  obtain ⟨bo, d, rfl⟩ := own_shape h1.b
  rw [popW_len] at h1 h2 ⊢
  exact ⟨bo, d, rfl, h1, h2, h3⟩

theorem do_end1 {k : K} {w w6 : World} {A A2 : List Int} {W W2 : List Bool} {wv wv' av bv av' bv' p q : Value} {y r : Nat} {v t : Int} (h : DoIn k w A W wv av bv A2 W2) (m : Mid k w wv wv' av' bv' A2 (popW A2 W2) y r p q w6) (o : Ord k w6 A (popW A W) wv') :
    DoEnd k w wv A W A2 W2 1 v t av' bv' ((w6.setCell ⟨r, 0, none⟩ av').setCell ⟨r, 1, none⟩ bv') := by
  have := m.done o h.la h.l2 (by rw [popW_len]; exact h.lw) h.hn h.bd
  exact ⟨wv', by simpa [doA, doW] using this.1, this.2⟩

set_option maxHeartbeats 2000000 in
theorem do_pop {k : K} {w : World} {A A2 : List Int} {W W2 : List Bool} {wv av bv : Value} (h : DoIn k w A W wv av bv A2 W2) (v t : Int) :
    Calls Try.prog 9 #[.pointer (some ⟨k.OB, 0, none⟩), .agg #[av, bv], .agg #[.int .i64 1, .int .i64 v, .int .i64 t]] w fun e w' => ∃ av' bv', e = .returned (.tuple #[.agg #[av', bv'], .bool (doOk A W A2 W2 1 v)]) ∧ DoEnd k w wv A W A2 W2 1 v t av' bv' w' := by
  obtain ⟨ao, c, rfl⟩ := own_shape h.r.a
  obtain ⟨bo, d, rfl⟩ := own_shape h.r.b
  have H := hid h
  have hlw : W2.length = A2.length := by have := h.l2; have := h.lw; omega
  have hn2 : W2.length ≤ 1048576 := by have := h.hn; have := h.lw; omega
  have HL := hid hlw
  have HK : Hid (doOk A W A2 W2 1 v = (popV A2 W2 == popV A W && (popA A W == popA A2 W2))) := hid (by simp [doOk])
  clear h hlw
  cases hpv : popV A2 W2 == popV A W
  · go_enter Try.func9, Try.ntmps9
    go_wp2_with (first
      | (go_at_call 20; with_reducible (refine (rpop_at (H.out.r.below (by go_grown)) HL.out hn2).mono ?_); rintro e w4 ⟨bo4, d4, rfl, r4, n4, b4⟩; have MO := hid (mid_new H.out b4.out r4.out (Nw.refl _ _) n4.out); have c0 := MO.out.1.cells; obtain ⟨⟨c1, c2⟩, c3, c4, c5, c6⟩ := c0)
      | (go_at_call 15; with_reducible (refine (pop_any MO.out.2).mono ?_); rintro e w6 ⟨rfl, h6⟩; have h7 := h6.out; obtain ⟨wv', o6, f6⟩ := h7; have m6 := hid (MO.out.1.step f6.out); have g1 := m6.out.cells; obtain ⟨⟨g2, g3⟩, g4, g5, g6, g7⟩ := g1))
    refine bodyPost_ret (results_box2 rfl _ _ (w.heap.size + 1 + 1) (.slice ao A2.length c) (.slice bo4 W2.length d4) rfl (by simp [go_sem, g4]) (by simp [go_sem, g5])) rfl ?_
    exact ⟨_, _, by rw [HK.out, hpv]; rfl, do_end1 H.out m6.out o6.out⟩
  · go_enter Try.func9, Try.ntmps9
    go_wp2_with (first
      | (go_at_call 20; with_reducible (refine (rpop_at (H.out.r.below (by go_grown)) HL.out hn2).mono ?_); rintro e w4 ⟨bo4, d4, rfl, r4, n4, b4⟩; have MO := hid (mid_new H.out b4.out r4.out (Nw.refl _ _) n4.out); have c0 := MO.out.1.cells; obtain ⟨⟨c1, c2⟩, c3, c4, c5, c6⟩ := c0)
      | (go_at_call 15; with_reducible (refine (pop_any MO.out.2).mono ?_); rintro e w6 ⟨rfl, h6⟩; have h7 := h6.out; obtain ⟨wv', o6, f6⟩ := h7; have m6 := hid (MO.out.1.step f6.out); have g1 := m6.out.cells; obtain ⟨⟨g2, g3⟩, g4, g5, g6, g7⟩ := g1))
    refine bodyPost_ret (results_box2 rfl _ _ (w.heap.size + 1 + 1) (.slice ao A2.length c) (.slice bo4 W2.length d4) rfl (by simp [go_sem, g4]) (by simp [go_sem, g5])) rfl ?_
    exact ⟨_, _, by rw [HK.out, hpv]; rfl, do_end1 H.out m6.out o6.out⟩

end Go.Proofs.Ytbddhjohlpblaaa
