/-
  One deed of a trail, and of the document's.
-/
import Derived.Test.YtimpoagdidnpiaaRead
import Derived.Deep.Cut
import Derived.Deep.CutRange
namespace Go.Proofs.Ytimpoagdidnpiaa
open Go.RowKit
set_option linter.unusedVariables false

def Away (k : K) (p : V) (rv : Value) : Prop := ∀ j, rv.ownBlock = some j → ¬ Mine k p j

theorem Fr.box {k : K} {p p' : V} {w w' : World} {r : Nat} {o : Obj} (f : Fr k p p' w w') (h : w.heap[r]? = some o) (hm : ¬ Mine k p r) : w'.heap[r]? = some o := by rw [f.block _ (blk_lt h) hm]; exact h
theorem Fr.not_mine {k : K} {p p' : V} {w w' : World} {r : Nat} (f : Fr k p p' w w') (hr : r < w.heap.size) (hm : ¬ Mine k p r) : ¬ Mine k p' r := fun c => hm (f.new r hr c)

theorem Fr.own {k : K} {p p' : V} {w w' : World} {base : Nat} {E : TypeId} {sz : Nat} {v : Value} {n : Nat} {xs : List Value} (f : Fr k p p' w w') (h : w.ownsRow base E sz v n xs) (ha : Away k p v) : w'.ownsRow base E sz v n xs := by
  refine ⟨h.1, ?_⟩
  rcases h.2 with h2 | ⟨b, cap, cur, rfl, hb, hg, rest⟩
  · exact .inl h2
  · exact .inr ⟨b, cap, cur, rfl, hb, f.box hg (ha b rfl), rest⟩

theorem RO.fr {k : K} {p p' : V} {w w' : World} {rv : Value} {L : List E} (s : RO w rv L) (f : Fr k p p' w w') (h : Away k p rv) : RO w' rv L ∧ Away k p' rv :=
  ⟨f.own s h, fun j hj => f.not_mine (s.lt hj) (h j hj)⟩

def doL (n : Nat) (L : List E) (lev : Nat) (kd l t : Int) : List E := if kd = 0 then addL n L l lev t else if kd = 1 then addL n L l (lev + 1) (-1) else if kd = 2 then backL L lev t else L
def doV (n : Nat) (L : List E) (lev : Nat) (kd l t : Int) : Nat := if kd = 0 then lev else if kd = 1 then decV n L lev l else if kd = 2 then backV lev t else lev
def doB (n : Nat) (L : List E) (lev : Nat) (n2 : Nat) (L2 : List E) (lev2 : Nat) (kd l t : Int) : Bool := if kd = 0 then mayF n L l == mayF n2 L2 l else if kd = 1 then mayF n L l == mayF n2 L2 l else if kd = 2 then sameF (backG L lev t) (backG L2 lev2 t) else true
def doI (b : Bool) : Int := if b then 1 else 0

structure DoIn (k : K) (w : World) (L : List E) (lev : Nat) (p : V) (rv : Value) (L2 : List E) (n2 lev2 : Nat) : Prop where
  t : Trl k w L lev p
  r : RS w rv L2 n2 lev2
  aw : Away k p rv

def DoEnd (k : K) (w : World) (L' : List E) (lev' : Nat) (p : V) (L2' : List E) (rv' : Value) (w' : World) : Prop :=
  ∃ p', Trl k w' L' lev' p' ∧ RO w' rv' L2' ∧ Away k p' rv' ∧ Fr k p p' w w'

/-- While the deed is done: the boxes of the document's trail and of the result. -/
structure Mid (k : K) (w : World) (p0 p : V) (rv : Value) (L2 : List E) (x0 x1 x2 d0 d1 d2 r0 r1 r2 : Value) (w5 : World) : Prop where
  hx : w5.heap[w.heap.size]? = some (.cells #[x0, x1, x2] 28 (0, 0))
  hd : w5.heap[w.heap.size + 1]? = some (.cells #[d0, d1, d2] 33 (0, 0))
  hr : w5.heap[w.heap.size + 1 + 1]? = some (.cells #[r0, r1, r2] 28 (0, 0))
  ro : RO w5 rv L2
  aw : Away k p rv
  nx : ¬ Mine k p w.heap.size
  nd : ¬ Mine k p (w.heap.size + 1)
  nr : ¬ Mine k p (w.heap.size + 1 + 1)
  fr : Fr k p0 p w w5

section
variable {k : K} {w w5 w6 : World} {p0 p p' : V} {rv : Value} {L2 : List E} {x0 x1 x2 d0 d1 d2 r0 r1 r2 : Value}

theorem Mid.step (m : Mid k w p0 p rv L2 x0 x1 x2 d0 d1 d2 r0 r1 r2 w5) (f : Fr k p p' w5 w6) : Mid k w p0 p' rv L2 x0 x1 x2 d0 d1 d2 r0 r1 r2 w6 := by
  obtain ⟨h1, h2⟩ := m.ro.fr f m.aw
  exact ⟨f.box m.hx m.nx, f.box m.hd m.nd, f.box m.hr m.nr, h1, h2, f.not_mine (blk_lt m.hx) m.nx, f.not_mine (blk_lt m.hd) m.nd, f.not_mine (blk_lt m.hr) m.nr, m.fr.trans f⟩

theorem Mid.below (m : Mid k w p0 p rv L2 x0 x1 x2 d0 d1 d2 r0 r1 r2 w5) (b : Below w5.heap.size w5 w6) : Mid k w p0 p rv L2 x0 x1 x2 d0 d1 d2 r0 r1 r2 w6 := m.step (Fr.below b)

/-- The result is written. -/
theorem Mid.done {L : List E} {lev : Nat} (m : Mid k w p0 p rv L2 x0 x1 x2 d0 d1 d2 r0 r1 r2 w5) (t : Trl k w5 L lev p) (a b c : Value) : DoEnd k w L lev p0 L2 rv (((w5.setCell ⟨w.heap.size + 1 + 1, 0, none⟩ a).setCell ⟨w.heap.size + 1 + 1, 1, none⟩ b).setCell ⟨w.heap.size + 1 + 1, 2, none⟩ c) := by
  have g := grown3 w5 (w.heap.size + 1 + 1) 0 1 2 a b c
  refine ⟨p, t.keep g (fun j hj => by cases hj; exact m.nr), m.ro.put3 m.hr a b c, m.aw, ?_⟩
  have f := m.fr
  refine ⟨g.os.trans f.os, g.tape.trans f.tape, g.output.trans f.output, Nat.le_trans f.size g.size, fun j hj hm => ?_, f.new⟩
  rw [g.block j (Nat.lt_of_lt_of_le hj f.size) (fun e => by have := Option.some.inj e; omega)]
  exact f.block j hj hm
end

theorem push3 (h : Array Obj) (x y z : Obj) : (((h.push x).push y).push z)[h.size]? = some x ∧ (((h.push x).push y).push z)[h.size + 1]? = some y ∧ (((h.push x).push y).push z)[h.size + 1 + 1]? = some z := by
  refine ⟨?_, ?_, ?_⟩
  · simp only [Array.getElem?_push, Array.size_push]
    rw [if_neg (by omega), if_neg (by omega), if_pos trivial]
  · simp only [Array.getElem?_push, Array.size_push]
    rw [if_neg (by omega), if_pos trivial]
  · simp only [Array.getElem?_push, Array.size_push]
    rw [if_pos trivial]

theorem three_boxes {w w5 : World} {x y z : Obj} (b : Below (((w.alloc x).alloc y).alloc z).heap.size (((w.alloc x).alloc y).alloc z) w5) :
    w5.heap[w.heap.size]? = some x ∧ w5.heap[w.heap.size + 1]? = some y ∧ w5.heap[w.heap.size + 1 + 1]? = some z ∧ Below w.heap.size w w5 := by
  obtain ⟨e0, e1, e2⟩ := push3 w.heap x y z
  have e : (((w.alloc x).alloc y).alloc z).heap.size = w.heap.size + 1 + 1 + 1 := by simp
  rw [e] at b
  refine ⟨?_, ?_, ?_, Below.trans (b := ((w.alloc x).alloc y).alloc z) (by go_grown) (b.mono (by omega))⟩
  · rw [b.block _ (by omega)]; exact e0
  · rw [b.block _ (by omega)]; exact e1
  · rw [b.block _ (by omega)]; exact e2

/-- Behind the document's answer, when it is the document's trail. -/
theorem mid_new {k : K} {w w4 : World} {L : List E} {lev : Nat} {p : V} {rv rv' : Value} {L2 L2' : List E} {n2 lev2 : Nat} {x0 x1 x2 d0 d1 d2 r0 r1 r2 : Value} {o4 : Obj} (h : DoIn k w L lev p rv L2 n2 lev2)
    (re : ReEnd rv L2' (((w.alloc (.cells #[x0, x1, x2] 28)).alloc (.cells #[d0, d1, d2] 33)).alloc (.cells #[r0, r1, r2] 28)) rv' w4) (y0 y1 y2 : Value) :
    Mid k w p p rv' L2' y0 y1 y2 d0 d1 d2 r0 r1 r2 ((((w4.alloc o4).setCell ⟨w.heap.size, 0, none⟩ y0).setCell ⟨w.heap.size, 1, none⟩ y1).setCell ⟨w.heap.size, 2, none⟩ y2) ∧
    Trl k ((((w4.alloc o4).setCell ⟨w.heap.size, 0, none⟩ y0).setCell ⟨w.heap.size, 1, none⟩ y1).setCell ⟨w.heap.size, 2, none⟩ y2) L lev p := by
  obtain ⟨ro, nw, b⟩ := re
  obtain ⟨hx, hd, hr, b4⟩ := three_boxes b
  have ba : Below w4.heap.size w4 (w4.alloc o4) := by go_grown
  have b5 := Below.next b4 ba
  have hx5 := box_keep hx ba
  have hd5 := box_keep hd ba
  have hr5 := box_keep hr ba
  have ro5 := ro.below ba
  have g := grown3 (w4.alloc o4) w.heap.size 0 1 2 y0 y1 y2
  have b6 := put3_below b5 (Nat.le_refl _) y0 y1 y2
  have nm : ∀ j, w.heap.size ≤ j → ¬ Mine k p j := fun j hj hm => by have := (h.t.lt hm).2; omega
  refine ⟨⟨?_, ?_, ?_, ro5.put3 hx5 y0 y1 y2, ?_, nm _ (Nat.le_refl _), nm _ (by omega), nm _ (by omega), Fr.below b6⟩, h.t.below b6⟩
  · rw [set_same (o := 2) (set_same (o := 1) (set_same (o := 0) hx5 y0) y1) y2]; rfl
  · rw [g.block _ (blk_lt hd5) (fun e => by have := Option.some.inj e; omega)]; exact hd5
  · rw [g.block _ (blk_lt hr5) (fun e => by have := Option.some.inj e; omega)]; exact hr5
  · intro j hj
    rcases nw j hj with e | e
    · exact h.aw j e
    · refine nm j ?_
      simp at e
      omega

theorem below_alloc (w : World) (o : Obj) : Below w.heap.size w (w.alloc o) := by go_grown

theorem box3_cells {w : World} {r : Nat} {p q s : Value} {T : TypeId} (h : w.heap[r]? = some (.cells #[p, q, s] T (0, 0))) : w.cell? ⟨r, 0, none⟩ = some p ∧ w.cell? ⟨r, 1, none⟩ = some q ∧ w.cell? ⟨r, 2, none⟩ = some s := (box_cells h).1

theorem rdecide_at {w : World} {rv : Value} {L : List E} {n lev : Nat} (s : RS w rv L n lev) (l : Int) (hu : l ≤ 9223372036854775807) {b : Bool} (hb : mayF n L l = b) {L' : List E} (hL : addL n L l (lev + 1) (-1) = L') {v : Nat} (hv : decV n L lev l = v) :
    Calls Try.prog 24 #[.agg #[.int .i64 n, rv, .int .i64 lev], .int .i64 l] w fun e w' => ∃ ao c, e = .returned (.tuple #[.agg #[.int .i64 n, .slice ao L'.length c, .int .i64 v], .bool b]) ∧ Hid (ReEnd rv L' w (.slice ao L'.length c) w') := by
  refine (rdecide_any s l hu hb).mono fun e w' h => ?_
  obtain ⟨rv', rfl, h⟩ := h
  rw [hL] at h
  rw [hv]
  obtain ⟨ao, c, rfl⟩ := h.shape
  exact ⟨ao, c, rfl, h⟩

theorem rback_at {w : World} {rv : Value} {L : List E} {n lev : Nat} (s : RS w rv L n lev) (x : Int) {L' : List E} (hL : backL L lev x = L') {v : Nat} (hv : backV lev x = v) {G : List Int} (hG : backG L lev x = G) :
    Calls Try.prog 25 #[.agg #[.int .i64 n, rv, .int .i64 lev], .int .i64 x] w fun e w' => ∃ ao c ao2 c2, e = .returned (.tuple #[.agg #[.int .i64 n, .slice ao L'.length c, .int .i64 v], .slice ao2 G.length c2]) ∧ Hid (ReEnd rv L' w (.slice ao L'.length c) w') ∧ Hid (OwnL w' w.heap.size (.slice ao2 G.length c2) G) := by
  refine (rback_any s x).mono fun e w' h => ?_
  obtain ⟨rv', out, rfl, h1, h2⟩ := h
  rw [hL] at h1
  rw [hG] at h2
  rw [hv]
  obtain ⟨ao, c, rfl⟩ := h1.shape
  obtain ⟨ao2, c2, rfl, _⟩ := (LRow.of_own h2).shape
  exact ⟨ao, c, ao2, c2, rfl, h1, h2⟩

section
variable {k : K} {w : World} {L : List E} {lev : Nat} {p : V} {rv : Value} {L2 : List E} {n2 lev2 : Nat}

set_option maxHeartbeats 4000000 in
theorem do_assign (h : DoIn k w L lev p rv L2 n2 lev2) (l t : Int) (hu : l ≤ 9223372036854775807) :
    Calls Try.prog 9 #[.pointer (some ⟨k.OB, 0, none⟩), .agg #[.int .i64 n2, rv, .int .i64 lev2], .agg #[.int .i64 0, .int .i64 l, .int .i64 t]] w fun e w' => ∃ rv', e = .returned (.tuple #[.agg #[.int .i64 n2, rv', .int .i64 (doV n2 L2 lev2 0 l t)], .int .i64 (doI (doB k.n L lev n2 L2 lev2 0 l t))]) ∧ DoEnd k w (doL k.n L lev 0 l t) (doV k.n L lev 0 l t) p (doL n2 L2 lev2 0 l t) rv' w' := by
  obtain ⟨ao, cap, rfl, _⟩ := h.r.ro.shape
  have H := hid h
  obtain ⟨b1, hb1⟩ : ∃ b1, mayF k.n L l = b1 := ⟨_, rfl⟩
  obtain ⟨b2, hb2⟩ : ∃ b2, mayF n2 L2 l = b2 := ⟨_, rfl⟩
  obtain ⟨L1', hL1⟩ : ∃ L1', addL k.n L l lev t = L1' := ⟨_, rfl⟩
  obtain ⟨L2', hL2⟩ : ∃ L2', addL n2 L2 l lev2 t = L2' := ⟨_, rfl⟩
  have HK : Hid (doL k.n L lev 0 l t = L1' ∧ doV k.n L lev 0 l t = lev ∧ doL n2 L2 lev2 0 l t = L2' ∧ doV n2 L2 lev2 0 l t = lev2 ∧ doB k.n L lev n2 L2 lev2 0 l t = (b1 == b2)) := hid ⟨by simp [doL, hL1], by simp [doV], by simp [doL, hL2], by simp [doV], by simp [doB, hb1, hb2]⟩
  have HB1 := hid hb1
  have HB2 := hid hb2
  have HL1 := hid hL1
  have HL2 := hid hL2
  clear h hb1 hb2 hL1 hL2
  cases hc : (b1 == b2)
  all_goals
    go_enter Try.func9, Try.ntmps9
    go_upto_region 6 with (go_at_call 23; with_reducible (refine (rassign_at (H.out.r.below (by go_grown)) l t hu lev2 lev2 rfl HB2.out HL2.out).mono ?_); rintro e w4 ⟨ao4, c4, rfl, r4⟩; have h4 := three_boxes r4.out.be; obtain ⟨x4, d4, z4, b4⟩ := h4; have x5 := box_cells (box_keep x4 (below_alloc w4 (.cells #[.int .i64 n2, .slice ao4 L2'.length c4, .int .i64 lev2] 28))); obtain ⟨⟨x6, x7, x8⟩, x9, x10, x11⟩ := x5; have d5 := box3_cells d4; obtain ⟨d6, d7, d8⟩ := d5)
    have MO := hid (mid_new (o4 := .cells #[.int .i64 n2, .slice ao4 L2'.length c4, .int .i64 lev2] 28) H.out r4.out (.int .i64 n2) (.slice ao4 L2'.length c4) (.int .i64 lev2))
    clear x4 d4 z4 b4 x6 x7 x8 x9 x10 x11 d6 d7 d8 r4
    revert MO
    generalize ((((w4.alloc (.cells #[.int .i64 n2, .slice ao4 L2'.length c4, .int .i64 lev2] 28)).setCell ⟨w.heap.size, 0, none⟩ (.int .i64 n2)).setCell ⟨w.heap.size, 1, none⟩ (.slice ao4 L2'.length c4)).setCell ⟨w.heap.size, 2, none⟩ (.int .i64 lev2)) = w5
    intro MO
    obtain ⟨e6, e7, e8⟩ := box3_cells MO.out.1.hd
    go_wp2_with (go_at_call 21; with_reducible (refine (assign_is MO.out.2 l t hu HB1.out HL1.out).mono ?_); rintro e w6 ⟨p6, rfl, t6, f6⟩; have m6 := hid (MO.out.1.step f6.out); have g1 := box_cells m6.out.hx; obtain ⟨⟨g2, g3, g4⟩, g5, g6, g7⟩ := g1; have q1 := box_cells m6.out.hr; obtain ⟨⟨q2, q3, q4⟩, q5, q6, q7⟩ := q1)
    refine bodyPost_ret (results_box2 rfl _ _ (w.heap.size + 1 + 1) (.int .i64 n2) (.slice ao4 L2'.length c4) (.int .i64 lev2) rfl (by simp [go_sem, q2]) (by simp [go_sem, q3]) (by simp [go_sem, q4])) rfl ?_
    exact ⟨_, by rw [HK.out.2.2.2.1, HK.out.2.2.2.2, hc] <;> rfl, by rw [HK.out.1, HK.out.2.1, HK.out.2.2.1]; exact m6.out.done t6.out _ _ _⟩

set_option maxHeartbeats 4000000 in
theorem do_decide (h : DoIn k w L lev p rv L2 n2 lev2) (l t : Int) (hu : l ≤ 9223372036854775807) :
    Calls Try.prog 9 #[.pointer (some ⟨k.OB, 0, none⟩), .agg #[.int .i64 n2, rv, .int .i64 lev2], .agg #[.int .i64 1, .int .i64 l, .int .i64 t]] w fun e w' => ∃ rv', e = .returned (.tuple #[.agg #[.int .i64 n2, rv', .int .i64 (doV n2 L2 lev2 1 l t)], .int .i64 (doI (doB k.n L lev n2 L2 lev2 1 l t))]) ∧ DoEnd k w (doL k.n L lev 1 l t) (doV k.n L lev 1 l t) p (doL n2 L2 lev2 1 l t) rv' w' := by
  obtain ⟨ao, cap, rfl, _⟩ := h.r.ro.shape
  have H := hid h
  obtain ⟨b1, hb1⟩ : ∃ b1, mayF k.n L l = b1 := ⟨_, rfl⟩
  obtain ⟨b2, hb2⟩ : ∃ b2, mayF n2 L2 l = b2 := ⟨_, rfl⟩
  obtain ⟨L1', hL1⟩ : ∃ L1', addL k.n L l (lev + 1) (-1) = L1' := ⟨_, rfl⟩
  obtain ⟨L2', hL2⟩ : ∃ L2', addL n2 L2 l (lev2 + 1) (-1) = L2' := ⟨_, rfl⟩
  obtain ⟨v1, hv1⟩ : ∃ v1, decV k.n L lev l = v1 := ⟨_, rfl⟩
  obtain ⟨v2, hv2⟩ : ∃ v2, decV n2 L2 lev2 l = v2 := ⟨_, rfl⟩
  have HK : Hid (doL k.n L lev 1 l t = L1' ∧ doV k.n L lev 1 l t = v1 ∧ doL n2 L2 lev2 1 l t = L2' ∧ doV n2 L2 lev2 1 l t = v2 ∧ doB k.n L lev n2 L2 lev2 1 l t = (b1 == b2)) := hid ⟨by simp [doL, hL1], by simp [doV, hv1], by simp [doL, hL2], by simp [doV, hv2], by simp [doB, hb1, hb2]⟩
  have HB1 := hid hb1
  have HB2 := hid hb2
  have HL1 := hid hL1
  have HL2 := hid hL2
  have HV1 := hid hv1
  have HV2 := hid hv2
  clear h hb1 hb2 hL1 hL2 hv1 hv2
  cases hc : (b1 == b2)
  all_goals
    go_enter Try.func9, Try.ntmps9
    go_upto_region 10 with (go_at_call 24; with_reducible (refine (rdecide_at (H.out.r.below (by go_grown)) l hu HB2.out HL2.out HV2.out).mono ?_); rintro e w4 ⟨ao4, c4, rfl, r4⟩; have h4 := three_boxes r4.out.be; obtain ⟨x4, d4, z4, b4⟩ := h4; have x5 := box_cells (box_keep x4 (below_alloc w4 (.cells #[.int .i64 n2, .slice ao4 L2'.length c4, .int .i64 v2] 28))); obtain ⟨⟨x6, x7, x8⟩, x9, x10, x11⟩ := x5; have d5 := box3_cells d4; obtain ⟨d6, d7, d8⟩ := d5)
    have MO := hid (mid_new (o4 := .cells #[.int .i64 n2, .slice ao4 L2'.length c4, .int .i64 v2] 28) H.out r4.out (.int .i64 n2) (.slice ao4 L2'.length c4) (.int .i64 v2))
    clear x4 d4 z4 b4 x6 x7 x8 x9 x10 x11 d6 d7 d8 r4
    revert MO
    generalize ((((w4.alloc (.cells #[.int .i64 n2, .slice ao4 L2'.length c4, .int .i64 v2] 28)).setCell ⟨w.heap.size, 0, none⟩ (.int .i64 n2)).setCell ⟨w.heap.size, 1, none⟩ (.slice ao4 L2'.length c4)).setCell ⟨w.heap.size, 2, none⟩ (.int .i64 v2)) = w5
    intro MO
    obtain ⟨e6, e7, e8⟩ := box3_cells MO.out.1.hd
    go_wp2_with (go_at_call 22; with_reducible (refine (decide_is MO.out.2 l hu HB1.out HL1.out HV1.out).mono ?_); rintro e w6 ⟨p6, rfl, t6, f6⟩; have m6 := hid (MO.out.1.step f6.out); have g1 := box_cells m6.out.hx; obtain ⟨⟨g2, g3, g4⟩, g5, g6, g7⟩ := g1; have q1 := box_cells m6.out.hr; obtain ⟨⟨q2, q3, q4⟩, q5, q6, q7⟩ := q1)
    refine bodyPost_ret (results_box2 rfl _ _ (w.heap.size + 1 + 1) (.int .i64 n2) (.slice ao4 L2'.length c4) (.int .i64 v2) rfl (by simp [go_sem, q2]) (by simp [go_sem, q3]) (by simp [go_sem, q4])) rfl ?_
    exact ⟨_, by rw [HK.out.2.2.2.1, HK.out.2.2.2.2, hc] <;> rfl, by rw [HK.out.1, HK.out.2.1, HK.out.2.2.1]; exact m6.out.done t6.out _ _ _⟩
end

end Go.Proofs.Ytimpoagdidnpiaa
