/-
  One deed of an order: it has more activity.
-/
import Derived.Test.YtbddhjohlpblaaaDo
namespace Go.Proofs.Ytbddhjohlpblaaa
open Go.RowKit
set_option linter.unusedVariables false

theorem BumpEnd.out {k : K} {A : List Int} {W : List Bool} {wv : Value} {v d : Int} {w w' : World} (h : BumpEnd k A W wv v d w w') : Hid (Ord k w' (bumpF A v d) W wv) ∧ Hid (Fr k wv wv w w') := h

theorem rbump_at {w : World} {av bv : Value} {A : List Int} {W : List Bool} (s : RO w av bv A W) (v t : Int) (hn : A.length ≤ 1048576) (hbd : ∀ u : Nat, u < A.length → 0 ≤ fn A u ∧ fn A u ≤ 1099511627776) :
    Calls Try.prog 21 #[.agg #[av, bv], .int .i64 v, .int .i64 t] w fun e w' => ∃ ao c, e = .returned (.tuple #[.agg #[.slice ao A.length c, bv], .bool (isF A.length v)]) ∧ Hid (RO w' (.slice ao A.length c) bv (bumpF A v t) W) ∧ Hid (Nw w av (.slice ao A.length c)) ∧ Hid (Below w.heap.size w w') := by
  refine (rbump_any s v t hn hbd).mono fun e w' h => ?_
  obtain ⟨av', rfl, h1, h2, h3⟩ := h
  obtain ⟨ao, c, rfl⟩ := own_shape h1.a
  rw [bumpF_len] at h1 h2 ⊢
  exact ⟨ao, c, rfl, h1, h2, h3⟩

theorem do_end2 {k : K} {w w6 : World} {A A2 : List Int} {W W2 : List Bool} {wv wv' av bv av' bv' p q : Value} {y r : Nat} {v t : Int} (h : DoIn k w A W wv av bv A2 W2) (m : Mid k w wv wv' av' bv' (bumpF A2 v t) W2 y r p q w6) (o : Ord k w6 (bumpF A v t) W wv') :
    DoEnd k w wv A W A2 W2 2 v t av' bv' ((w6.setCell ⟨r, 0, none⟩ av').setCell ⟨r, 1, none⟩ bv') := by
  have := m.done o (by rw [bumpF_len]; exact h.la) (by rw [bumpF_len]; exact h.l2) h.lw h.hn (bump_bd h.bd v t)
  exact ⟨wv', by simpa [doA, doW] using this.1, this.2⟩

set_option maxHeartbeats 2000000 in
theorem do_bump {k : K} {w : World} {A A2 : List Int} {W W2 : List Bool} {wv av bv : Value} (h : DoIn k w A W wv av bv A2 W2) (v t : Int) :
    Calls Try.prog 9 #[.pointer (some ⟨k.OB, 0, none⟩), .agg #[av, bv], .agg #[.int .i64 2, .int .i64 v, .int .i64 t]] w fun e w' => ∃ av' bv', e = .returned (.tuple #[.agg #[av', bv'], .bool (doOk A W A2 W2 2 v)]) ∧ DoEnd k w wv A W A2 W2 2 v t av' bv' w' := by
  obtain ⟨ao, c, rfl⟩ := own_shape h.r.a
  obtain ⟨bo, d, rfl⟩ := own_shape h.r.b
  have H := hid h
  have hn2 : A2.length ≤ 1048576 := by have := h.hn; have := h.l2; omega
  have HBD := hid h.bd
  have HK : Hid (doOk A W A2 W2 2 v = (isF k.n v == isF A2.length v)) := hid (by simp [doOk, h.l2])
  clear h
  go_enter Try.func9, Try.ntmps9
  go_wp2_with (go_at_call 21; with_reducible (refine (rbump_at (H.out.r.below (by go_grown)) v t hn2 HBD.out).mono ?_); rintro e w4 ⟨ao4, d4, rfl, r4, n4, b4⟩; have h4 := three_boxes b4.out; obtain ⟨x4, y4, z4, b5⟩ := h4; have y5 := box3_cells y4; obtain ⟨y0, y1, y2⟩ := y5)
  have MO := hid (mid_new H.out b4.out r4.out n4.out (Nw.refl _ _))
  have hbw : Below w4.heap.size w4 (w4.alloc (.cells #[.slice ao4 A2.length d4, .slice bo W2.length d] 29)) := by go_grown
  have y1' := (hbw.cell (cell_lt y1)).trans y1
  have y2' := (hbw.cell (cell_lt y2)).trans y2
  obtain ⟨⟨c1, c2⟩, c3, c4, c5, c6⟩ := MO.out.1.cells
  revert MO y1' y2' c1 c2 c3 c4 c5 c6
  clear hbw
  generalize w4.alloc (.cells #[.slice ao4 A2.length d4, .slice bo W2.length d] 29) = w5
  intro MO y1' y2' c1 c2 c3 c4 c5 c6
  clear x4 y4 z4 b5 y0 y1 y2 r4 n4 b4
  go_region_with (go_at_call 18; with_reducible (refine (bump_any (MO.out.2.below (below_drew _)) v t).mono ?_); rintro e w6 ⟨rfl, h6⟩; have h7 := h6.out; obtain ⟨o6, f6⟩ := h7; have m6 := hid (MO.out.1.step ((Fr.drew _ _ _).trans f6.out)); have g1 := m6.out.cells; obtain ⟨⟨g2, g3⟩, g4, g5, g6, g7⟩ := g1)
  all_goals go_wp2
  all_goals refine bodyPost_ret (results_box2 rfl _ _ (w.heap.size + 1 + 1) (.slice ao4 A2.length d4) (.slice bo W2.length d) rfl (by simp [go_sem, g4]) (by simp [go_sem, g5])) rfl ?_
  all_goals exact ⟨_, _, by rw [HK.out]; rfl, do_end2 H.out m6.out o6.out⟩

end Go.Proofs.Ytbddhjohlpblaaa
