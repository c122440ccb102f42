/-
  One deed of an order: each has half; what is no deed; all deeds.
-/
import Derived.Test.YtbddhjohlpblaaaDoB
namespace Go.Proofs.Ytbddhjohlpblaaa
open Go.RowKit
set_option linter.unusedVariables false

theorem HalveEnd.out {k : K} {A : List Int} {W : List Bool} {wv : Value} {w w' : World} (h : HalveEnd k A W wv w w') : Hid (Ord k w' (halveF A) W wv) ∧ Hid (Fr k wv wv w w') := h

theorem rhalve_at {w : World} {av bv : Value} {A : List Int} {W : List Bool} (s : RO w av bv A W) (hn : A.length ≤ 1048576) (hbd : ∀ u : Nat, u < A.length → 0 ≤ fn A u ∧ fn A u ≤ 1099511627776) :
    Calls Try.prog 22 #[.agg #[av, bv]] w fun e w' => ∃ ao c, e = .returned (.agg #[.slice ao A.length c, bv]) ∧ Hid (RO w' (.slice ao A.length c) bv (halveF A) W) ∧ Hid (Nw w av (.slice ao A.length c)) ∧ Hid (Below w.heap.size w w') := by
  refine (rhalve_any s hn hbd).mono fun e w' h => ?_
  obtain ⟨av', rfl, h1, h2, h3⟩ := h
  obtain ⟨ao, c, rfl⟩ := own_shape h1.a
  rw [halveF_len] at h1 h2 ⊢
  exact ⟨ao, c, rfl, h1, h2, h3⟩

/-- It begins: the box of the document's order is the first of the three. -/
theorem mid_first {k : K} {w : World} {A A2 : List Int} {W W2 : List Bool} {wv av bv p q : Value} {o2 : Obj} (h : DoIn k w A W wv av bv A2 W2) :
    Mid k w wv wv av bv A2 W2 w.heap.size (w.heap.size + 1 + 1) p q (((w.alloc (.cells #[av, bv] 29)).alloc o2).alloc (.cells #[p, q] 29)) ∧ Ord k (((w.alloc (.cells #[av, bv] 29)).alloc o2).alloc (.cells #[p, q] 29)) A W wv := by
  obtain ⟨x, _, z, b5⟩ := three_boxes (Below.refl _ (((w.alloc (.cells #[av, bv] 29)).alloc o2).alloc (.cells #[p, q] 29)))
  refine ⟨⟨x, z, h.r.below b5, h.wa, h.wb, fun hm => ?_, fun hm => ?_, by omega, Fr.below b5⟩, h.o.below b5⟩
  · have := (h.o.lt hm).2; omega
  · have := (h.o.lt hm).2; omega

theorem do_end3 {k : K} {w w4 w6 : World} {A A2 : List Int} {W W2 : List Bool} {wv wv' av bv av' p q : Value} {y r : Nat} {v t : Int} (h : DoIn k w A W wv av bv A2 W2) (m : Mid k w wv wv' av bv A2 W2 y r p q w4) (o : Ord k w4 (halveF A) W wv') (b : Below w4.heap.size w4 w6) (ro : RO w6 av' bv (halveF A2) W2) (n : Nw w4 av av') :
    DoEnd k w wv A W A2 W2 3 v t av' bv ((w6.setCell ⟨r, 0, none⟩ av').setCell ⟨r, 1, none⟩ bv) := by
  have m6 := m.step (Fr.below b)
  have h1 := own_ne ro.a m6.hr (by decide)
  have h2 := own_ne ro.b m6.hr (by decide)
  have o6 := o.below b
  refine ⟨wv', ?_, m6.fr.put m6.lo _ _⟩
  have e1 : doA A 3 v t = halveF A := by simp [doA]
  have e2 : doA A2 3 v t = halveF A2 := by simp [doA]
  have e3 : doW A W 3 v = W := by simp [doW]
  have e4 : doW A2 W2 3 v = W2 := by simp [doW]
  rw [e1, e2, e3, e4]
  refine ⟨(o6.keep (grown_set w6 _ _) (fun j hj => by cases hj; exact m6.nr)).keep (grown_set _ _ _) (fun j hj => by cases hj; exact m6.nr), ro.put h1 h2, m.wa.nw o n (Nat.le_refl _), m6.wb, by rw [halveF_len]; exact h.la, by rw [halveF_len]; exact h.l2, h.lw, h.hn, halve_bd h.bd⟩

set_option maxHeartbeats 2000000 in
theorem do_halve {k : K} {w : World} {A A2 : List Int} {W W2 : List Bool} {wv av bv : Value} (h : DoIn k w A W wv av bv A2 W2) (v t : Int) :
    Calls Try.prog 9 #[.pointer (some ⟨k.OB, 0, none⟩), .agg #[av, bv], .agg #[.int .i64 3, .int .i64 v, .int .i64 t]] w fun e w' => ∃ av' bv', e = .returned (.tuple #[.agg #[av', bv'], .bool (doOk A W A2 W2 3 v)]) ∧ DoEnd k w wv A W A2 W2 3 v t av' bv' w' := by
  obtain ⟨ao, c, rfl⟩ := own_shape h.r.a
  obtain ⟨bo, d, rfl⟩ := own_shape h.r.b
  have H := hid h
  have hn2 : A2.length ≤ 1048576 := by have := h.hn; have := h.l2; omega
  have HBD := hid h.bd
  have HK : Hid (doOk A W A2 W2 3 v = true) := hid (by simp [doOk])
  have M0 := hid (mid_first (p := .slice none 0 0) (q := .slice none 0 0) (o2 := .cells #[.int .i64 3, .int .i64 v, .int .i64 t] 34) h)
  clear h
  go_enter Try.func9, Try.ntmps9
  go_wp2_with (first
    | (go_at_call 16; with_reducible (refine (halve_any M0.out.2).mono ?_); rintro e w4 ⟨rfl, h4⟩; have h5 := h4.out; obtain ⟨o4, f4⟩ := h5; have m4 := hid (M0.out.1.step f4.out); have g1 := m4.out.cells; obtain ⟨⟨g2, g3⟩, g4, g5, g6, g7⟩ := g1)
    | (go_at_call 22; with_reducible (refine (rhalve_at m4.out.ro hn2 HBD.out).mono ?_); rintro e w6 ⟨ao6, c6, rfl, r6, n6, b6⟩; have z6 := box_cells (box_keep m4.out.hr b6.out); obtain ⟨z1, z2, z3, z4⟩ := z6))
  refine bodyPost_ret (results_box2 rfl _ _ (w.heap.size + 1 + 1) (.slice ao6 A2.length c6) (.slice bo W2.length d) rfl (by simp [go_sem, z1]) (by simp [go_sem, z2])) rfl ?_
  exact ⟨_, _, by rw [HK.out]; rfl, do_end3 H.out m4.out o4.out b6.out r6.out n6.out⟩

theorem do_same {k : K} {w w6 : World} {A A2 : List Int} {W W2 : List Bool} {wv av bv : Value} {kd v t : Int} (h0 : ¬ kd = 0) (h1 : ¬ kd = 1) (h2 : ¬ kd = 2) (h3 : ¬ kd = 3) (h : DoIn k w A W wv av bv A2 W2) (b : Below w.heap.size w w6) : DoEnd k w wv A W A2 W2 kd v t av bv w6 := by
  have e1 : doA A kd v t = A := by simp [doA, h2, h3]
  have e2 : doA A2 kd v t = A2 := by simp [doA, h2, h3]
  have e3 : doW A W kd v = W := by simp [doW, h0, h1]
  have e4 : doW A2 W2 kd v = W2 := by simp [doW, h0, h1]
  refine ⟨wv, ?_, Fr.below b⟩
  rw [e1, e2, e3, e4]
  exact ⟨h.o.below b, h.r.below b, h.wa, h.wb, h.la, h.l2, h.lw, h.hn, h.bd⟩

set_option maxHeartbeats 2000000 in
theorem do_other {k : K} {w : World} {A A2 : List Int} {W W2 : List Bool} {wv av bv : Value} (h : DoIn k w A W wv av bv A2 W2) (kd v t : Int) (h0 : ¬ kd = 0) (h1 : ¬ kd = 1) (h2 : ¬ kd = 2) (h3 : ¬ kd = 3) :
    Calls Try.prog 9 #[.pointer (some ⟨k.OB, 0, none⟩), .agg #[av, bv], .agg #[.int .i64 kd, .int .i64 v, .int .i64 t]] w fun e w' => ∃ av' bv', e = .returned (.tuple #[.agg #[av', bv'], .bool (doOk A W A2 W2 kd v)]) ∧ DoEnd k w wv A W A2 W2 kd v t av' bv' w' := by
  obtain ⟨ao, c, rfl⟩ := own_shape h.r.a
  obtain ⟨bo, d, rfl⟩ := own_shape h.r.b
  have H := hid h
  have HK : Hid (doOk A W A2 W2 kd v = true) := hid (by simp [doOk, h0, h1])
  have H0 := hid h0
  have H1 := hid h1
  have H2 := hid h2
  have H3 := hid h3
  have k0 : (kd == 0) = false := by simpa using h0
  have k1 : (kd == 1) = false := by simpa using h1
  have k2 : (kd == 2) = false := by simpa using h2
  have k3 : (kd == 3) = false := by simpa using h3
  clear h h0 h1 h2 h3
  go_enter Try.func9, Try.ntmps9
  go_wp2
  refine bodyPost_ret (results_box2 rfl _ _ (w.heap.size + 1 + 1) (.slice ao A2.length c) (.slice bo W2.length d) rfl (by simp [go_sem]) (by simp [go_sem])) rfl ?_
  exact ⟨_, _, by rw [HK.out]; rfl, do_same H0.out H1.out H2.out H3.out H.out (by go_grown)⟩

/-- Whatever the deed is. -/
theorem do_any {k : K} {w : World} {A A2 : List Int} {W W2 : List Bool} {wv av bv : Value} (h : DoIn k w A W wv av bv A2 W2) (kd v t : Int) :
    Calls Try.prog 9 #[.pointer (some ⟨k.OB, 0, none⟩), .agg #[av, bv], .agg #[.int .i64 kd, .int .i64 v, .int .i64 t]] w fun e w' => ∃ ao c bo d, e = .returned (.tuple #[.agg #[.slice ao k.n c, .slice bo k.n d], .bool (doOk A W A2 W2 kd v)]) ∧ Hid (DoEnd k w wv A W A2 W2 kd v t (.slice ao k.n c) (.slice bo k.n d) w') := by
  have key : Calls Try.prog 9 #[.pointer (some ⟨k.OB, 0, none⟩), .agg #[av, bv], .agg #[.int .i64 kd, .int .i64 v, .int .i64 t]] w fun e w' => ∃ av' bv', e = .returned (.tuple #[.agg #[av', bv'], .bool (doOk A W A2 W2 kd v)]) ∧ DoEnd k w wv A W A2 W2 kd v t av' bv' w' := by
    by_cases h0 : kd = 0
    · subst h0; exact do_push h v t
    · by_cases h1 : kd = 1
      · subst h1; exact do_pop h v t
      · by_cases h2 : kd = 2
        · subst h2; exact do_bump h v t
        · by_cases h3 : kd = 3
          · subst h3; exact do_halve h v t
          · exact do_other h kd v t h0 h1 h2 h3
  refine key.mono fun e w' he => ?_
  obtain ⟨av', bv', rfl, wv', h1, h2⟩ := he
  obtain ⟨ao, c, rfl⟩ := own_shape h1.r.a
  obtain ⟨bo, d, rfl⟩ := own_shape h1.r.b
  rw [h1.l2, h1.lw] at h1 ⊢
  exact ⟨ao, c, bo, d, rfl, ⟨wv', h1, h2⟩⟩

end Go.Proofs.Ytbddhjohlpblaaa
