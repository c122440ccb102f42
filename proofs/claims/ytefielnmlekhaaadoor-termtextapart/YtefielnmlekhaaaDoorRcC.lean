/-
  The document's calls: Binary.
-/
import Derived.Test.YtefielnmlekhaaaDoorRcalls
namespace Go.Proofs.YtefielnmlekhaaaDoor
open Go.RowKit Go.Maps
set_option linter.unusedVariables false
set_option maxRecDepth 100000

set_option maxHeartbeats 8000000 in
theorem rbinary_any {w : World} {ao : Option Addr} {c M : Nat} {N : List Nd} (s : RD w ao c N) (hN : N.length ≤ 65536) (op a b : Int) :
    Calls Tryd.prog 37 #[.agg #[.slice ao N.length c, .int .i64 M], .int .i64 op, .int .i64 a, .int .i64 b] w fun e w' => RcEnd w ao M N (binP N op a b) e w' := by
  have HS : Hid (RE w ao c M N _) := hid (RE.start s)
  clear s
  by_cases h1 : op < 1
  · refine rc_tells (q := .inl (0, 3)) (by simp [binP, h1]) ?_
    go_enter Tryd.func37, Tryd.ntmps37
    go_upto_region 1 with fail
    revert HS
    generalize ((w.alloc (.cells #[.slice ao N.length c, .int .i64 M] 27)).alloc (.cells #[.slice none 0 0, .int .i64 0] 27)) = wr
    intro HS
    have C0 := HS.out.cells
    obtain ⟨c0, c1, r0, r1, f0, f1⟩ := C0
    go_wp2
    refine bodyPost_ret (results_box3 rfl _ _ (w.heap.size + 1) _ _ rfl (res_two HS.out.b1).1 (res_two HS.out.b1).2) rfl ?_
    exact rc_no HS.out
  by_cases h2 : 14 < op
  · refine rc_tells (q := .inl (0, 3)) (by simp [binP, h2]) ?_
    go_enter Tryd.func37, Tryd.ntmps37
    go_upto_region 1 with fail
    revert HS
    generalize ((w.alloc (.cells #[.slice ao N.length c, .int .i64 M] 27)).alloc (.cells #[.slice none 0 0, .int .i64 0] 27)) = wr
    intro HS
    have C0 := HS.out.cells
    obtain ⟨c0, c1, r0, r1, f0, f1⟩ := C0
    go_wp2
    refine bodyPost_ret (results_box3 rfl _ _ (w.heap.size + 1) _ _ rfl (res_two HS.out.b1).1 (res_two HS.out.b1).2) rfl ?_
    exact rc_no HS.out
  have d1 : (decide (op < 1) || decide (14 < op)) = false := by simp; omega
  cases ha : isN N a
  · refine rc_tells (q := .inl (0, 11)) (by simp only [binP, d1, ha]; rfl) ?_
    have HA := hid ha
    clear ha d1
    go_enter Tryd.func37, Tryd.ntmps37
    go_upto_region 1 with fail
    revert HS
    generalize ((w.alloc (.cells #[.slice ao N.length c, .int .i64 M] 27)).alloc (.cells #[.slice none 0 0, .int .i64 0] 27)) = wr
    intro HS
    have C0 := HS.out.cells
    obtain ⟨c0, c1, r0, r1, f0, f1⟩ := C0
    go_wp2_with (go_at_call 22; with_reducible (refine (ris_at HS.out a HA.out).mono ?_); rintro e w2 ⟨rfl, s2, q2⟩; obtain ⟨c0, c1, r0, r1, f0, f1⟩ := q2)
    refine bodyPost_ret (results_box3 rfl _ _ (w.heap.size + 1) _ _ rfl (res_two s2.out.b1).1 (res_two s2.out.b1).2) rfl ?_
    exact rc_no s2.out
  cases hb : isN N b
  · refine rc_tells (q := .inl (0, 11)) (by simp only [binP, d1, ha, hb]; rfl) ?_
    have HA := hid ha
    have HB := hid hb
    clear ha hb d1
    go_enter Tryd.func37, Tryd.ntmps37
    go_upto_region 1 with fail
    revert HS
    generalize ((w.alloc (.cells #[.slice ao N.length c, .int .i64 M] 27)).alloc (.cells #[.slice none 0 0, .int .i64 0] 27)) = wr
    intro HS
    have C0 := HS.out.cells
    obtain ⟨c0, c1, r0, r1, f0, f1⟩ := C0
    go_wp2_with (first
      | (go_at_call 22; with_reducible (refine (ris_at s2.out b HB.out).mono ?_); rintro e w3 ⟨rfl, s3, q3⟩; obtain ⟨c0, c1, r0, r1, f0, f1⟩ := q3)
      | (go_at_call 22; with_reducible (refine (ris_at HS.out a HA.out).mono ?_); rintro e w2 ⟨rfl, s2, q2⟩; obtain ⟨c0, c1, r0, r1, f0, f1⟩ := q2))
    refine bodyPost_ret (results_box3 rfl _ _ (w.heap.size + 1) _ _ rfl (res_two s3.out.b1).1 (res_two s3.out.b1).2) rfl ?_
    exact rc_no s3.out
  obtain ⟨x, hx⟩ : ∃ x, wdF N a = x := ⟨_, rfl⟩
  obtain ⟨y, hy⟩ : ∃ y, wdF N b = y := ⟨_, rfl⟩
  have HA := hid ha
  have HB := hid hb
  have HX := hid hx
  have HY := hid hy
  by_cases hxy : x = y
  · subst hxy
    by_cases h12 : 12 ≤ op
    · refine rc_tells (q := .inr ⟨op, 1, a, b, 0, 0⟩) (by simp only [binP, d1, ha, hb, hx, hy, opW, if_pos h12]; simp) ?_
      clear ha hb hx hy d1
      go_enter Tryd.func37, Tryd.ntmps37
      go_upto_region 1 with fail
      revert HS
      generalize ((w.alloc (.cells #[.slice ao N.length c, .int .i64 M] 27)).alloc (.cells #[.slice none 0 0, .int .i64 0] 27)) = wr
      intro HS
      have C0 := HS.out.cells
      obtain ⟨c0, c1, r0, r1, f0, f1⟩ := C0
      go_wp2_with (first
        | (go_at_call 53; with_reducible (refine (rmade_at s5.out _ _ _ _ _ _ hN).mono ?_); rintro e w6 ⟨ao6, cc6, rfl, h6, b6, q6⟩; obtain ⟨c0, c1, r0, r1, f0, f1⟩ := q6)
        | (go_at_call 55; with_reducible (refine (rwidth_at s4.out b HY.out).mono ?_); rintro e w5 ⟨rfl, s5, q5⟩; obtain ⟨c0, c1, r0, r1, f0, f1⟩ := q5)
        | (go_at_call 55; with_reducible (refine (rwidth_at s3.out a HX.out).mono ?_); rintro e w4 ⟨rfl, s4, q4⟩; obtain ⟨c0, c1, r0, r1, f0, f1⟩ := q4)
        | (go_at_call 22; with_reducible (refine (ris_at s2.out b HB.out).mono ?_); rintro e w3 ⟨rfl, s3, q3⟩; obtain ⟨c0, c1, r0, r1, f0, f1⟩ := q3)
        | (go_at_call 22; with_reducible (refine (ris_at HS.out a HA.out).mono ?_); rintro e w2 ⟨rfl, s2, q2⟩; obtain ⟨c0, c1, r0, r1, f0, f1⟩ := q2))
      refine bodyPost_ret (results_box3 rfl _ _ (w.heap.size + 1) _ _ rfl (res_two (s5.out.below b6.out).b1).1 (res_two (s5.out.below b6.out).b1).2) rfl ?_
      exact rc_yes s5.out h6 b6
    · refine rc_tells (q := .inr ⟨op, x, a, b, 0, 0⟩) (by simp only [binP, d1, ha, hb, hx, hy, opW, if_neg h12]; simp) ?_
      clear ha hb hx hy d1
      go_enter Tryd.func37, Tryd.ntmps37
      go_upto_region 1 with fail
      revert HS
      generalize ((w.alloc (.cells #[.slice ao N.length c, .int .i64 M] 27)).alloc (.cells #[.slice none 0 0, .int .i64 0] 27)) = wr
      intro HS
      have C0 := HS.out.cells
      obtain ⟨c0, c1, r0, r1, f0, f1⟩ := C0
      go_wp2_with (first
        | (go_at_call 53; with_reducible (refine (rmade_at s5.out _ _ _ _ _ _ hN).mono ?_); rintro e w6 ⟨ao6, cc6, rfl, h6, b6, q6⟩; obtain ⟨c0, c1, r0, r1, f0, f1⟩ := q6)
        | (go_at_call 55; with_reducible (refine (rwidth_at s4.out b HY.out).mono ?_); rintro e w5 ⟨rfl, s5, q5⟩; obtain ⟨c0, c1, r0, r1, f0, f1⟩ := q5)
        | (go_at_call 55; with_reducible (refine (rwidth_at s3.out a HX.out).mono ?_); rintro e w4 ⟨rfl, s4, q4⟩; obtain ⟨c0, c1, r0, r1, f0, f1⟩ := q4)
        | (go_at_call 22; with_reducible (refine (ris_at s2.out b HB.out).mono ?_); rintro e w3 ⟨rfl, s3, q3⟩; obtain ⟨c0, c1, r0, r1, f0, f1⟩ := q3)
        | (go_at_call 22; with_reducible (refine (ris_at HS.out a HA.out).mono ?_); rintro e w2 ⟨rfl, s2, q2⟩; obtain ⟨c0, c1, r0, r1, f0, f1⟩ := q2))
      refine bodyPost_ret (results_box3 rfl _ _ (w.heap.size + 1) _ _ rfl (res_two (s5.out.below b6.out).b1).1 (res_two (s5.out.below b6.out).b1).2) rfl ?_
      exact rc_yes s5.out h6 b6
  · refine rc_tells (q := .inl (0, 2)) (by simp only [binP, d1, ha, hb, hx, hy]; simp [hxy]) ?_
    have hne : (x != y) = true := by simpa using hxy
    clear ha hb hx hy d1 hxy
    go_enter Tryd.func37, Tryd.ntmps37
    go_upto_region 1 with fail
    revert HS
    generalize ((w.alloc (.cells #[.slice ao N.length c, .int .i64 M] 27)).alloc (.cells #[.slice none 0 0, .int .i64 0] 27)) = wr
    intro HS
    have C0 := HS.out.cells
    obtain ⟨c0, c1, r0, r1, f0, f1⟩ := C0
    go_wp2_with (first
      | (go_at_call 55; with_reducible (refine (rwidth_at s4.out b HY.out).mono ?_); rintro e w5 ⟨rfl, s5, q5⟩; obtain ⟨c0, c1, r0, r1, f0, f1⟩ := q5)
      | (go_at_call 55; with_reducible (refine (rwidth_at s3.out a HX.out).mono ?_); rintro e w4 ⟨rfl, s4, q4⟩; obtain ⟨c0, c1, r0, r1, f0, f1⟩ := q4)
      | (go_at_call 22; with_reducible (refine (ris_at s2.out b HB.out).mono ?_); rintro e w3 ⟨rfl, s3, q3⟩; obtain ⟨c0, c1, r0, r1, f0, f1⟩ := q3)
      | (go_at_call 22; with_reducible (refine (ris_at HS.out a HA.out).mono ?_); rintro e w2 ⟨rfl, s2, q2⟩; obtain ⟨c0, c1, r0, r1, f0, f1⟩ := q2))
    refine bodyPost_ret (results_box3 rfl _ _ (w.heap.size + 1) _ _ rfl (res_two s5.out.b1).1 (res_two s5.out.b1).2) rfl ?_
    exact rc_no s5.out

end Go.Proofs.YtefielnmlekhaaaDoor
