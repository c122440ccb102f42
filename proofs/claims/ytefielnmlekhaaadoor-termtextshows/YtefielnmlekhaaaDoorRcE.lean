/-
  The document's calls: Extend.
-/
import Derived.Test.YtefielnmlekhaaaDoorRcalls
namespace Go.Proofs.YtefielnmlekhaaaDoor
open Go.RowKit Go.Maps
set_option linter.unusedVariables false
set_option maxRecDepth 100000

set_option maxHeartbeats 8000000 in
theorem rextend_any {w : World} {ao : Option Addr} {c M : Nat} {N : List Nd} (s : RD w ao c N) (hN : N.length ≤ 65536) (a x : Int) (g : Bool) :
    Calls Tryd.prog 41 #[.agg #[.slice ao N.length c, .int .i64 M], .int .i64 a, .int .i64 x, .bool g] w fun e w' => RcEnd w ao M N (widP N a x g) e w' := by
  have HS : Hid (RE w ao c M N _) := hid (RE.start s)
  clear s
  cases ha : isN N a
  · refine rc_tells (q := .inl (0, 11)) (by simp only [widP, ha]; rfl) ?_
    have HA := hid ha
    clear ha
    go_enter Tryd.func41, Tryd.ntmps41
    go_upto_region 1 with fail
    revert HS
    generalize ((w.alloc (.cells #[.slice ao N.length c, .int .i64 M] 27)).alloc (.cells #[.slice none 0 0, .int .i64 0] 27)) = wr
    intro HS
    have C0 := HS.out.cells
    obtain ⟨c0, c1, r0, r1, f0, f1⟩ := C0
    go_wp2_with (go_at_call 22; with_reducible (refine (ris_at HS.out a HA.out).mono ?_); rintro e w2 ⟨rfl, s2, q2⟩; obtain ⟨c0, c1, r0, r1, f0, f1⟩ := q2)
    refine bodyPost_ret (results_box3 rfl _ _ (w.heap.size + 1) _ _ rfl (res_two s2.out.b1).1 (res_two s2.out.b1).2) rfl ?_
    exact rc_no s2.out
  obtain ⟨y, hy⟩ : ∃ y, wdF N a = y := ⟨_, rfl⟩
  have HA := hid ha
  have HY := hid hy
  by_cases h1 : x < y
  · refine rc_tells (q := .inl (0, 2)) (by simp only [widP, ha, hy]; simp [h1]) ?_
    clear ha hy
    go_enter Tryd.func41, Tryd.ntmps41
    go_upto_region 1 with fail
    revert HS
    generalize ((w.alloc (.cells #[.slice ao N.length c, .int .i64 M] 27)).alloc (.cells #[.slice none 0 0, .int .i64 0] 27)) = wr
    intro HS
    have C0 := HS.out.cells
    obtain ⟨c0, c1, r0, r1, f0, f1⟩ := C0
    go_wp2_with (first
      | (go_at_call 55; with_reducible (refine (rwidth_at s2.out a HY.out).mono ?_); rintro e w3 ⟨rfl, s3, q3⟩; obtain ⟨c0, c1, r0, r1, f0, f1⟩ := q3)
      | (go_at_call 22; with_reducible (refine (ris_at HS.out a HA.out).mono ?_); rintro e w2 ⟨rfl, s2, q2⟩; obtain ⟨c0, c1, r0, r1, f0, f1⟩ := q2))
    refine bodyPost_ret (results_box3 rfl _ _ (w.heap.size + 1) _ _ rfl (res_two s3.out.b1).1 (res_two s3.out.b1).2) rfl ?_
    exact rc_no s3.out
  by_cases h2 : 64 < x
  · refine rc_tells (q := .inl (0, 2)) (by simp only [widP, ha, hy]; simp [h2]) ?_
    clear ha hy
    go_enter Tryd.func41, Tryd.ntmps41
    go_upto_region 1 with fail
    revert HS
    generalize ((w.alloc (.cells #[.slice ao N.length c, .int .i64 M] 27)).alloc (.cells #[.slice none 0 0, .int .i64 0] 27)) = wr
    intro HS
    have C0 := HS.out.cells
    obtain ⟨c0, c1, r0, r1, f0, f1⟩ := C0
    go_wp2_with (first
      | (go_at_call 55; with_reducible (refine (rwidth_at s2.out a HY.out).mono ?_); rintro e w3 ⟨rfl, s3, q3⟩; obtain ⟨c0, c1, r0, r1, f0, f1⟩ := q3)
      | (go_at_call 22; with_reducible (refine (ris_at HS.out a HA.out).mono ?_); rintro e w2 ⟨rfl, s2, q2⟩; obtain ⟨c0, c1, r0, r1, f0, f1⟩ := q2))
    refine bodyPost_ret (results_box3 rfl _ _ (w.heap.size + 1) _ _ rfl (res_two s3.out.b1).1 (res_two s3.out.b1).2) rfl ?_
    exact rc_no s3.out
  by_cases h3 : x = y
  · subst h3
    refine rc_tells (q := .inl (a, 0)) (by simp only [widP, ha, hy]; simp; omega) ?_
    clear ha hy
    go_enter Tryd.func41, Tryd.ntmps41
    go_upto_region 1 with fail
    revert HS
    generalize ((w.alloc (.cells #[.slice ao N.length c, .int .i64 M] 27)).alloc (.cells #[.slice none 0 0, .int .i64 0] 27)) = wr
    intro HS
    have C0 := HS.out.cells
    obtain ⟨c0, c1, r0, r1, f0, f1⟩ := C0
    go_wp2_with (first
      | (go_at_call 55; with_reducible (refine (rwidth_at s3.out a HY.out).mono ?_); rintro e w4 ⟨rfl, s4, q4⟩; obtain ⟨c0, c1, r0, r1, f0, f1⟩ := q4)
      | (go_at_call 55; with_reducible (refine (rwidth_at s2.out a HY.out).mono ?_); rintro e w3 ⟨rfl, s3, q3⟩; obtain ⟨c0, c1, r0, r1, f0, f1⟩ := q3)
      | (go_at_call 22; with_reducible (refine (ris_at HS.out a HA.out).mono ?_); rintro e w2 ⟨rfl, s2, q2⟩; obtain ⟨c0, c1, r0, r1, f0, f1⟩ := q2))
    refine bodyPost_ret (results_box3 rfl _ _ (w.heap.size + 1) _ _ rfl (res_two s4.out.b1).1 (res_two s4.out.b1).2) rfl ?_
    exact rc_no s4.out
  have k3 : (x == y) = false := by simpa using h3
  have dd : (decide (x < y) || decide (64 < x)) = false := by simp; omega
  cases g
  · refine rc_tells (q := .inr ⟨25, x, a, 0, 0, 0⟩) (by simp only [widP, ha, hy, dd, k3]; rfl) ?_
    clear ha hy dd h3
    go_enter Tryd.func41, Tryd.ntmps41
    go_upto_region 1 with fail
    revert HS
    generalize ((w.alloc (.cells #[.slice ao N.length c, .int .i64 M] 27)).alloc (.cells #[.slice none 0 0, .int .i64 0] 27)) = wr
    intro HS
    have C0 := HS.out.cells
    obtain ⟨c0, c1, r0, r1, f0, f1⟩ := C0
    go_wp2_with (first
      | (go_at_call 53; with_reducible (refine (rmade_at s4.out _ _ _ _ _ _ hN).mono ?_); rintro e w6 ⟨ao6, cc6, rfl, h6, b6, q6⟩; obtain ⟨c0, c1, r0, r1, f0, f1⟩ := q6)
      | (go_at_call 55; with_reducible (refine (rwidth_at s3.out a HY.out).mono ?_); rintro e w4 ⟨rfl, s4, q4⟩; obtain ⟨c0, c1, r0, r1, f0, f1⟩ := q4)
      | (go_at_call 55; with_reducible (refine (rwidth_at s2.out a HY.out).mono ?_); rintro e w3 ⟨rfl, s3, q3⟩; obtain ⟨c0, c1, r0, r1, f0, f1⟩ := q3)
      | (go_at_call 22; with_reducible (refine (ris_at HS.out a HA.out).mono ?_); rintro e w2 ⟨rfl, s2, q2⟩; obtain ⟨c0, c1, r0, r1, f0, f1⟩ := q2))
    refine bodyPost_ret (results_box3 rfl _ _ (w.heap.size + 1) _ _ rfl (res_two (s4.out.below b6.out).b1).1 (res_two (s4.out.below b6.out).b1).2) rfl ?_
    exact rc_yes s4.out h6 b6
  · refine rc_tells (q := .inr ⟨26, x, a, 0, 0, 0⟩) (by simp only [widP, ha, hy, dd, k3]; rfl) ?_
    clear ha hy dd h3
    go_enter Tryd.func41, Tryd.ntmps41
    go_upto_region 1 with fail
    revert HS
    generalize ((w.alloc (.cells #[.slice ao N.length c, .int .i64 M] 27)).alloc (.cells #[.slice none 0 0, .int .i64 0] 27)) = wr
    intro HS
    have C0 := HS.out.cells
    obtain ⟨c0, c1, r0, r1, f0, f1⟩ := C0
    go_wp2_with (first
      | (go_at_call 53; with_reducible (refine (rmade_at s4.out _ _ _ _ _ _ hN).mono ?_); rintro e w6 ⟨ao6, cc6, rfl, h6, b6, q6⟩; obtain ⟨c0, c1, r0, r1, f0, f1⟩ := q6)
      | (go_at_call 55; with_reducible (refine (rwidth_at s3.out a HY.out).mono ?_); rintro e w4 ⟨rfl, s4, q4⟩; obtain ⟨c0, c1, r0, r1, f0, f1⟩ := q4)
      | (go_at_call 55; with_reducible (refine (rwidth_at s2.out a HY.out).mono ?_); rintro e w3 ⟨rfl, s3, q3⟩; obtain ⟨c0, c1, r0, r1, f0, f1⟩ := q3)
      | (go_at_call 22; with_reducible (refine (ris_at HS.out a HA.out).mono ?_); rintro e w2 ⟨rfl, s2, q2⟩; obtain ⟨c0, c1, r0, r1, f0, f1⟩ := q2))
    refine bodyPost_ret (results_box3 rfl _ _ (w.heap.size + 1) _ _ rfl (res_two (s4.out.below b6.out).b1).1 (res_two (s4.out.below b6.out).b1).2) rfl ?_
    exact rc_yes s4.out h6 b6

end Go.Proofs.YtefielnmlekhaaaDoor
