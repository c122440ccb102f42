/-
  The document's calls: Unary.
-/
import Derived.Test.YtefielnmlekhaaaDoorRcalls
namespace Go.Proofs.YtefielnmlekhaaaDoor
open Go.RowKit Go.Maps
set_option linter.unusedVariables false
set_option maxRecDepth 100000

set_option maxHeartbeats 8000000 in
theorem runary_of {w : World} {ao : Option Addr} {c M : Nat} {N : List Nd} (s : RD w ao c N) (hN : N.length ≤ 65536) (op a : Int) (ho : op = 15 ∨ op = 16) :
    Calls Tryd.prog 36 #[.agg #[.slice ao N.length c, .int .i64 M], .int .i64 op, .int .i64 a] w fun e w' => RcEnd w ao M N (unP N op a) e w' := by
  have HS : Hid (RE w ao c M N _) := hid (RE.start s)
  clear s
  have e1 : ((op != 15) && (op != 16)) = false := by rcases ho with rfl | rfl <;> rfl
  cases hi : isN N a
  · refine rc_tells (q := .inl (0, 11)) (by simp only [unP, e1, hi]; rfl) ?_
    have HI := hid hi
    clear hi e1
    rcases ho with rfl | rfl
    all_goals
      go_enter Tryd.func36, Tryd.ntmps36
      go_upto_region 1 with fail
      revert HS
      generalize ((w.alloc (.cells #[.slice ao N.length c, .int .i64 M] 27)).alloc (.cells #[.slice none 0 0, .int .i64 0] 27)) = wr
      intro HS
      have C0 := HS.out.cells
      obtain ⟨c0, c1, r0, r1, f0, f1⟩ := C0
      go_wp2_with (go_at_call 22; with_reducible (refine (ris_at HS.out a HI.out).mono ?_); rintro e w2 ⟨rfl, s2, q2⟩; obtain ⟨c0, c1, r0, r1, f0, f1⟩ := q2)
      refine bodyPost_ret (results_box3 rfl _ _ (w.heap.size + 1) _ _ rfl (res_two s2.out.b1).1 (res_two s2.out.b1).2) rfl ?_
      exact rc_no s2.out
  · obtain ⟨x, hx⟩ : ∃ x, wdF N a = x := ⟨_, rfl⟩
    refine rc_tells (q := .inr ⟨op, x, a, 0, 0, 0⟩) (by simp only [unP, e1, hi, hx]; rfl) ?_
    have HI := hid hi
    have HX := hid hx
    clear hi hx e1
    rcases ho with rfl | rfl
    all_goals
      go_enter Tryd.func36, Tryd.ntmps36
      go_upto_region 1 with fail
      revert HS
      generalize ((w.alloc (.cells #[.slice ao N.length c, .int .i64 M] 27)).alloc (.cells #[.slice none 0 0, .int .i64 0] 27)) = wr
      intro HS
      have C0 := HS.out.cells
      obtain ⟨c0, c1, r0, r1, f0, f1⟩ := C0
      go_wp2_with (go_at_call 22; with_reducible (refine (ris_at HS.out a HI.out).mono ?_); rintro e w2 ⟨rfl, s2, q2⟩; obtain ⟨c0, c1, r0, r1, f0, f1⟩ := q2)
      have S2 := hid s2.out.drew
      go_region_with (first
        | (go_at_call 55; with_reducible (refine (rwidth_at S2.out a HX.out).mono ?_); rintro e w3 ⟨rfl, s3, q3⟩; obtain ⟨c0, c1, r0, r1, f0, f1⟩ := q3)
        | (go_at_call 53; with_reducible (refine (rmade_at s3.out _ _ _ _ _ _ hN).mono ?_); rintro e w4 ⟨ao4, cc4, rfl, h4, b4, q4⟩; obtain ⟨c0, c1, r0, r1, f0, f1⟩ := q4))
      all_goals go_wp2
      all_goals refine bodyPost_ret (results_box3 rfl _ _ (w.heap.size + 1) _ _ rfl (res_two (s3.out.below b4.out).b1).1 (res_two (s3.out.below b4.out).b1).2) rfl ?_
      all_goals exact rc_yes s3.out h4 b4

set_option maxHeartbeats 8000000 in
theorem runary_any {w : World} {ao : Option Addr} {c M : Nat} {N : List Nd} (s : RD w ao c N) (hN : N.length ≤ 65536) (op a : Int) :
    Calls Tryd.prog 36 #[.agg #[.slice ao N.length c, .int .i64 M], .int .i64 op, .int .i64 a] w fun e w' => RcEnd w ao M N (unP N op a) e w' := by
  by_cases h1 : op = 15
  · exact runary_of s hN op a (.inl h1)
  by_cases h2 : op = 16
  · exact runary_of s hN op a (.inr h2)
  have HS : Hid (RE w ao c M N _) := hid (RE.start s)
  clear s
  have k1 : (op != 15) = true := by simpa using h1
  have k2 : (op != 16) = true := by simpa using h2
  refine rc_tells (q := .inl (0, 3)) (by simp only [unP, k1, k2]; rfl) ?_
  clear h1 h2
  go_enter Tryd.func36, Tryd.ntmps36
  go_upto_region 1 with fail
  revert HS
  generalize ((w.alloc (.cells #[.slice ao N.length c, .int .i64 M] 27)).alloc (.cells #[.slice none 0 0, .int .i64 0] 27)) = wr
  intro HS
  have C0 := HS.out.cells
  obtain ⟨c0, c1, r0, r1, f0, f1⟩ := C0
  go_wp2
  refine bodyPost_ret (results_box3 rfl _ _ (w.heap.size + 1) _ _ rfl (res_two HS.out.b1).1 (res_two HS.out.b1).2) rfl ?_
  exact rc_no HS.out

end Go.Proofs.YtefielnmlekhaaaDoor
