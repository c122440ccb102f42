/-
  The document's calls: Const.
-/
import Derived.Test.YtefielnmlekhaaaDoorRcalls
namespace Go.Proofs.YtefielnmlekhaaaDoor
open Go.RowKit Go.Maps
set_option linter.unusedVariables false
set_option maxRecDepth 100000

set_option maxHeartbeats 8000000 in
theorem rconst_any {w : World} {ao : Option Addr} {c M : Nat} {N : List Nd} (s : RD w ao c N) (hN : N.length ≤ 65536) (a x : Int) (x0 : 0 ≤ x) (x1 : x < 18446744073709551616) :
    Calls Tryd.prog 34 #[.agg #[.slice ao N.length c, .int .i64 M], .int .i64 a, .int .u64 x] w fun e w' => RcEnd w ao M N (constP a x) e w' := by
  have HS : Hid (RE w ao c M N _) := hid (RE.start s)
  clear s
  cases hf : fitsB a
  · refine rc_tells (q := .inl (0, 2)) (by simp [constP, hf]) ?_
    go_enter Tryd.func34, Tryd.ntmps34
    go_upto_region 1 with fail
    revert HS
    generalize ((w.alloc (.cells #[.slice ao N.length c, .int .i64 M] 27)).alloc (.cells #[.slice none 0 0, .int .i64 0] 27)) = wr
    intro HS
    have C0 := HS.out.cells
    obtain ⟨c0, c1, r0, r1, f0, f1⟩ := C0
    go_wp2_with (go_at_call 52; with_reducible (refine (rfits_any _ _).mono ?_); rintro e w2 ⟨rfl, rfl⟩)
    refine bodyPost_ret (results_box3 rfl _ _ (w.heap.size + 1) _ _ rfl (res_two HS.out.b1).1 (res_two HS.out.b1).2) rfl ?_
    exact rc_no HS.out
  · refine rc_tells (q := .inr ⟨20, a, 0, 0, 0, cutF a x⟩) (by simp [constP, hf]) ?_
    go_enter Tryd.func34, Tryd.ntmps34
    go_upto_region 1 with fail
    revert HS
    generalize ((w.alloc (.cells #[.slice ao N.length c, .int .i64 M] 27)).alloc (.cells #[.slice none 0 0, .int .i64 0] 27)) = wr
    intro HS
    have C0 := HS.out.cells
    obtain ⟨c0, c1, r0, r1, f0, f1⟩ := C0
    go_wp2_with (go_at_call 52; with_reducible (refine (rfits_any _ _).mono ?_); rintro e w2 ⟨rfl, rfl⟩)
    have HS2 := hid HS.out.drew
    go_region_with (first
      | (go_at_call 54; with_reducible (refine (rcut_any _ _ _ x0 x1).mono ?_); rintro e w2 ⟨rfl, rfl⟩)
      | (go_at_call 53; with_reducible (refine (rmade_at HS2.out _ _ _ _ _ _ hN).mono ?_); rintro e w3 ⟨ao3, cc3, rfl, h3, b3, q3⟩; obtain ⟨c0, c1, r0, r1, f0, f1⟩ := q3))
    all_goals go_wp2
    all_goals refine bodyPost_ret (results_box3 rfl _ _ (w.heap.size + 1) _ _ rfl (res_two (HS2.out.below b3.out).b1).1 (res_two (HS2.out.below b3.out).b1).2) rfl ?_
    all_goals exact rc_yes HS2.out h3 b3

end Go.Proofs.YtefielnmlekhaaaDoor
