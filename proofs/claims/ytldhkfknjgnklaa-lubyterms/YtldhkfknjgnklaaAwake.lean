/-
  The chapter's examples.
-/
import Derived.Test.YtldhkfknjgnklaaRow
import Derived.Test.YtldhkfknjgnklaaRrow
namespace Go.Proofs.Ytldhkfknjgnklaa
open Go.RowKit
set_option linter.unusedVariables false

theorem Below.next {w w1 w2 : World} (h : Below w.heap.size w w1) (k : Below w1.heap.size w1 w2) : Below w.heap.size w w2 :=
  h.trans (k.mono h.size)

theorem row_three (w : World) (x y z : Int) (h : Fit [x, y, z]) : Row (w.alloc (.cells #[.int .i64 x, .int .i64 y, .int .i64 z] 3)) (some ⟨w.heap.size, 0, none⟩) 3 3 [x, y, z] := by
  refine ⟨rfl, Nat.le_refl _, by unfold maxLen; omega, fun h => by simp at h, h, fun _ => ⟨_, _, rfl, fun j hj => ?_⟩⟩
  match j, hj with
  | 0, _ => simp
  | 1, _ => simp
  | 2, _ => simp

theorem fit_112 : Fit [1, 1, 2] := by
  intro x hx
  simp at hx
  omega

theorem same_112 : sameF [1, 1, 2] [1, 1, 2] = true := by decide

set_option maxHeartbeats 1000000 in
theorem awake_any (w : World) : Calls Try.prog 8 #[] w fun e w' => e = .returned (.bool true) ∧ Below w.heap.size w w' := by
  have t7 : ∀ w, Calls Try.prog 6 #[.int .i64 7] w fun e w' => e = .returned (.int .i64 4) ∧ Below w.heap.size w w' := fun w => by
    have c := term_any 7 w; rw [termF_7] at c; exact c
  have t0 : ∀ w, Calls Try.prog 6 #[.int .i64 0] w fun e w' => e = .returned (.int .i64 0) ∧ Below w.heap.size w w' := fun w => by
    have c := term_any 0 w; rw [termF_0] at c; exact c
  have r3 : ∀ w, Calls Try.prog 10 #[.int .i64 3] w fun e w' => ∃ bo k c, e = .returned (.slice bo k c) ∧ Hid (Row w' bo k c [1, 1, 2]) ∧ Below w.heap.size w w' := fun w => by
    have c := row_any 3 w; rw [rowF_3] at c; exact c
  have r1 : ∀ w, Calls Try.prog 10 #[.int .i64 (-1)] w fun e w' => ∃ bo c, e = .returned (.slice bo 0 c) ∧ Below w.heap.size w w' := fun w => by
    refine (row_any (-1) w).mono ?_
    rintro e w' ⟨bo, k, c, rfl, hr, hb⟩
    have := hr.out.1
    rw [rowF_none (by decide)] at this
    simp at this
    subst this
    exact ⟨bo, c, rfl, hb⟩
  have hB : Below w.heap.size w w := Below.refl _ _
  go_enter Try.func8, Try.ntmps8
  go_wp2_with (first
    | (go_at_call 6; with_reducible (refine (t7 _).mono ?_); rintro e w1 ⟨rfl, hb⟩; replace hB := Below.next hB hb; clear hb t7)
    | (go_at_call 10; with_reducible (refine (r3 _).mono ?_); rintro e w2 ⟨bo, k, c, rfl, hr, hb⟩; replace hB := Below.next hB hb; clear hb r3)
    | (go_at_call 9; with_reducible (refine (same_any _ _ _ _ _ _ _ _ _ (hr.out.keep ((Below.refl _ _).alloc (Nat.le_refl _) _)) (row_three _ _ _ _ fit_112)).mono ?_); rintro e w3 ⟨rfl, hb⟩; rw [same_112]; replace hB := Below.next (hB.alloc hB.size _) hb; clear hb)
    | (go_at_call 6; with_reducible (refine (t0 _).mono ?_); rintro e w1 ⟨rfl, hb⟩; replace hB := Below.next hB hb; clear hb t0)
    | (go_at_call 10; with_reducible (refine (r1 _).mono ?_); rintro e w2 ⟨bo, c, rfl, hb⟩; replace hB := Below.next hB hb; clear hb r1))
  go_ret
  exact ⟨by simp, hB⟩

end Go.Proofs.Ytldhkfknjgnklaa
