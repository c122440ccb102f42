/-
  A trail that is none; the walk of AnalyzeNone.
-/
import Derived.Test.YtikdmgemhfmipaaAX
import Derived.Test.YtikdmgemhfmipaaAW
namespace Go.Proofs.Ytikdmgemhfmipaa
open Go.RowKit
set_option linter.unusedVariables false

set_option maxRecDepth 100000 in
set_option maxHeartbeats 2000000 in
theorem learn_nil (w : World) (la : Option Addr) (ln cap : Nat) (x : Int) :
    Calls Try.prog 10 #[.pointer none, .slice la ln cap, .int .i64 x] w fun e w' => e = .returned (.tuple #[.slice none 0 0, .int .i64 0, .slice none 0 0, .bool false]) ∧ Below w.heap.size w w' := by
  have hst := store71 w (.pointer none) (.slice la ln cap) (.int .i64 0) rfl rfl rfl
  obtain ⟨Z, hZ⟩ : ∃ Z, Z = z3 Try.zeroCells62 (.pointer none) (.slice la ln cap) (.int .i64 0) := ⟨_, rfl⟩
  rw [← hZ] at hst
  have h2 : Z[2]? = some (.int .i64 0) := by rw [hZ]; exact (z71_at _ _ _).2.2.1
  clear hZ
  go_enter Try.func10, Try.ntmps10
  go_wp2_with (go_at_call 21; with_reducible (refine (levels_none _).mono ?_); rintro e w ⟨rfl, rfl⟩)
  go_returns
  exact ⟨rfl, by go_grown⟩

theorem none_two (w : World) : U.Row (w.alloc (.cells #[.int .i64 0, .int .i64 5] 3)) (some ⟨w.heap.size, 0, none⟩) 2 2 [0, 5] := two_row (new_same w _) (by omega) (by omega)

theorem none_glue (w : World) : Calls Try.prog 13 #[.pointer none, .slice (some ⟨w.heap.size, 0, none⟩) 2 2] (w.alloc (.cells #[.int .i64 0, .int .i64 5] 3)) fun e w' => e = .returned (.int .i64 0) ∧ Hid (Below w.heap.size w w') := by
  refine (glue_none (none_two w) (fun x hx => by simp at hx; omega) (by omega)).mono fun e w' h => ?_
  exact ⟨h.1, hid (Below.next (aw_one w _) h.2)⟩

set_option maxRecDepth 20000 in
set_option maxHeartbeats 4000000 in
theorem none_walk (a0 : Option Addr) (len0 cap0 : Nat) (z0 : List (List Int)) (a1 : Int) (w : World) (w0 : U.Grid w a0 len0 cap0 z0) :
    Calls Try.prog 4 #[.slice a0 len0 cap0, .int .i64 a1] w fun e w' => e = .returned (.bool true) ∧ Below w.heap.size w w' := by
  have HG := hid w0
  clear w0
  by_cases h3 : U.fewF z0 30 = 0
  · have e3 : (U.fewF z0 30 == 0) = true := by simpa using h3
    clear h3
    go_enter Try.func4, Try.ntmps4
    go_wp2_with (first
      | (go_at_call 5; with_reducible (refine (U.few_any _ _ _ _ _ _ HG.out).mono ?_); rintro e w ⟨rfl, rfl⟩)
      | (go_at_call 6; with_reducible (refine (awake_is _).mono ?_); rintro e w4 ⟨rfl, b4⟩))
    go_ret
    exact ⟨rfl, b4.out⟩
  · have e3 : (U.fewF z0 30 == 0) = false := by simpa using h3
    clear h3
    go_enter Try.func4, Try.ntmps4
    go_wp2_with (first
      | (go_at_call 5; with_reducible (refine (U.few_any _ _ _ _ _ _ HG.out).mono ?_); rintro e w ⟨rfl, rfl⟩)
      | (go_at_call 10; with_reducible (refine (learn_nil _ _ _ _ _).mono ?_); rintro e w1 ⟨rfl, b1⟩)
      | (go_at_call 13; with_reducible (refine (none_glue w1).mono ?_); rintro e w2 ⟨rfl, b2⟩)
      | (go_at_call 6; with_reducible (refine (awake_is _).mono ?_); rintro e w4 ⟨rfl, b4⟩))
    go_ret
    exact ⟨rfl, Below.next (Below.next b1 b2.out) b4.out⟩
end Go.Proofs.Ytikdmgemhfmipaa
