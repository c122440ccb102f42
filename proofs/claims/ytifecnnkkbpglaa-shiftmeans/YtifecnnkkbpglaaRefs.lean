/-
  The document's own answers, each by its contract.
-/
import Derived.Test.YtifecnnkkbpglaaLw
namespace Go.Proofs.Ytifecnnkkbpglaa
open Go.RowKit
set_option linter.unusedVariables false

theorem rneg_any (l : Int) (w : World) (hu : l ≤ 9223372036854775807) : Calls Try.prog 47 #[.int .i64 l] w fun e w' => e = .returned (.bool (negF l)) ∧ w' = w := by
  by_cases h : l < 0
  · have HV : Hid (negF l = false) := by show negF l = false; simp [negF]; omega
    have h0 : ¬ 0 ≤ l := by omega
    go_enter Try.func47, Try.ntmps47
    go_wp2
    go_ret
    exact ⟨by rw [HV.out]; rfl, rfl⟩
  · have HV : Hid (negF l = (l % 2 == 1)) := by show negF l = (l % 2 == 1); rw [Bool.eq_iff_iff]; simp [negF]; omega
    have h0 : 0 ≤ l := by omega
    go_enter Try.func47, Try.ntmps47
    go_wp2
    go_ret
    exact ⟨by rw [HV.out]; rfl, rfl⟩

end Go.Proofs.Ytifecnnkkbpglaa
