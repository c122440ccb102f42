/-
  The document's own answers, each by its contract.
-/
import Derived.Test.YthdiajdphnjdoaaLw
namespace Go.Proofs.Ythdiajdphnjdoaa
open Go.RowKit
set_option linter.unusedVariables false

theorem rneg_any (l : Int) (w : World) (hu : l ≤ 9223372036854775807) : Calls Try.prog 29 #[.int .i64 l] w fun e w' => e = .returned (.bool (negF l)) ∧ w' = w := by
  by_cases h : l < 0
  · have HV : Hid (negF l = false) := by show negF l = false; simp [negF]; omega
    have h0 : ¬ 0 ≤ l := by omega
    go_enter Try.func29, Try.ntmps29
    go_wp2
    go_ret
    exact ⟨by rw [HV.out]; rfl, rfl⟩
  · have HV : Hid (negF l = (l % 2 == 1)) := by show negF l = (l % 2 == 1); rw [Bool.eq_iff_iff]; simp [negF]; omega
    have h0 : 0 ≤ l := by omega
    go_enter Try.func29, Try.ntmps29
    go_wp2
    go_ret
    exact ⟨by rw [HV.out]; rfl, rfl⟩

theorem rnot_any (l : Int) (w : World) (hu : l ≤ 9223372036854775807) : Calls Try.prog 12 #[.int .i64 l] w fun e w' => e = .returned (.int .i64 (notF l)) ∧ w' = w := by
  by_cases h : l < 0
  · have HV : Hid (notF l = l) := by show notF l = l; simp [notF, h]
    go_enter Try.func12, Try.ntmps12
    go_wp2
    go_ret
    exact ⟨by rw [HV.out]; rfl, rfl⟩
  by_cases h2 : (l % 2 == 1) = true
  · have HV : Hid (notF l = l - 1) := by show notF l = _; simp at h2; simp [notF, h, h2]
    go_enter Try.func12, Try.ntmps12
    go_wp2
    go_ret
    exact ⟨by rw [HV.out]; rfl, rfl⟩
  · have h2 : (l % 2 == 1) = false := by simpa using h2
    have HV : Hid (notF l = l + 1) := by show notF l = _; simp at h2; simp [notF, h, h2]
    have h3 : l ≤ 9223372036854775806 := by simp at h2; omega
    go_enter Try.func12, Try.ntmps12
    go_wp2
    go_ret
    exact ⟨by rw [HV.out]; rfl, rfl⟩

end Go.Proofs.Ythdiajdphnjdoaa
