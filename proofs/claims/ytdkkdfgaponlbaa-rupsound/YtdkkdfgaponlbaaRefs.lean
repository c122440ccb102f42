/-
  The document's own answers, each by its contract.
-/
import Derived.Test.YtdkkdfgaponlbaaWalks
namespace Go.Proofs.Ytdkkdfgaponlbaa
open Go.RowKit
set_option linter.unusedVariables false

theorem rvar_any (l : Int) (w : World) (hu : l ≤ 9223372036854775807) : Calls Try.prog 30 #[.int .i64 l] w fun e w' => e = .returned (.int .i64 (varF l)) ∧ w' = w := by
  by_cases h : l < 0
  · have HV : Hid (varF l = -1) := by show varF l = -1; simp [varF, h]
    go_enter Try.func30, Try.ntmps30
    go_wp2
    go_ret
    exact ⟨by rw [HV.out]; rfl, rfl⟩
  · have HV : Hid (varF l = l / 2) := by show varF l = l / 2; simp [varF, h]
    go_enter Try.func30, Try.ntmps30
    go_wp2
    go_ret
    exact ⟨by rw [HV.out]; rfl, rfl⟩

theorem rneg_any (l : Int) (w : World) (hu : l ≤ 9223372036854775807) : Calls Try.prog 31 #[.int .i64 l] w fun e w' => e = .returned (.bool (negF l)) ∧ w' = w := by
  by_cases h : l < 0
  · have HV : Hid (negF l = false) := by show negF l = false; simp [negF]; omega
    have h0 : ¬ 0 ≤ l := by omega
    go_enter Try.func31, Try.ntmps31
    go_wp2
    go_ret
    exact ⟨by rw [HV.out]; rfl, rfl⟩
  · have HV : Hid (negF l = (l % 2 == 1)) := by show negF l = (l % 2 == 1); rw [Bool.eq_iff_iff]; simp [negF]; omega
    have h0 : 0 ≤ l := by omega
    go_enter Try.func31, Try.ntmps31
    go_wp2
    go_ret
    exact ⟨by rw [HV.out]; rfl, rfl⟩

theorem rnot_any (l : Int) (w : World) (hu : l ≤ 9223372036854775807) : Calls Try.prog 17 #[.int .i64 l] w fun e w' => e = .returned (.int .i64 (notF l)) ∧ w' = w := by
  by_cases h : l < 0
  · have HV : Hid (notF l = l) := by show notF l = l; simp [notF, h]
    go_enter Try.func17, Try.ntmps17
    go_wp2
    go_ret
    exact ⟨by rw [HV.out]; rfl, rfl⟩
  by_cases h2 : (l % 2 == 1) = true
  · have HV : Hid (notF l = l - 1) := by show notF l = _; simp at h2; simp [notF, h, h2]
    go_enter Try.func17, Try.ntmps17
    go_wp2
    go_ret
    exact ⟨by rw [HV.out]; rfl, rfl⟩
  · have h2 : (l % 2 == 1) = false := by simpa using h2
    have HV : Hid (notF l = l + 1) := by show notF l = _; simp at h2; simp [notF, h, h2]
    have h3 : l ≤ 9223372036854775806 := by simp at h2; omega
    go_enter Try.func17, Try.ntmps17
    go_wp2
    go_ret
    exact ⟨by rw [HV.out]; rfl, rfl⟩

theorem rholds_any (l : Int) (w : World) (a : Option Addr) (len cap : Nat) (B : Nat → Bool) (hB : IsBools w a len cap B) (hu : l ≤ 9223372036854775807) : Calls Try.prog 22 #[.int .i64 l, .slice a len cap] w fun e w' => e = .returned (.bool (holF l len B)) ∧ w' = w := by
  by_cases h : l < 0
  · have HV : Hid (holF l len B = false) := by show holF l len B = false; simp [holF, h]
    clear hB
    go_enter Try.func22, Try.ntmps22
    go_wp2
    go_ret
    exact ⟨by rw [HV.out]; rfl, rfl⟩
  have q : varF l = l / 2 := by simp [varF, h]
  obtain ⟨k, hk⟩ := Int.eq_ofNat_of_zero_le (show 0 ≤ varF l by omega)
  have HE : Hid (holF l len B = (truF k len B != negF l)) := by show _ = _; simp [holF, h, ← q, hk]
  clear q
  by_cases hl : k < len
  · obtain ⟨b, off, rfl, hc⟩ := hB.at hl
    have HV : Hid (holF l len B = (B k != negF l)) := by show _ = _; rw [HE.out]; simp [truF, hl]
    have hl' : (k : Int) < len := by omega
    clear hB hl
    go_enter Try.func22, Try.ntmps22
    go_wp2_with (first | (go_at_call 31; refine (rneg_any _ _ hu).mono ?_; rintro e w'' ⟨rfl, rfl⟩) | (go_at_call 30; refine (rvar_any _ _ hu).mono ?_; rintro e w'' ⟨rfl, rfl⟩))
    go_ret
    exact ⟨by rw [HV.out]; rfl, rfl⟩
  · have HV : Hid (holF l len B = (false != negF l)) := by show _ = _; rw [HE.out]; simp [truF, hl]
    have hl' : ¬ (k : Int) < len := by omega
    clear hB hl
    go_enter Try.func22, Try.ntmps22
    go_wp2_with (first | (go_at_call 31; refine (rneg_any _ _ hu).mono ?_; rintro e w'' ⟨rfl, rfl⟩) | (go_at_call 30; refine (rvar_any _ _ hu).mono ?_; rintro e w'' ⟨rfl, rfl⟩))
    go_ret
    exact ⟨by rw [HV.out, Bool.false_bne]; rfl, rfl⟩

end Go.Proofs.Ytdkkdfgaponlbaa
