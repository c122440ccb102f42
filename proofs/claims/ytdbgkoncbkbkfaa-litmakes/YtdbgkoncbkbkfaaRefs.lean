/-
  The document's own answers, each by its contract.
-/
import Derived.Test.YtdbgkoncbkbkfaaWalks
namespace Go.Proofs.Ytdbgkoncbkbkfaa
open Go.RowKit
set_option linter.unusedVariables false

theorem rmake_any (v : Int) (n : Bool) (w : World) : Calls Try.prog 7 #[.int .i64 v, .bool n] w fun e w' => e = .returned (.tuple #[.int .i64 (makF v n), .int .i64 (errF v)]) ∧ w' = w := by
  by_cases h : v < 0
  · have HV : Hid (makF v n = 0 ∧ errF v = 10) := by show _ ∧ _; simp [makF, errF, badF, h]
    go_enter Try.func7, Try.ntmps7
    go_wp2
    go_ret2
    exact ⟨by rw [HV.out.1, HV.out.2]; rfl, rfl⟩
  by_cases h1 : 1048576 ≤ v
  · have HV : Hid (makF v n = 0 ∧ errF v = 10) := by show _ ∧ _; simp [makF, errF, badF, h1]
    go_enter Try.func7, Try.ntmps7
    go_wp2
    go_ret2
    exact ⟨by rw [HV.out.1, HV.out.2]; rfl, rfl⟩
  have h1 : v < 1048576 := by omega
  cases n
  · have HV : Hid (makF v false = 2 * v ∧ errF v = 0) := by show _ ∧ _; simp [makF, errF, badF, bitF]; omega
    go_enter Try.func7, Try.ntmps7
    go_wp2
    go_ret2
    exact ⟨by rw [HV.out.1, HV.out.2]; rfl, rfl⟩
  · have HV : Hid (makF v true = 2 * v + 1 ∧ errF v = 0) := by show _ ∧ _; simp [makF, errF, badF, bitF]; omega
    go_enter Try.func7, Try.ntmps7
    go_wp2
    go_ret2
    exact ⟨by rw [HV.out.1, HV.out.2]; rfl, rfl⟩

theorem rof_any (n : Int) (w : World) (hl : -9223372036854775808 ≤ n) (hu : n ≤ 9223372036854775807) : Calls Try.prog 9 #[.int .i64 n] w fun e w' => e = .returned (.tuple #[.int .i64 (makF (vofF n) (sofF n)), .int .i64 (errF (vofF n))]) ∧ w' = w := by
  by_cases h : n < 0
  · have HV : Hid (vofF n = -(n + 1) ∧ sofF n = true) := by show _ ∧ _; simp [vofF, sofF, h]
    have h0 : ¬ 0 < n := by omega
    go_enter Try.func9, Try.ntmps9
    go_wp2_with (go_at_call 7; refine (rmake_any _ _ _).mono ?_; rintro e w'' ⟨rfl, rfl⟩)
    go_ret2
    exact ⟨by rw [HV.out.1, HV.out.2]; rfl, rfl⟩
  by_cases h0 : 0 < n
  · have HV : Hid (vofF n = n - 1 ∧ sofF n = false) := by show _ ∧ _; simp [vofF, sofF, h]
    go_enter Try.func9, Try.ntmps9
    go_wp2_with (go_at_call 7; refine (rmake_any _ _ _).mono ?_; rintro e w'' ⟨rfl, rfl⟩)
    go_ret2
    exact ⟨by rw [HV.out.1, HV.out.2]; rfl, rfl⟩
  · obtain rfl : n = 0 := by omega
    go_enter Try.func9, Try.ntmps9
    go_wp2
    go_ret2
    exact ⟨by rfl, rfl⟩

theorem rvar_any (l : Int) (w : World) (hu : l ≤ 9223372036854775807) : Calls Try.prog 12 #[.int .i64 l] w fun e w' => e = .returned (.int .i64 (varF l)) ∧ w' = w := by
  by_cases h : l < 0
  · have HV : Hid (varF l = -1) := by show varF l = -1; simp [varF, h]
    go_enter Try.func12, Try.ntmps12
    go_wp2
    go_ret
    exact ⟨by rw [HV.out]; rfl, rfl⟩
  · have HV : Hid (varF l = l / 2) := by show varF l = l / 2; simp [varF, h]
    go_enter Try.func12, Try.ntmps12
    go_wp2
    go_ret
    exact ⟨by rw [HV.out]; rfl, rfl⟩

theorem rneg_any (l : Int) (w : World) (hu : l ≤ 9223372036854775807) : Calls Try.prog 14 #[.int .i64 l] w fun e w' => e = .returned (.bool (negF l)) ∧ w' = w := by
  by_cases h : l < 0
  · have HV : Hid (negF l = false) := by show negF l = false; simp [negF]; omega
    have h0 : ¬ 0 ≤ l := by omega
    go_enter Try.func14, Try.ntmps14
    go_wp2
    go_ret
    exact ⟨by rw [HV.out]; rfl, rfl⟩
  · have HV : Hid (negF l = (l % 2 == 1)) := by show negF l = (l % 2 == 1); rw [Bool.eq_iff_iff]; simp [negF]; omega
    have h0 : 0 ≤ l := by omega
    go_enter Try.func14, Try.ntmps14
    go_wp2
    go_ret
    exact ⟨by rw [HV.out]; rfl, rfl⟩

theorem rnot_any (l : Int) (w : World) (hu : l ≤ 9223372036854775807) : Calls Try.prog 16 #[.int .i64 l] w fun e w' => e = .returned (.int .i64 (notF l)) ∧ w' = w := by
  by_cases h : l < 0
  · have HV : Hid (notF l = l) := by show notF l = l; simp [notF, h]
    go_enter Try.func16, Try.ntmps16
    go_wp2
    go_ret
    exact ⟨by rw [HV.out]; rfl, rfl⟩
  by_cases h2 : (l % 2 == 1) = true
  · have HV : Hid (notF l = l - 1) := by show notF l = _; simp at h2; simp [notF, h, h2]
    go_enter Try.func16, Try.ntmps16
    go_wp2
    go_ret
    exact ⟨by rw [HV.out]; rfl, rfl⟩
  · have h2 : (l % 2 == 1) = false := by simpa using h2
    have HV : Hid (notF l = l + 1) := by show notF l = _; simp at h2; simp [notF, h, h2]
    have h3 : l ≤ 9223372036854775806 := by simp at h2; omega
    go_enter Try.func16, Try.ntmps16
    go_wp2
    go_ret
    exact ⟨by rw [HV.out]; rfl, rfl⟩

theorem rnumber_any (l : Int) (w : World) (hu : l ≤ 9223372036854775807) : Calls Try.prog 18 #[.int .i64 l] w fun e w' => e = .returned (.int .i64 (numF l)) ∧ w' = w := by
  by_cases h : l < 0
  · have HV : Hid (numF l = 0) := by show numF l = 0; simp [numF, h]
    go_enter Try.func18, Try.ntmps18
    go_wp2
    go_ret
    exact ⟨by rw [HV.out]; rfl, rfl⟩
  have q0 : 0 ≤ varF l := by simp [varF, h]; omega
  have q1 : varF l ≤ 4611686018427387903 := by simp [varF, h]; omega
  cases hn : negF l
  · have HV : Hid (numF l = varF l + 1) := by show numF l = _; simp [negF] at hn; simp [numF, varF, h]; omega
    go_enter Try.func18, Try.ntmps18
    go_wp2_with (first | (go_at_call 14; refine (rneg_any _ _ hu).mono ?_; rintro e w'' ⟨rfl, rfl⟩) | (go_at_call 12; refine (rvar_any _ _ hu).mono ?_; rintro e w'' ⟨rfl, rfl⟩))
    go_ret
    exact ⟨by rw [HV.out]; rfl, rfl⟩
  · have HV : Hid (numF l = -(varF l + 1)) := by show numF l = _; simp [negF] at hn; simp [numF, varF, h, hn]
    go_enter Try.func18, Try.ntmps18
    go_wp2_with (first | (go_at_call 14; refine (rneg_any _ _ hu).mono ?_; rintro e w'' ⟨rfl, rfl⟩) | (go_at_call 12; refine (rvar_any _ _ hu).mono ?_; rintro e w'' ⟨rfl, rfl⟩))
    go_ret
    exact ⟨by rw [HV.out]; rfl, rfl⟩

theorem rholds_any (l : Int) (w : World) (a : Option Addr) (len cap : Nat) (B : Nat → Bool) (hB : IsBools w a len cap B) (hu : l ≤ 9223372036854775807) : Calls Try.prog 20 #[.int .i64 l, .slice a len cap] w fun e w' => e = .returned (.bool (holF l len B)) ∧ w' = w := by
  by_cases h : l < 0
  · have HV : Hid (holF l len B = false) := by show holF l len B = false; simp [holF, h]
    clear hB
    go_enter Try.func20, Try.ntmps20
    go_wp2
    go_ret
    exact ⟨by rw [HV.out]; rfl, rfl⟩
  have q : varF l = l / 2 := by simp [varF, h]
  obtain ⟨k, hk⟩ := Int.eq_ofNat_of_zero_le (show 0 ≤ varF l by omega)
  have HE : Hid (holF l len B = (truF k len B != negF l)) := by show _ = _; simp [holF, h, ← q, hk]
  clear q
  by_cases hl : k < len
  · obtain ⟨b, off, rfl, hc⟩ := hB.at hl
    have HV : Hid (holF l len B = (B k != negF l)) := by show _ = _; rw [HE.out]; simp [truF, hl]
    have hl' : (k : Int) < len := by omega
    clear hB hl
    go_enter Try.func20, Try.ntmps20
    go_wp2_with (first | (go_at_call 14; refine (rneg_any _ _ hu).mono ?_; rintro e w'' ⟨rfl, rfl⟩) | (go_at_call 12; refine (rvar_any _ _ hu).mono ?_; rintro e w'' ⟨rfl, rfl⟩))
    go_ret
    exact ⟨by rw [HV.out]; rfl, rfl⟩
  · have HV : Hid (holF l len B = (false != negF l)) := by show _ = _; rw [HE.out]; simp [truF, hl]
    have hl' : ¬ (k : Int) < len := by omega
    clear hB hl
    go_enter Try.func20, Try.ntmps20
    go_wp2_with (first | (go_at_call 14; refine (rneg_any _ _ hu).mono ?_; rintro e w'' ⟨rfl, rfl⟩) | (go_at_call 12; refine (rvar_any _ _ hu).mono ?_; rintro e w'' ⟨rfl, rfl⟩))
    go_ret
    exact ⟨by rw [HV.out, Bool.false_bne]; rfl, rfl⟩

end Go.Proofs.Ytdbgkoncbkbkfaa
