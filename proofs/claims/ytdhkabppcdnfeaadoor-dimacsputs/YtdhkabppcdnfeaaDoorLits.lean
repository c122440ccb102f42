/-
  The functions of package lit that are reached, and those of the document, each by its contract.
-/
import Derived.Test.YtdhkabppcdnfeaaDoorProg
import Derived.Test.YtdhkabppcdnfeaaDoorMath
import Derived.WalkKit
import Derived.Handy
import Derived.Below
import Derived.Deep.RegionWith
namespace Go.Proofs.YtdhkabppcdnfeaaDoor
open Go.RowKit
set_option linter.unusedVariables false

/-- none(): a new block holds the result. -/
theorem none_any (w : World) : Calls Tryd.prog 39 #[] w fun e w' => e = .returned (.agg #[.int .i64 (-1), .bool false]) ∧ w' = w.alloc (.cells #[.int .i64 (-1), .bool false] 82) := by
  go_enter Tryd.func39, Tryd.ntmps39
  go_wp2
  go_returns
  exact ⟨rfl, rfl⟩

theorem split_neg (l : Int) (w : World) (h : l < 0) : Calls Tryd.prog 37 #[.int .i64 l] w fun e w' => e = .returned (.agg #[.int .i64 (-1), .bool false]) ∧ Below w.heap.size w w' := by
  go_enter Tryd.func37, Tryd.ntmps37
  go_wp2_with (go_at_call 39; refine (none_any _).mono ?_; rintro e w' ⟨rfl, rfl⟩)
  go_returns
  exact ⟨rfl, by go_grown⟩

theorem split_pos (l : Int) (w : World) (h : ¬ l < 0) (hu : l ≤ 9223372036854775807) : Calls Tryd.prog 37 #[.int .i64 l] w fun e w' => e = .returned (.agg #[.int .i64 (l / 2), .bool (l % 2 == 1)]) ∧ Below w.heap.size w w' := by
  go_enter Tryd.func37, Tryd.ntmps37
  go_wp2
  go_returns
  exact ⟨rfl, by go_grown⟩

theorem join_pos (v : Int) (w : World) (h0 : 0 ≤ v) (h1 : v ≤ 4611686018427387903) : Calls Tryd.prog 64 #[.agg #[.int .i64 v, .bool false]] w fun e w' => e = .returned (.int .i64 (2 * v)) ∧ Below w.heap.size w w' := by
  go_enter Tryd.func64, Tryd.ntmps64
  go_wp2
  go_returns
  exact ⟨rfl, by go_grown⟩

theorem join_neg (v : Int) (w : World) (h0 : 0 ≤ v) (h1 : v ≤ 4611686018427387903) : Calls Tryd.prog 64 #[.agg #[.int .i64 v, .bool true]] w fun e w' => e = .returned (.int .i64 (2 * v + 1)) ∧ Below w.heap.size w w' := by
  go_enter Tryd.func64, Tryd.ntmps64
  go_wp2
  go_returns
  exact ⟨rfl, by go_grown⟩

theorem field0 (x y : Value) (w : World) : (Instr.field 82 (.agg #[x, y]) 0).run Tryd.prog w = .ok x w := by kernel_rfl

theorem field1 (x y : Value) (w : World) : (Instr.field 82 (.agg #[x, y]) 1).run Tryd.prog w = .ok y w := by kernel_rfl

theorem var_any (l : Int) (w : World) (hu : l ≤ 9223372036854775807) : Calls Tryd.prog 24 #[.int .i64 l] w fun e w' => e = .returned (.int .i64 (varF l)) ∧ Below w.heap.size w w' := by
  by_cases h : l < 0
  · have HV : Hid (varF l = -1) := by show varF l = -1; simp [varF, h]
    have f0 := field0
    go_enter Tryd.func24, Tryd.ntmps24
    go_wp2_with (go_at_call 37; refine (split_neg _ _ h).mono ?_; rintro e w' ⟨rfl, hb⟩)
    go_returns
    exact ⟨by rw [HV.out]; rfl, by assumption⟩
  · have HV : Hid (varF l = l / 2) := by show varF l = l / 2; simp [varF, h]
    have f0 := field0
    go_enter Tryd.func24, Tryd.ntmps24
    go_wp2_with (go_at_call 37; refine (split_pos _ _ h hu).mono ?_; rintro e w' ⟨rfl, hb⟩)
    go_returns
    exact ⟨by rw [HV.out]; rfl, by assumption⟩

set_option maxHeartbeats 1000000 in
theorem number_any (l : Int) (w : World) (hu : l ≤ 9223372036854775807) : Calls Tryd.prog 26 #[.int .i64 l] w fun e w' => e = .returned (.int .i64 (numF l)) ∧ Below w.heap.size w w' := by
  by_cases h : l < 0
  · have HV : Hid (numF l = 0) := by show numF l = 0; simp [numF, h]
    go_enter Tryd.func26, Tryd.ntmps26
    go_wp2_with (go_at_call 37; refine (split_neg _ _ h).mono ?_; rintro e w' ⟨rfl, hb⟩)
    go_region_with (go_at_call 39; refine (none_any _).mono ?_; rintro e w' ⟨rfl, rfl⟩)
    all_goals go_wp2
    all_goals go_returns
    all_goals exact ⟨by rw [HV.out]; rfl, Below.next hb (by go_grown)⟩
  · have hq : (l / 2 == -1) = false := by simp; omega
    by_cases h2 : (l % 2 == 1) = true
    · have HV : Hid (numF l = -(l / 2 + 1)) := by show numF l = _; simp at h2; simp [numF, h, h2]
      have q0 : 0 ≤ l / 2 := by omega
      have q1 : l / 2 ≤ 4611686018427387903 := by omega
      go_enter Tryd.func26, Tryd.ntmps26
      go_wp2_with (go_at_call 37; refine (split_pos _ _ h hu).mono ?_; rintro e w' ⟨rfl, hb⟩)
      go_region_with (go_at_call 39; refine (none_any _).mono ?_; rintro e w' ⟨rfl, rfl⟩)
      all_goals go_wp2
      all_goals go_returns
      all_goals exact ⟨by rw [HV.out]; rfl, Below.next hb (by go_grown)⟩
    · have h2 : (l % 2 == 1) = false := by simpa using h2
      have HV : Hid (numF l = l / 2 + 1) := by show numF l = _; simp at h2; simp [numF, h, h2]
      have q0 : 0 ≤ l / 2 := by omega
      have q1 : l / 2 ≤ 4611686018427387903 := by omega
      go_enter Tryd.func26, Tryd.ntmps26
      go_wp2_with (go_at_call 37; refine (split_pos _ _ h hu).mono ?_; rintro e w' ⟨rfl, hb⟩)
      go_region_with (go_at_call 39; refine (none_any _).mono ?_; rintro e w' ⟨rfl, rfl⟩)
      all_goals go_wp2
      all_goals go_returns
      all_goals exact ⟨by rw [HV.out]; rfl, Below.next hb (by go_grown)⟩

set_option maxHeartbeats 1000000 in
theorem make_any (v : Int) (n : Bool) (w : World) : Calls Tryd.prog 60 #[.int .i64 v, .bool n] w fun e w' => e = .returned (.tuple #[.int .i64 (makF v n), .int .i64 (errF v)]) ∧ Below w.heap.size w w' := by
  by_cases h : v < 0
  · have HV : Hid (makF v n = 0 ∧ errF v = 10) := by show _ ∧ _; simp [makF, errF, badF, h]
    go_enter Tryd.func60, Tryd.ntmps60
    go_wp2
    go_ret2
    exact ⟨by rw [HV.out.1, HV.out.2]; rfl, Below.refl _ _⟩
  by_cases h1 : 1048576 ≤ v
  · have HV : Hid (makF v n = 0 ∧ errF v = 10) := by show _ ∧ _; simp [makF, errF, badF, h1]
    go_enter Tryd.func60, Tryd.ntmps60
    go_wp2
    go_ret2
    exact ⟨by rw [HV.out.1, HV.out.2]; rfl, Below.refl _ _⟩
  have g0 : 0 ≤ v := by omega
  have g1 : v ≤ 4611686018427387903 := by omega
  have h1 : v < 1048576 := by omega
  cases n
  · have HV : Hid (makF v false = 2 * v ∧ errF v = 0) := by show _ ∧ _; simp [makF, errF, badF, bitF]; omega
    go_enter Tryd.func60, Tryd.ntmps60
    go_wp2_with (go_at_call 64; refine (join_pos _ _ g0 g1).mono ?_; rintro e w'' ⟨rfl, hb'⟩)
    go_ret2
    exact ⟨by rw [HV.out.1, HV.out.2]; rfl, hb'⟩
  · have HV : Hid (makF v true = 2 * v + 1 ∧ errF v = 0) := by show _ ∧ _; simp [makF, errF, badF, bitF]; omega
    go_enter Tryd.func60, Tryd.ntmps60
    go_wp2_with (go_at_call 64; refine (join_neg _ _ g0 g1).mono ?_; rintro e w'' ⟨rfl, hb'⟩)
    go_ret2
    exact ⟨by rw [HV.out.1, HV.out.2]; rfl, hb'⟩

theorem of_any (n : Int) (w : World) (hl : -9223372036854775808 ≤ n) (hu : n ≤ 9223372036854775807) : Calls Tryd.prog 53 #[.int .i64 n] w fun e w' => e = .returned (.tuple #[.int .i64 (makF (vofF n) (sofF n)), .int .i64 (errF (vofF n))]) ∧ Below w.heap.size w w' := by
  by_cases h : n < 0
  · have HV : Hid (vofF n = -(n + 1) ∧ sofF n = true) := by show _ ∧ _; simp [vofF, sofF, h]
    go_enter Tryd.func53, Tryd.ntmps53
    go_wp2_with (go_at_call 60; refine (make_any _ _ _).mono ?_; rintro e w'' ⟨rfl, hb'⟩)
    go_ret2
    exact ⟨by rw [HV.out.1, HV.out.2]; rfl, hb'⟩
  · have HV : Hid (vofF n = n - 1 ∧ sofF n = false) := by show _ ∧ _; simp [vofF, sofF, h]
    go_enter Tryd.func53, Tryd.ntmps53
    go_wp2_with (go_at_call 60; refine (make_any _ _ _).mono ?_; rintro e w'' ⟨rfl, hb'⟩)
    go_ret2
    exact ⟨by rw [HV.out.1, HV.out.2]; rfl, hb'⟩

theorem rmake_any (v : Int) (n : Bool) (w : World) : Calls Tryd.prog 46 #[.int .i64 v, .bool n] w fun e w' => e = .returned (.tuple #[.int .i64 (makF v n), .int .i64 (errF v)]) ∧ w' = w := by
  by_cases h : v < 0
  · have HV : Hid (makF v n = 0 ∧ errF v = 10) := by show _ ∧ _; simp [makF, errF, badF, h]
    go_enter Tryd.func46, Tryd.ntmps46
    go_wp2
    go_ret2
    exact ⟨by rw [HV.out.1, HV.out.2]; rfl, rfl⟩
  by_cases h1 : 1048576 ≤ v
  · have HV : Hid (makF v n = 0 ∧ errF v = 10) := by show _ ∧ _; simp [makF, errF, badF, h1]
    go_enter Tryd.func46, Tryd.ntmps46
    go_wp2
    go_ret2
    exact ⟨by rw [HV.out.1, HV.out.2]; rfl, rfl⟩
  have h1 : v < 1048576 := by omega
  cases n
  · have HV : Hid (makF v false = 2 * v ∧ errF v = 0) := by show _ ∧ _; simp [makF, errF, badF, bitF]; omega
    go_enter Tryd.func46, Tryd.ntmps46
    go_wp2
    go_ret2
    exact ⟨by rw [HV.out.1, HV.out.2]; rfl, rfl⟩
  · have HV : Hid (makF v true = 2 * v + 1 ∧ errF v = 0) := by show _ ∧ _; simp [makF, errF, badF, bitF]; omega
    go_enter Tryd.func46, Tryd.ntmps46
    go_wp2
    go_ret2
    exact ⟨by rw [HV.out.1, HV.out.2]; rfl, rfl⟩

theorem rof_any (n : Int) (w : World) (hl : -9223372036854775808 ≤ n) (hu : n ≤ 9223372036854775807) : Calls Tryd.prog 36 #[.int .i64 n] w fun e w' => e = .returned (.tuple #[.int .i64 (makF (vofF n) (sofF n)), .int .i64 (errF (vofF n))]) ∧ w' = w := by
  by_cases h : n < 0
  · have HV : Hid (vofF n = -(n + 1) ∧ sofF n = true) := by show _ ∧ _; simp [vofF, sofF, h]
    have h0 : ¬ 0 < n := by omega
    go_enter Tryd.func36, Tryd.ntmps36
    go_wp2_with (go_at_call 46; refine (rmake_any _ _ _).mono ?_; rintro e w'' ⟨rfl, rfl⟩)
    go_ret2
    exact ⟨by rw [HV.out.1, HV.out.2]; rfl, rfl⟩
  by_cases h0 : 0 < n
  · have HV : Hid (vofF n = n - 1 ∧ sofF n = false) := by show _ ∧ _; simp [vofF, sofF, h]
    go_enter Tryd.func36, Tryd.ntmps36
    go_wp2_with (go_at_call 46; refine (rmake_any _ _ _).mono ?_; rintro e w'' ⟨rfl, rfl⟩)
    go_ret2
    exact ⟨by rw [HV.out.1, HV.out.2]; rfl, rfl⟩
  · obtain rfl : n = 0 := by omega
    go_enter Tryd.func36, Tryd.ntmps36
    go_wp2
    go_ret2
    exact ⟨by rfl, rfl⟩

theorem rvar_any (l : Int) (w : World) (hu : l ≤ 9223372036854775807) : Calls Tryd.prog 28 #[.int .i64 l] w fun e w' => e = .returned (.int .i64 (varF l)) ∧ w' = w := by
  by_cases h : l < 0
  · have HV : Hid (varF l = -1) := by show varF l = -1; simp [varF, h]
    go_enter Tryd.func28, Tryd.ntmps28
    go_wp2
    go_ret
    exact ⟨by rw [HV.out]; rfl, rfl⟩
  · have HV : Hid (varF l = l / 2) := by show varF l = l / 2; simp [varF, h]
    go_enter Tryd.func28, Tryd.ntmps28
    go_wp2
    go_ret
    exact ⟨by rw [HV.out]; rfl, rfl⟩

theorem rneg_any (l : Int) (w : World) (hu : l ≤ 9223372036854775807) : Calls Tryd.prog 27 #[.int .i64 l] w fun e w' => e = .returned (.bool (negF l)) ∧ w' = w := by
  by_cases h : l < 0
  · have HV : Hid (negF l = false) := by show negF l = false; simp [negF]; omega
    have h0 : ¬ 0 ≤ l := by omega
    go_enter Tryd.func27, Tryd.ntmps27
    go_wp2
    go_ret
    exact ⟨by rw [HV.out]; rfl, rfl⟩
  · have HV : Hid (negF l = (l % 2 == 1)) := by show negF l = (l % 2 == 1); rw [Bool.eq_iff_iff]; simp [negF]; omega
    have h0 : 0 ≤ l := by omega
    go_enter Tryd.func27, Tryd.ntmps27
    go_wp2
    go_ret
    exact ⟨by rw [HV.out]; rfl, rfl⟩

theorem rnumber_any (l : Int) (w : World) (hu : l ≤ 9223372036854775807) : Calls Tryd.prog 18 #[.int .i64 l] w fun e w' => e = .returned (.int .i64 (numF l)) ∧ w' = w := by
  by_cases h : l < 0
  · have HV : Hid (numF l = 0) := by show numF l = 0; simp [numF, h]
    go_enter Tryd.func18, Tryd.ntmps18
    go_wp2
    go_ret
    exact ⟨by rw [HV.out]; rfl, rfl⟩
  have q0 : 0 ≤ varF l := by simp [varF, h]; omega
  have q1 : varF l ≤ 4611686018427387903 := by simp [varF, h]; omega
  cases hn : negF l
  · have HV : Hid (numF l = varF l + 1) := by show numF l = _; simp [negF] at hn; simp [numF, varF, h]; omega
    go_enter Tryd.func18, Tryd.ntmps18
    go_wp2_with (first | (go_at_call 27; refine (rneg_any _ _ hu).mono ?_; rintro e w'' ⟨rfl, rfl⟩) | (go_at_call 28; refine (rvar_any _ _ hu).mono ?_; rintro e w'' ⟨rfl, rfl⟩))
    go_ret
    exact ⟨by rw [HV.out]; rfl, rfl⟩
  · have HV : Hid (numF l = -(varF l + 1)) := by show numF l = _; simp [negF] at hn; simp [numF, varF, h, hn]
    go_enter Tryd.func18, Tryd.ntmps18
    go_wp2_with (first | (go_at_call 27; refine (rneg_any _ _ hu).mono ?_; rintro e w'' ⟨rfl, rfl⟩) | (go_at_call 28; refine (rvar_any _ _ hu).mono ?_; rintro e w'' ⟨rfl, rfl⟩))
    go_ret
    exact ⟨by rw [HV.out]; rfl, rfl⟩

end Go.Proofs.YtdhkabppcdnfeaaDoor
