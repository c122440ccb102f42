/-
  The calls that only look: Var and Neg of literals; is, assigned, free, Levels, Value, Level, Reason, Lits of trails.
-/
import Derived.Test.YtimpoagdidnpiaaRaw
namespace Go.Proofs.Ytimpoagdidnpiaa
open Go.RowKit
set_option linter.unusedVariables false

/-! ### Literals -/
theorem none_any (w : World) : Calls Try.prog 37 #[] w fun e w' => e = .returned (.agg #[.int .i64 (-1), .bool false]) ∧ w' = w.alloc (.cells #[.int .i64 (-1), .bool false] 63) := by
  go_enter Try.func37, Try.ntmps37
  go_wp2
  go_returns
  exact ⟨rfl, rfl⟩

theorem split_neg (l : Int) (h : l < 0) (w : World) : Calls Try.prog 35 #[.int .i64 l] w fun e w' => e = .returned (.agg #[.int .i64 (-1), .bool false]) ∧ Below w.heap.size w w' := by
  go_enter Try.func35, Try.ntmps35
  go_wp2_with (go_at_call 37; refine (none_any _).mono ?_; rintro e w' ⟨rfl, rfl⟩)
  go_returns
  exact ⟨rfl, by go_grown⟩

theorem split_pos (l : Int) (h : ¬ l < 0) (hu : l ≤ 9223372036854775807) (w : World) : Calls Try.prog 35 #[.int .i64 l] w fun e w' => e = .returned (.agg #[.int .i64 (l / 2), .bool (l % 2 == 1)]) ∧ Below w.heap.size w w' := by
  go_enter Try.func35, Try.ntmps35
  go_wp2
  go_returns
  exact ⟨rfl, by go_grown⟩

theorem field0 (x y : Value) (w : World) : (Instr.field 63 (.agg #[x, y]) 0).run Try.prog w = .ok x w := by kernel_rfl
theorem field1 (x y : Value) (w : World) : (Instr.field 63 (.agg #[x, y]) 1).run Try.prog w = .ok y w := by kernel_rfl

theorem var_neg (l : Int) (h : l < 0) (w : World) : Calls Try.prog 26 #[.int .i64 l] w fun e w' => e = .returned (.int .i64 (-1)) ∧ Below w.heap.size w w' := by
  have f0 := field0
  go_enter Try.func26, Try.ntmps26
  go_wp2_with (go_at_call 35; refine (split_neg _ h _).mono ?_; rintro e w' ⟨rfl, hb⟩)
  go_returns
  exact ⟨rfl, hb⟩

theorem var_nat (m u : Nat) (hm : m / 2 = u) (hu : (m : Int) ≤ 9223372036854775807) (w : World) : Calls Try.prog 26 #[.int .i64 m] w fun e w' => e = .returned (.int .i64 u) ∧ Below w.heap.size w w' := by
  have HE : Hid ((m : Int) / 2 = u) := hid (by omega)
  have f0 := field0
  have h0 : ¬ ((m : Int) < 0) := by omega
  clear hm
  go_enter Try.func26, Try.ntmps26
  go_wp2_with (go_at_call 35; refine (split_pos _ h0 hu _).mono ?_; rintro e w' ⟨rfl, hb⟩)
  go_returns
  exact ⟨by rw [HE.out]; rfl, hb⟩

theorem neg_nat (m : Nat) (b : Bool) (hb : decide (m % 2 = 1) = b) (hu : (m : Int) ≤ 9223372036854775807) (w : World) : Calls Try.prog 28 #[.int .i64 m] w fun e w' => e = .returned (.bool b) ∧ Below w.heap.size w w' := by
  have HE : Hid (((m : Int) % 2 == 1) = b) := hid (by rw [← hb, Bool.eq_iff_iff]; simp; omega)
  have f1 := field1
  have h0 : ¬ ((m : Int) < 0) := by omega
  clear hb
  go_enter Try.func28, Try.ntmps28
  go_wp2_with (go_at_call 35; refine (split_pos _ h0 hu _).mono ?_; rintro e w' ⟨rfl, hb⟩)
  go_returns
  exact ⟨by rw [HE.out]; rfl, hb⟩

theorem neg_neg (l : Int) (h : l < 0) (w : World) : Calls Try.prog 28 #[.int .i64 l] w fun e w' => e = .returned (.bool false) ∧ Below w.heap.size w w' := by
  have f1 := field1
  go_enter Try.func28, Try.ntmps28
  go_wp2_with (go_at_call 35; refine (split_neg _ h _).mono ?_; rintro e w' ⟨rfl, hb⟩)
  go_returns
  exact ⟨rfl, hb⟩

/-! ### A trail that is none -/
theorem is_none (v : Int) (w : World) : Calls Try.prog 27 #[.pointer none, .int .i64 v] w fun e w' => e = .returned (.bool false) ∧ w' = w := by
  go_enter Try.func27, Try.ntmps27
  go_wp2
  go_ret
  exact ⟨rfl, rfl⟩

theorem assigned_none (v : Int) (w : World) : Calls Try.prog 30 #[.pointer none, .int .i64 v] w fun e w' => e = .returned (.bool false) ∧ w' = w := by
  go_enter Try.func30, Try.ntmps30
  go_wp2_with (go_at_call 27; with_reducible (refine (is_none _ _).mono ?_); rintro e w ⟨rfl, rfl⟩)
  go_ret
  exact ⟨rfl, rfl⟩

theorem var_some (l : Int) (hu : l ≤ 9223372036854775807) (w : World) : Calls Try.prog 26 #[.int .i64 l] w fun e w' => ∃ v, e = .returned (.int .i64 v) ∧ Below w.heap.size w w' := by
  by_cases h : l < 0
  · exact (var_neg l h w).mono fun e w' ⟨h1, h2⟩ => ⟨_, h1, h2⟩
  · obtain ⟨m, rfl⟩ : ∃ m : Nat, l = m := ⟨l.toNat, by omega⟩
    exact (var_nat m _ rfl hu w).mono fun e w' ⟨h1, h2⟩ => ⟨_, h1, h2⟩

theorem free_none (l : Int) (hu : l ≤ 9223372036854775807) (w : World) : Calls Try.prog 32 #[.pointer none, .int .i64 l] w fun e w' => e = .returned (.bool false) ∧ Below w.heap.size w w' := by
  go_enter Try.func32, Try.ntmps32
  go_wp2_with (first
    | (go_at_call 26; with_reducible (refine (var_some _ hu _).mono ?_); rintro e w1 ⟨v, rfl, b1⟩)
    | (go_at_call 27; with_reducible (refine (is_none _ _).mono ?_); rintro e w1 ⟨rfl, rfl⟩))
  go_ret
  exact ⟨rfl, b1⟩

theorem assign_none (l r : Int) (hu : l ≤ 9223372036854775807) (w : World) : Calls Try.prog 21 #[.pointer none, .int .i64 l, .int .i64 r] w fun e w' => e = .returned (.bool false) ∧ Below w.heap.size w w' := by
  go_enter Try.func21, Try.ntmps21
  go_wp2_with (go_at_call 32; with_reducible (refine (free_none _ hu _).mono ?_); rintro e w1 ⟨rfl, b1⟩)
  go_ret
  exact ⟨rfl, b1⟩

theorem decide_none (l : Int) (hu : l ≤ 9223372036854775807) (w : World) : Calls Try.prog 22 #[.pointer none, .int .i64 l] w fun e w' => e = .returned (.bool false) ∧ Below w.heap.size w w' := by
  go_enter Try.func22, Try.ntmps22
  go_wp2_with (go_at_call 32; with_reducible (refine (free_none _ hu _).mono ?_); rintro e w1 ⟨rfl, b1⟩)
  go_ret
  exact ⟨rfl, b1⟩

theorem value_none (l : Int) (hu : l ≤ 9223372036854775807) (w : World) : Calls Try.prog 11 #[.pointer none, .int .i64 l] w fun e w' => e = .returned (.int .i64 0) ∧ Below w.heap.size w w' := by
  go_enter Try.func11, Try.ntmps11
  go_wp2_with (first
    | (go_at_call 26; with_reducible (refine (var_some _ hu _).mono ?_); rintro e w1 ⟨v, rfl, b1⟩)
    | (go_at_call 27; with_reducible (refine (is_none _ _).mono ?_); rintro e w1 ⟨rfl, rfl⟩))
  go_ret
  exact ⟨rfl, b1⟩

theorem level_none (v : Int) (w : World) : Calls Try.prog 13 #[.pointer none, .int .i64 v] w fun e w' => e = .returned (.int .i64 (-1)) ∧ w' = w := by
  go_enter Try.func13, Try.ntmps13
  go_wp2_with (go_at_call 30; with_reducible (refine (assigned_none _ _).mono ?_); rintro e w ⟨rfl, rfl⟩)
  go_ret
  exact ⟨rfl, rfl⟩

theorem reason_none (v : Int) (w : World) : Calls Try.prog 15 #[.pointer none, .int .i64 v] w fun e w' => e = .returned (.int .i64 (-1)) ∧ w' = w := by
  go_enter Try.func15, Try.ntmps15
  go_wp2_with (go_at_call 30; with_reducible (refine (assigned_none _ _).mono ?_); rintro e w ⟨rfl, rfl⟩)
  go_ret
  exact ⟨rfl, rfl⟩

theorem levels_none (w : World) : Calls Try.prog 10 #[.pointer none] w fun e w' => e = .returned (.int .i64 0) ∧ w' = w := by
  go_enter Try.func10, Try.ntmps10
  go_wp2
  go_ret
  exact ⟨rfl, rfl⟩

theorem lits_none (w : World) : Calls Try.prog 18 #[.pointer none] w fun e w' => e = .returned (.slice none 0 0) ∧ w' = w := by
  go_enter Try.func18, Try.ntmps18
  go_wp2
  go_ret
  exact ⟨rfl, rfl⟩

/-! ### A trail -/
def isF (n : Nat) (v : Int) : Bool := decide (0 ≤ v ∧ v < n)

theorem isF_yes {n : Nat} {v : Int} (h : isF n v = true) : ∃ u : Nat, v = u ∧ u < n := by
  simp only [isF, decide_eq_true_eq] at h
  exact ⟨v.toNat, by omega, by omega⟩
theorem isF_nat {n u : Nat} (h : u < n) : isF n (u : Int) = true := by simp [isF, h]

section
variable {k : K} {w : World} {F : Nat → Fc} {ls ss : List Int} {p : V}

theorem is_any (s : Raw k w F ls ss p) (v : Int) : Calls Try.prog 27 #[.pointer (some ⟨k.OB, 0, none⟩), .int .i64 v] w fun e w' => e = .returned (.bool (isF k.n v)) ∧ w' = w := by
  have c0 := s.c0
  by_cases h0 : 0 ≤ v
  · by_cases h1 : v < k.n
    · have HV : Hid (isF k.n v = true) := hid (by simp [isF]; omega)
      go_enter Try.func27, Try.ntmps27
      go_wp2
      go_ret
      exact ⟨by rw [HV.out]; simp, rfl⟩
    · have HV : Hid (isF k.n v = false) := hid (by simp [isF]; omega)
      go_enter Try.func27, Try.ntmps27
      go_wp2
      go_ret
      exact ⟨by rw [HV.out]; simp, rfl⟩
  · have HV : Hid (isF k.n v = false) := hid (by simp [isF]; omega)
    go_enter Try.func27, Try.ntmps27
    go_wp2
    go_ret
    exact ⟨by rw [HV.out]; rfl, rfl⟩

theorem assigned_no (s : Raw k w F ls ss p) (v : Int) (h : isF k.n v = false) : Calls Try.prog 30 #[.pointer (some ⟨k.OB, 0, none⟩), .int .i64 v] w fun e w' => e = .returned (.bool false) ∧ w' = w := by
  have HS := hid s
  clear s
  go_enter Try.func30, Try.ntmps30
  go_wp2_with (go_at_call 27; with_reducible (refine (is_any HS.out _).mono ?_); rintro e w ⟨rfl, rfl⟩)
  go_ret
  exact ⟨rfl, rfl⟩

theorem assigned_yes (s : Raw k w F ls ss p) (v : Nat) (h : v < k.n) {x : Int} (hx : (F v).v = x) : Calls Try.prog 30 #[.pointer (some ⟨k.OB, 0, none⟩), .int .i64 v] w fun e w' => e = .returned (.bool (x != 0)) ∧ w' = w := by
  have HS := hid s
  have c0 := s.c0
  have fa := (s.fa h).1
  rw [hx] at fa
  have hi := isF_nat h
  have h' : (v : Int) < k.n := by omega
  clear s hx
  go_enter Try.func30, Try.ntmps30
  go_wp2_with (go_at_call 27; with_reducible (refine (is_any HS.out _).mono ?_); rintro e w ⟨rfl, rfl⟩)
  go_ret
  exact ⟨rfl, rfl⟩

theorem levels_any (s : Raw k w F ls ss p) : Calls Try.prog 10 #[.pointer (some ⟨k.OB, 0, none⟩)] w fun e w' => e = .returned (.int .i64 ss.length) ∧ w' = w := by
  obtain ⟨ao, cap, e⟩ := s.ls_shape
  have c2 := s.c2
  rw [e] at c2
  go_enter Try.func10, Try.ntmps10
  go_wp2
  go_ret
  exact ⟨rfl, rfl⟩
end

end Go.Proofs.Ytimpoagdidnpiaa
