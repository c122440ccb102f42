/-
  Terms that are none: what is told on nil.
-/
import Derived.Test.YtfbnlhgpknialaaNode
namespace Go.Proofs.Ytfbnlhgpknialaa
open Go.RowKit Go.Maps
set_option linter.unusedVariables false

theorem const_nil (a x : Int) (w : World) : Calls Try.prog 15 #[.pointer none, .int .i64 a, .int .u64 x] w fun e w' => e = .returned (.tuple #[.int .i64 0, .int .i64 8]) ∧ w' = w := by
  go_enter Try.func15, Try.ntmps15
  go_wp2
  go_ret2
  exact ⟨rfl, rfl⟩
theorem var_nil (a x : Int) (w : World) : Calls Try.prog 16 #[.pointer none, .int .i64 a, .int .i64 x] w fun e w' => e = .returned (.tuple #[.int .i64 0, .int .i64 8]) ∧ w' = w := by
  go_enter Try.func16, Try.ntmps16
  go_wp2
  go_ret2
  exact ⟨rfl, rfl⟩
theorem binary_nil (a x y : Int) (w : World) : Calls Try.prog 17 #[.pointer none, .int .i64 a, .int .i64 x, .int .i64 y] w fun e w' => e = .returned (.tuple #[.int .i64 0, .int .i64 8]) ∧ w' = w := by
  go_enter Try.func17, Try.ntmps17
  go_wp2
  go_ret2
  exact ⟨rfl, rfl⟩
theorem ite_nil (a x y : Int) (w : World) : Calls Try.prog 18 #[.pointer none, .int .i64 a, .int .i64 x, .int .i64 y] w fun e w' => e = .returned (.tuple #[.int .i64 0, .int .i64 8]) ∧ w' = w := by
  go_enter Try.func18, Try.ntmps18
  go_wp2
  go_ret2
  exact ⟨rfl, rfl⟩
theorem extend_nil (a x : Int) (b : Bool) (w : World) : Calls Try.prog 19 #[.pointer none, .int .i64 a, .int .i64 x, .bool b] w fun e w' => e = .returned (.tuple #[.int .i64 0, .int .i64 8]) ∧ w' = w := by
  go_enter Try.func19, Try.ntmps19
  go_wp2
  go_ret2
  exact ⟨rfl, rfl⟩
theorem extract_nil (a x y : Int) (w : World) : Calls Try.prog 20 #[.pointer none, .int .i64 a, .int .i64 x, .int .i64 y] w fun e w' => e = .returned (.tuple #[.int .i64 0, .int .i64 8]) ∧ w' = w := by
  go_enter Try.func20, Try.ntmps20
  go_wp2
  go_ret2
  exact ⟨rfl, rfl⟩
theorem concat_nil (a x : Int) (w : World) : Calls Try.prog 21 #[.pointer none, .int .i64 a, .int .i64 x] w fun e w' => e = .returned (.tuple #[.int .i64 0, .int .i64 8]) ∧ w' = w := by
  go_enter Try.func21, Try.ntmps21
  go_wp2
  go_ret2
  exact ⟨rfl, rfl⟩
theorem unary_nil (a x : Int) (w : World) : Calls Try.prog 22 #[.pointer none, .int .i64 a, .int .i64 x] w fun e w' => e = .returned (.tuple #[.int .i64 0, .int .i64 8]) ∧ w' = w := by
  go_enter Try.func22, Try.ntmps22
  go_wp2
  go_ret2
  exact ⟨rfl, rfl⟩

/-- A deed on terms that are none. -/
theorem made_nil (d : Dd) (w : World) : Calls Try.prog 13 #[.pointer none, .agg #[.int .i64 d.kd, .int .i64 d.w, .int .i64 d.a, .int .i64 d.b, .int .i64 d.c, .int .u64 d.x]] w fun e w' => e = .returned (.tuple #[.int .i64 0, .int .i64 8]) ∧ Hid (Below w.heap.size w w') := by
  obtain ⟨kd, dw, da, db, dc, dx⟩ := d
  simp only []
  by_cases h0 : kd = 0
  · subst h0
    go_enter Try.func13, Try.ntmps13
    go_wp2_with (go_at_call 15; with_reducible (refine (const_nil _ _ _).mono ?_); rintro e w2 ⟨rfl, rfl⟩)
    go_ret2
    exact ⟨rfl, hid (by go_grown)⟩
  by_cases h1 : kd = 1
  · subst h1
    go_enter Try.func13, Try.ntmps13
    go_wp2_with (go_at_call 16; with_reducible (refine (var_nil _ _ _).mono ?_); rintro e w2 ⟨rfl, rfl⟩)
    go_ret2
    exact ⟨rfl, hid (by go_grown)⟩
  by_cases h2 : kd = 2
  · subst h2
    go_enter Try.func13, Try.ntmps13
    go_wp2_with (go_at_call 22; with_reducible (refine (unary_nil _ _ _).mono ?_); rintro e w2 ⟨rfl, rfl⟩)
    go_ret2
    exact ⟨rfl, hid (by go_grown)⟩
  by_cases h3 : kd = 3
  · subst h3
    go_enter Try.func13, Try.ntmps13
    go_wp2_with (go_at_call 17; with_reducible (refine (binary_nil _ _ _ _).mono ?_); rintro e w2 ⟨rfl, rfl⟩)
    go_ret2
    exact ⟨rfl, hid (by go_grown)⟩
  by_cases h4 : kd = 4
  · subst h4
    go_enter Try.func13, Try.ntmps13
    go_wp2_with (go_at_call 18; with_reducible (refine (ite_nil _ _ _ _).mono ?_); rintro e w2 ⟨rfl, rfl⟩)
    go_ret2
    exact ⟨rfl, hid (by go_grown)⟩
  by_cases h5 : kd = 5
  · subst h5
    go_enter Try.func13, Try.ntmps13
    go_wp2_with (go_at_call 20; with_reducible (refine (extract_nil _ _ _ _).mono ?_); rintro e w2 ⟨rfl, rfl⟩)
    go_ret2
    exact ⟨rfl, hid (by go_grown)⟩
  by_cases h6 : kd = 6
  · subst h6
    go_enter Try.func13, Try.ntmps13
    go_wp2_with (go_at_call 21; with_reducible (refine (concat_nil _ _ _).mono ?_); rintro e w2 ⟨rfl, rfl⟩)
    go_ret2
    exact ⟨rfl, hid (by go_grown)⟩
  have k0 : (kd == 0) = false := by simpa using h0
  have k1 : (kd == 1) = false := by simpa using h1
  have k2 : (kd == 2) = false := by simpa using h2
  have k3 : (kd == 3) = false := by simpa using h3
  have k4 : (kd == 4) = false := by simpa using h4
  have k5 : (kd == 5) = false := by simpa using h5
  have k6 : (kd == 6) = false := by simpa using h6
  clear h0 h1 h2 h3 h4 h5 h6
  go_enter Try.func13, Try.ntmps13
  go_wp2_with (go_at_call 19; with_reducible (refine (extend_nil _ _ _ _).mono ?_); rintro e w2 ⟨rfl, rfl⟩)
  go_ret2
  exact ⟨rfl, hid (by go_grown)⟩

end Go.Proofs.Ytfbnlhgpknialaa
