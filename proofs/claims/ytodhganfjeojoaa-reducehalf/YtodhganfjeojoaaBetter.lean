/-
  Better, the document's Better and sure; the closure that tells which of two places is ahead.
-/
import Derived.Test.YtodhganfjeojoaaLooks
namespace Go.Proofs.Ytodhganfjeojoaa
open Go.RowKit Go.Sort
set_option linter.unusedVariables false

set_option maxHeartbeats 1000000 in
theorem better_is (x y : Dd) (w : World) : Calls Try.prog 6 #[.agg #[.int .i64 x.s, .int .i64 x.g, .int .i64 x.a], .agg #[.int .i64 y.s, .int .i64 y.g, .int .i64 y.a]] w fun e w' => e = .returned (.bool (btr x y)) ∧ Hid (Gr w w') := by
  obtain ⟨r, hr⟩ : ∃ r, cmpD x y = r := ⟨_, rfl⟩
  have HR := hid hr
  have HV : Hid (btr x y = decide (r < 0)) := by
    show btr x y = decide (r < 0)
    rw [Bool.eq_iff_iff, decide_eq_true_eq, ← hr]
    exact (cmpD_neg x y).symm
  clear hr
  go_enter Try.func6, Try.ntmps6
  go_wp2_with (go_at_call 11; with_reducible (refine (cmpD_is x y _ HR.out).mono ?_); rintro e w2 ⟨rfl, b2⟩)
  go_ret
  exact ⟨by rw [HV.out]; rfl, hid ((Gr.alloc _ _).trans ((Gr.alloc _ _).trans b2.out))⟩

theorem btr_g {x y : Dd} (h : x.g ≠ y.g) : btr x y = decide (x.g < y.g) := by
  unfold btr
  rw [Bool.eq_iff_iff, decide_eq_true_eq, decide_eq_true_eq]; omega
theorem btr_a {x y : Dd} (h : x.g = y.g) (k : x.a ≠ y.a) : btr x y = decide (y.a < x.a) := by
  unfold btr
  rw [Bool.eq_iff_iff, decide_eq_true_eq, decide_eq_true_eq]; omega
theorem btr_s {x y : Dd} (h : x.g = y.g) (k : x.a = y.a) : btr x y = decide (x.s < y.s) := by
  unfold btr
  rw [Bool.eq_iff_iff, decide_eq_true_eq, decide_eq_true_eq]; omega

set_option maxHeartbeats 1000000 in
theorem rbetter_is (x y : Dd) (w : World) {b : Bool} (hb : btr x y = b) : Calls Try.prog 7 #[.agg #[.int .i64 x.s, .int .i64 x.g, .int .i64 x.a], .agg #[.int .i64 y.s, .int .i64 y.g, .int .i64 y.a]] w fun e w' => e = .returned (.bool b) ∧ Hid (Gr w w') := by
  have HB := hid hb
  clear hb
  by_cases hg : x.g = y.g
  · by_cases ha : x.a = y.a
    · have HV := hid (btr_s hg ha)
      have e1 : (x.g != y.g) = false := by simpa using hg
      have e2 : (x.a != y.a) = false := by simpa using ha
      clear hg ha
      go_enter Try.func7, Try.ntmps7
      go_wp2
      go_ret
      exact ⟨by rw [← HB.out, HV.out]; rfl, hid ((Gr.alloc _ _).trans (Gr.alloc _ _))⟩
    · have HV := hid (btr_a hg ha)
      have e1 : (x.g != y.g) = false := by simpa using hg
      have e2 : (x.a != y.a) = true := by simpa using ha
      clear hg ha
      go_enter Try.func7, Try.ntmps7
      go_wp2
      go_ret
      exact ⟨by rw [← HB.out, HV.out]; rfl, hid ((Gr.alloc _ _).trans (Gr.alloc _ _))⟩
  · have HV := hid (btr_g hg)
    have e1 : (x.g != y.g) = true := by simpa using hg
    clear hg
    go_enter Try.func7, Try.ntmps7
    go_wp2
    go_ret
    exact ⟨by rw [← HB.out, HV.out]; rfl, hid ((Gr.alloc _ _).trans (Gr.alloc _ _))⟩

theorem sure_is (x : Dd) (w : World) {b : Bool} (hb : sure x = b) : Calls Try.prog 16 #[.agg #[.int .i64 x.s, .int .i64 x.g, .int .i64 x.a]] w fun e w' => e = .returned (.bool b) ∧ Hid (Gr w w') := by
  subst hb
  by_cases hg : x.g ≤ 2
  · have HV : Hid (sure x = true) := by show sure x = true; unfold sure; rw [decide_eq_true_eq]; exact .inl hg
    go_enter Try.func16, Try.ntmps16
    go_wp2
    go_ret
    exact ⟨by rw [HV.out]; rfl, hid (Gr.alloc _ _)⟩
  · have HV : Hid (sure x = decide (x.s ≤ 2)) := by show sure x = _; unfold sure; rw [Bool.eq_iff_iff, decide_eq_true_eq, decide_eq_true_eq]; omega
    have hg' : decide (x.g ≤ 2) = false := by simpa using hg
    go_enter Try.func16, Try.ntmps16
    go_wp2
    go_ret
    exact ⟨by rw [HV.out]; rfl, hid (Gr.alloc _ _)⟩

end Go.Proofs.Ytodhganfjeojoaa
