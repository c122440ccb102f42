/-
  The walk of GateNone.
-/
import Derived.Test.YthdiajdphnjdoaaFrame
namespace Go.Proofs.Ythdiajdphnjdoaa
open Go.RowKit
set_option linter.unusedVariables false

set_option maxHeartbeats 4000000 in
theorem none_walk (D0 : Dd) (w : World) (w0 : DdFt D0) :
    Calls Try.prog 5 #[.agg #[.int .i64 D0.kd, .int .i64 D0.a, .int .i64 D0.b, .int .i64 D0.c]] w fun e w' => e = .returned (.bool true) ∧ Below w.heap.size w w' := by
  obtain ⟨kd, a, b, c⟩ := D0
  obtain ⟨fk, fa, fb, fc⟩ := w0
  simp only [] at fk fa fb fc
  have VQ : ∀ W, Vq W (.pointer none) 0 := fun W => .inl ⟨rfl, rfl⟩
  have HQ := hid VQ
  have NR : Hid (¬ rng 0 a) := hid (by unfold rng; omega)
  have FA := hid fa
  have FB := hid fb
  have FC := hid fc
  have bb := hid (Below.refl w.heap.size w |>.alloc (Nat.le_refl _) (.cells #[.int .i64 kd, .int .i64 a, .int .i64 b, .int .i64 c] 30))
  clear fk fa fb fc VQ
  go_enter Try.func5, Try.ntmps5
  go_wp2_with (first
    | (go_at_call 9; with_reducible (refine (true_nil _).mono ?_); rintro e w1 ⟨rfl, rfl⟩)
    | (go_at_call 10; with_reducible (refine (input_nil _).mono ?_); rintro e w1 ⟨rfl, rfl⟩)
    | (go_at_call 11; with_reducible (refine (ask_bad _ _ 0 (HQ.out _) (by omega) kd a b c FA.out FB.out FC.out NR.out).mono ?_); rintro e w2 ⟨rfl, hb⟩; have bb := hid (Below.next bb.out hb.out))
    | (go_at_call 15; with_reducible (refine (vars_nil _).mono ?_); rintro e w3 ⟨rfl, rfl⟩)
    | (go_at_call 16; with_reducible (refine (clauses_nil _).mono ?_); rintro e w3 ⟨rfl, rfl⟩)
    | (go_at_call 6; with_reducible (refine (awake_any _).mono ?_); rintro e w4 ⟨rfl, hb⟩; have bb := hid (Below.next bb.out hb.out)))
  go_ret
  exact ⟨rfl, bb.out⟩

end Go.Proofs.Ythdiajdphnjdoaa
