/-
  The chapter's examples, as the statements ask them.
-/
import Derived.Test.YtdbgkoncbkbkfaaHolds
namespace Go.Proofs.Ytdbgkoncbkbkfaa
open Go.RowKit
set_option linter.unusedVariables false

theorem keepB {w w' : World} {a : Option Addr} {len cap : Nat} {B : Nat → Bool} (h : Hid (IsBools w a len cap B)) (b : Below w.heap.size w w') : Hid (IsBools w' a len cap B) := IsBools.keep h.out b

def ttF : Nat → Bool := fun _ => true

theorem make_a (w : World) : Calls Try.prog 6 #[.int .i64 3, .bool true] w fun e w' => e = .returned (.tuple #[.int .i64 7, .int .i64 0]) ∧ Below w.heap.size w w' := make_any 3 true w
theorem make_b (w : World) : Calls Try.prog 6 #[.int .i64 (-1), .bool true] w fun e w' => e = .returned (.tuple #[.int .i64 0, .int .i64 10]) ∧ Below w.heap.size w w' := make_any (-1) true w
theorem of_a (w : World) : Calls Try.prog 8 #[.int .i64 1] w fun e w' => e = .returned (.tuple #[.int .i64 0, .int .i64 0]) ∧ Below w.heap.size w w' := of_any 1 w (by decide) (by decide)
theorem of_b (w : World) : Calls Try.prog 8 #[.int .i64 0] w fun e w' => e = .returned (.tuple #[.int .i64 0, .int .i64 10]) ∧ Below w.heap.size w w' := of_any 0 w (by decide) (by decide)
theorem number_a (w : World) : Calls Try.prog 17 #[.int .i64 7] w fun e w' => e = .returned (.int .i64 (-4)) ∧ Below w.heap.size w w' := number_any 7 w (by decide)
theorem var_a (w : World) : Calls Try.prog 11 #[.int .i64 7] w fun e w' => e = .returned (.int .i64 3) ∧ Below w.heap.size w w' := var_any 7 w (by decide)
theorem neg_a (w : World) : Calls Try.prog 13 #[.int .i64 7] w fun e w' => e = .returned (.bool true) ∧ Below w.heap.size w w' := neg_any 7 w (by decide)
theorem not_a (w : World) : Calls Try.prog 15 #[.int .i64 7] w fun e w' => e = .returned (.int .i64 6) ∧ Below w.heap.size w w' := not_any 7 w (by decide)
theorem holds_a (w : World) : Calls Try.prog 19 #[.int .i64 7, .slice none 0 0] w fun e w' => e = .returned (.bool true) ∧ Below w.heap.size w w' := holds_any 7 w none 0 0 ttF (.inl ⟨rfl, rfl, rfl⟩) (by decide)
theorem holds_b (w : World) : Calls Try.prog 19 #[.int .i64 6, .slice none 0 0] w fun e w' => e = .returned (.bool false) ∧ Below w.heap.size w w' := holds_any 6 w none 0 0 ttF (.inl ⟨rfl, rfl, rfl⟩) (by decide)
theorem holds_c (w : World) : Calls Try.prog 19 #[.int .i64 0, .slice (some { block := w.heap.size, off := 0 }) 1 1] (w.alloc (.cells #[.bool true] 4)) fun e w' => e = .returned (.bool true) ∧ Below w.heap.size w w' := by
  have hB : IsBools (w.alloc (.cells #[.bool true] 4)) (some { block := w.heap.size, off := 0 }) 1 1 ttF := by
    refine .inr ⟨_, rfl, Nat.le_refl _, by decide, fun i hi => ?_⟩
    obtain rfl : i = 0 := by omega
    simp [Addr.add, ttF]
  refine (holds_any 0 _ _ 1 1 ttF hB (by decide)).mono ?_
  rintro e w' ⟨rfl, hb⟩
  exact ⟨rfl, Below.next (by go_grown) hb⟩

theorem awake_any (w : World) : Calls Try.prog 10 #[] w fun e w' => e = .returned (.bool true) ∧ Below w.heap.size w w' := by
  have hb := Below.refl w.heap.size w
  go_enter Try.func10, Try.ntmps10
  go_wp2_with (
    first
    | (go_at_call 6; with_reducible (first | refine (make_a _).mono ?_ | refine (make_b _).mono ?_); rintro e w1 ⟨rfl, hc⟩; replace hb := Below.next hb hc; clear hc)
    | (go_at_call 8; with_reducible (first | refine (of_a _).mono ?_ | refine (of_b _).mono ?_); rintro e w1 ⟨rfl, hc⟩; replace hb := Below.next hb hc; clear hc)
    | (go_at_call 17; with_reducible (first | refine (number_a _).mono ?_); rintro e w1 ⟨rfl, hc⟩; replace hb := Below.next hb hc; clear hc)
    | (go_at_call 11; with_reducible (first | refine (var_a _).mono ?_); rintro e w1 ⟨rfl, hc⟩; replace hb := Below.next hb hc; clear hc)
    | (go_at_call 13; with_reducible (first | refine (neg_a _).mono ?_); rintro e w1 ⟨rfl, hc⟩; replace hb := Below.next hb hc; clear hc)
    | (go_at_call 15; with_reducible (first | refine (not_a _).mono ?_); rintro e w1 ⟨rfl, hc⟩; replace hb := Below.next hb hc; clear hc)
    | (go_at_call 19; with_reducible (first | refine (holds_a _).mono ?_ | refine (holds_b _).mono ?_); rintro e w1 ⟨rfl, hc⟩; replace hb := Below.next hb hc; clear hc)
    | (go_at_call 19; with_reducible (refine (holds_c _).mono ?_); rintro e w1 ⟨rfl, hc⟩; replace hb := Below.next hb hc; clear hc))
  go_ret
  exact ⟨rfl, hb⟩

end Go.Proofs.Ytdbgkoncbkbkfaa
