/-
  Holds, of a literal: two regions that draw their order.
-/
import Derived.Test.YtogjafmpoepgbaaWalks
import Derived.BigQuiet
namespace Go.Proofs.Ytogjafmpoepgbaa
open Go.RowKit
set_option linter.unusedVariables false

theorem Below.drewN {B : Nat} {a w : World} (h : Below B a w) (n : Nat) : Below B a (w.drewN n) := ⟨h.os, h.tape, h.output, h.size, h.block⟩

set_option maxHeartbeats 2000000 in
/-- A literal from 0 on, its sign and its variable's truth known. -/
theorem holds_of (l : Int) (w : World) (a : Option Addr) (len cap : Nat) (B : Nat → Bool) (s t : Bool) (hB : IsBools w a len cap B) (h : ¬ l < 0) (hu : l ≤ 9223372036854775807)
    (hs : (l % 2 == 1) = s) (ht : truF (l / 2) len B = t) : Calls Try.prog 32 #[.int .i64 l, .slice a len cap] w fun e w' => e = .returned (.bool (s == !t)) ∧ Below w.heap.size w w' := by
  have hq : (l / 2 == -1) = false := by simp; omega
  have q0 : 0 ≤ l / 2 := by omega
  have q1 : l / 2 ≤ 4611686018427387903 := by omega
  have HB : Hid (IsBools w a len cap B) := hB
  clear hB
  cases s <;> cases t
  all_goals
    go_enter Try.func32, Try.ntmps32
    go_wp2_with (go_at_call 29; refine (split_pos _ _ h hu).mono ?_; rintro e w' ⟨rfl, hb⟩)
    go_region_with (go_at_call 37; refine (none_any _).mono ?_; rintro e w' ⟨rfl, rfl⟩)
    all_goals go_wp2
    all_goals go_quiet ((go_at_call 39; refine (truth_any _ _ _ _ _ B (HB.out.keep (Below.drewN (Below.next hb (by go_grown)) _)) q0).mono ?_; rintro e w2 ⟨rfl, rfl⟩; exact ⟨rfl, _, rfl⟩))
    all_goals go_wp2
    all_goals go_returns
    all_goals exact ⟨rfl, Below.drewN (Below.next hb (by go_grown)) _⟩

theorem holds_pos (l : Int) (w : World) (a : Option Addr) (len cap : Nat) (B : Nat → Bool) (hB : IsBools w a len cap B) (h : ¬ l < 0) (hu : l ≤ 9223372036854775807) : Calls Try.prog 32 #[.int .i64 l, .slice a len cap] w fun e w' => e = .returned (.bool (holF l len B)) ∧ Below w.heap.size w w' := by
  have e : holF l len B = ((l % 2 == 1) == !(truF (l / 2) len B)) := by
    have : negF l = (l % 2 == 1) := by rw [Bool.eq_iff_iff]; simp [negF]; omega
    simp only [holF, h, this, if_false]
    cases (l % 2 == 1) <;> cases truF (l / 2) len B <;> rfl
  rw [e]
  exact holds_of l w a len cap B _ _ hB h hu rfl rfl

theorem holds_any (l : Int) (w : World) (a : Option Addr) (len cap : Nat) (B : Nat → Bool) (hB : IsBools w a len cap B) (hu : l ≤ 9223372036854775807) : Calls Try.prog 32 #[.int .i64 l, .slice a len cap] w fun e w' => e = .returned (.bool (holF l len B)) ∧ Below w.heap.size w w' := by
  by_cases h : l < 0
  · exact holds_neg l w a len cap B hB h
  · exact holds_pos l w a len cap B hB h hu

end Go.Proofs.Ytogjafmpoepgbaa
