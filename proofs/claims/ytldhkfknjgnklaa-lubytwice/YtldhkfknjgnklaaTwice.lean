/-
  The places of a row that comes again.
-/
import Derived.Test.YtldhkfknjgnklaaMath
namespace Go.Proofs.Ytldhkfknjgnklaa
open Go.RowKit
set_option linter.unusedVariables false

theorem twice_facts (k i : Int) (hk : 0 ≤ k) (hi : 0 ≤ i) : ∃ p a : Int, (2 : Int) ^ (k % 30 + 1).toNat = p ∧ 2 ≤ p ∧ p ≤ 1073741824 ∧ i % (p - 1) + 1 = a ∧
    (1 ≤ a ∧ a < p) ∧ Hid (termF (a + (p - 1)) = termF a) ∧ Hid (termF (2 * (p - 1) + 1) = p) := by
  obtain ⟨m, hm⟩ : ∃ m : Nat, (k % 30 + 1).toNat = m := ⟨_, rfl⟩
  have m1 : 1 ≤ m := by omega
  have m2 : m ≤ 30 := by omega
  obtain ⟨q, hq⟩ : ∃ q : Nat, 2 ^ m = q := ⟨_, rfl⟩
  have q1 : 2 ≤ q := by rw [← hq]; exact Nat.pow_le_pow_right (n := 2) (by decide) m1
  have q2 : q ≤ 1073741824 := by rw [← hq]; exact Nat.pow_le_pow_right (n := 2) (by decide) m2
  have b0 : 0 ≤ i % ((q : Int) - 1) := Int.emod_nonneg _ (by omega)
  have b1 : i % ((q : Int) - 1) < (q : Int) - 1 := Int.emod_lt_of_pos _ (by omega)
  obtain ⟨a, ha⟩ : ∃ a : Nat, i % ((q : Int) - 1) + 1 = a := ⟨(i % ((q : Int) - 1) + 1).toNat, by omega⟩
  have l1 := luby_twice (m := m) (a := a) (by omega) (by rw [hq]; omega)
  have l2 := luby_top m
  rw [hq] at l1 l2
  refine ⟨q, a, by rw [hm, ← hq]; push_cast; rfl, by omega, by omega, ha, by omega, ?_, ?_⟩
  · show termF ((a : Int) + ((q : Int) - 1)) = termF a
    rw [show (a : Int) + ((q : Int) - 1) = ((a + (q - 1) : Nat) : Int) by omega, termF_in (by omega) (by omega), l1, termF_in (by omega) (by omega)]
  · show termF (2 * ((q : Int) - 1) + 1) = q
    rw [show 2 * ((q : Int) - 1) + 1 = ((2 * (q - 1) + 1 : Nat) : Int) by omega, termF_in (by omega) (by omega), l2]

end Go.Proofs.Ytldhkfknjgnklaa
