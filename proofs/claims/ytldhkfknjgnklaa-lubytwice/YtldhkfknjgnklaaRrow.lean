/-
  The document's first n numbers.
-/
import Derived.Test.YtldhkfknjgnklaaRterm
import Derived.Test.YtldhkfknjgnklaaRead
namespace Go.Proofs.Ytldhkfknjgnklaa
open Go.RowKit
set_option linter.unusedVariables false

set_option maxHeartbeats 1000000 in
theorem rrow_any (n : Int) (hf : n ≤ 9223372036854775807) (w : World) :
    Calls Try.prog 11 #[.int .i64 n] w fun e w' => ∃ bo k c, e = .returned (.slice bo k c) ∧ Hid (Row w' bo k c (rowF n)) ∧ Below w.heap.size w w' := by
  obtain ⟨N, hN⟩ : ∃ N : Nat, (min n 100000).toNat = N := ⟨_, rfl⟩
  have HE : Hid (rowF n = rowN N) := hid (by rw [rowF_eq, hN])
  go_enter Try.func11, Try.ntmps11
  go_wp2
  go_loopw [3, 4] (fun v i wr => ∃ q : Nat, q ≤ N ∧ i = .int .i64 ((q : Int) + 1) ∧ Hid (OwnI wr w.heap.size v (rowN q)) ∧ Hid (Below w.heap.size w wr)) (fun _ i _ => N + 1 - (intOf i).toNat)
  case atStart => exact ⟨0, Nat.zero_le _, rfl, OwnI.nil _ _, Below.refl _ _⟩
  case round =>
    obtain ⟨q, hq, rfl, hown, hb⟩ := hrel
    by_cases hlt : q < N
    · have h1 : (q : Int) + 1 ≤ n := by omega
      have h2 : (q : Int) + 1 ≤ 100000 := by omega
      have ht := termF_fit ((q : Int) + 1)
      have hl := rowN_len q
      go_wp2_with (first
        | (go_at_call 7; with_reducible (refine (rterm_any _ _).mono ?_); rintro e w1 ⟨rfl, rfl⟩)
        | (at_builtin; refine append_ints rfl (.tmp 14) (.tmp 17) rfl w.heap.size _ _ [termF ((q : Int) + 1)] rfl (hown.out.alloc _) _ 1 1 rfl (row_one _ _ (by omega) (by omega)) (by omega) (by have := hb.out.size; simp; omega) ?_; intro v2 w2 own2 hb3))
      go_roundw
      case rel => exact ⟨q + 1, by omega, by push_cast; rfl, hid (by rw [rowN_succ]; exact own2.out), hid ((hb.out.alloc hb.out.size _).trans hb3.out)⟩
      case measure => simp only [intOf]; omega
    · obtain rfl : q = N := by omega
      obtain ⟨ao, k, c2, rfl, hrow⟩ := hown.out.shape
      by_cases h1 : (q : Int) + 1 ≤ n
      · have h2 : ¬ (q : Int) + 1 ≤ 100000 := by omega
        go_wp2
        go_ret
        exact ⟨_, _, _, rfl, hid (by rw [HE.out]; exact hrow.out), hb.out⟩
      · go_wp2
        go_ret
        exact ⟨_, _, _, rfl, hid (by rw [HE.out]; exact hrow.out), hb.out⟩

end Go.Proofs.Ytldhkfknjgnklaa
