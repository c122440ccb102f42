/-
  The document's own New.
-/
import Derived.Test.YtbddhjohlpblaaaRbump
namespace Go.Proofs.Ytbddhjohlpblaaa
open Go.RowKit
set_option linter.unusedVariables false

theorem made_bools (n : Nat) : madeCells #[.bool false] n = ((nones n).map Value.bool).toArray := by
  apply Array.toList_inj.1
  rw [toList_madeCells_one]
  simp [nones]

theorem make4 (n : Nat) (hn : n ≤ 1048576) (w : World) : (Instr.makeSlice 27 (.int .i64 n) (.int .i64 n)).run Try.prog w = .ok (.slice (some ⟨w.heap.size, 0, none⟩) n n) (w.alloc (.cells ((nones n).map Value.bool).toArray 4)) := by
  obtain ⟨i0, hi, hz0, hz1, hz2⟩ := info_parts Try.info4
  have := run_make (P := Try.prog) w 27 4 i0 (.bool false) Try.underlying27 hi hz0 .i64 .i64 n n (by omega) (Int.le_refl _) (by rw [hz2]; omega) (by omega)
  rw [this, hz1, ← made_bools]
  simp [Value.cells]

def RnEnd (m : Nat) (w : World) (av bv : Value) (w' : World) : Prop := RO w' av bv (zeros m) (nones m) ∧ (∀ j, av.ownBlock = some j → w.heap.size ≤ j) ∧ (∀ j, bv.ownBlock = some j → w.heap.size ≤ j) ∧ Below w.heap.size w w'


theorem rnew_a (w : World) (m : Nat) (hm : m ≤ 1048576) : RnEnd m w (.slice (some ⟨w.heap.size + 1, 0, none⟩) m m) (.slice (some ⟨w.heap.size + 1 + 1, 0, none⟩) m m)
    (((w.alloc (.cells #[.slice (some ⟨w.heap.size + 1, 0, none⟩) m m, .slice (some ⟨w.heap.size + 1 + 1, 0, none⟩) m m] 29)).alloc (.cells ((zeros m).map (Value.int .i64)).toArray 3)).alloc (.cells ((nones m).map Value.bool).toArray 4)).drew := by
  obtain ⟨e0, e1, e2⟩ := push3 w.heap (.cells #[.slice (some ⟨w.heap.size + 1, 0, none⟩) m m, .slice (some ⟨w.heap.size + 1 + 1, 0, none⟩) m m] 29) (.cells ((zeros m).map (Value.int .i64)).toArray 3) (.cells ((nones m).map Value.bool).toArray 4)
  refine ⟨⟨⟨by simp, .inr ⟨_, m, _, by simp [zeros], Nat.zero_le _, e1, by simp [zeros], by unfold maxLen; omega, by simp [zeros], by simp [zeros]⟩⟩, ⟨by simp, .inr ⟨_, m, _, by simp [nones], Nat.zero_le _, e2, by simp [nones], by unfold maxLen; omega, by simp [nones], by simp [nones]⟩⟩⟩, ?_, ?_, by go_grown⟩
  · intro j hj; cases hj; show w.heap.size ≤ w.heap.size + 1; omega
  · intro j hj; cases hj; show w.heap.size ≤ w.heap.size + 1 + 1; omega

theorem rnew_b (w : World) (m : Nat) (hm : m ≤ 1048576) : RnEnd m w (.slice (some ⟨w.heap.size + 1 + 1, 0, none⟩) m m) (.slice (some ⟨w.heap.size + 1, 0, none⟩) m m)
    (((w.alloc (.cells #[.slice (some ⟨w.heap.size + 1 + 1, 0, none⟩) m m, .slice (some ⟨w.heap.size + 1, 0, none⟩) m m] 29)).alloc (.cells ((nones m).map Value.bool).toArray 4)).alloc (.cells ((zeros m).map (Value.int .i64)).toArray 3)).drew := by
  obtain ⟨e0, e1, e2⟩ := push3 w.heap (.cells #[.slice (some ⟨w.heap.size + 1 + 1, 0, none⟩) m m, .slice (some ⟨w.heap.size + 1, 0, none⟩) m m] 29) (.cells ((nones m).map Value.bool).toArray 4) (.cells ((zeros m).map (Value.int .i64)).toArray 3)
  refine ⟨⟨⟨by simp, .inr ⟨_, m, _, by simp [zeros], Nat.zero_le _, e2, by simp [zeros], by unfold maxLen; omega, by simp [zeros], by simp [zeros]⟩⟩, ⟨by simp, .inr ⟨_, m, _, by simp [nones], Nat.zero_le _, e1, by simp [nones], by unfold maxLen; omega, by simp [nones], by simp [nones]⟩⟩⟩, ?_, ?_, by go_grown⟩
  · intro j hj; cases hj; show w.heap.size ≤ w.heap.size + 1 + 1; omega
  · intro j hj; cases hj; show w.heap.size ≤ w.heap.size + 1; omega

set_option maxHeartbeats 1000000 in
theorem rnew_any (n : Int) (w : World) : Calls Try.prog 8 #[.int .i64 n] w fun e w' => ∃ a b : Nat, e = .returned (.agg #[.slice (some ⟨a, 0, none⟩) (cntF n) (cntF n), .slice (some ⟨b, 0, none⟩) (cntF n) (cntF n)]) ∧ RnEnd (cntF n) w (.slice (some ⟨a, 0, none⟩) (cntF n) (cntF n)) (.slice (some ⟨b, 0, none⟩) (cntF n) (cntF n)) w' := by
  by_cases h0 : n < 0
  · have HC : Hid (cntF n = 0) := hid (by simp [cntF, h0])
    have hmk := make3 0 (by omega)
    have hmk4 := make4 0 (by omega)
    simp only [Int.natCast_zero] at hmk hmk4
    go_enter Try.func8, Try.ntmps8
    go_wp2
    go_region
    all_goals go_wp2
    all_goals go_returns
    · exact ⟨_, _, by rw [HC.out], by rw [HC.out]; exact rnew_a w 0 (by omega)⟩
    · exact ⟨_, _, by rw [HC.out], by rw [HC.out]; exact rnew_b w 0 (by omega)⟩
  · by_cases h1 : 1048576 < n
    · have HC : Hid (cntF n = 0) := hid (by simp [cntF, h1])
      have hmk := make3 0 (by omega)
      have hmk4 := make4 0 (by omega)
      simp only [Int.natCast_zero] at hmk hmk4
      go_enter Try.func8, Try.ntmps8
      go_wp2
      go_region
      all_goals go_wp2
      all_goals go_returns
      · exact ⟨_, _, by rw [HC.out], by rw [HC.out]; exact rnew_a w 0 (by omega)⟩
      · exact ⟨_, _, by rw [HC.out], by rw [HC.out]; exact rnew_b w 0 (by omega)⟩
    · obtain ⟨m, rfl⟩ : ∃ m : Nat, n = m := ⟨n.toNat, by omega⟩
      have HC : Hid (cntF m = m) := hid (by simp only [cntF]; rw [if_neg (by omega)]; omega)
      have hmk := make3 m (by omega)
      have hmk4 := make4 m (by omega)
      have h1' : m ≤ 1048576 := by omega
      have h1d : decide ((1048576 : Int) < m) = false := by simp; omega
      go_enter Try.func8, Try.ntmps8
      go_wp2
      go_region
      all_goals go_wp2
      all_goals go_returns
      · exact ⟨_, _, by rw [HC.out], by rw [HC.out]; exact rnew_a w m h1'⟩
      · exact ⟨_, _, by rw [HC.out], by rw [HC.out]; exact rnew_b w m h1'⟩

end Go.Proofs.Ytbddhjohlpblaaa
