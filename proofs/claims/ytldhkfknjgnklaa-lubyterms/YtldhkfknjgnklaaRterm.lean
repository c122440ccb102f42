/-
  The document's number at a place.
-/
import Derived.Test.YtldhkfknjgnklaaWalks
import Derived.LoopTactic
namespace Go.Proofs.Ytldhkfknjgnklaa
open Go.RowKit
set_option linter.unusedVariables false

/-- A power of two. -/
def Pw (q : Nat) : Prop := ∃ j, q = 2 ^ j

theorem Pw.one : Pw 1 := ⟨0, rfl⟩
theorem Pw.twice {q : Nat} (h : Pw q) : Pw (q * 2) := by
  obtain ⟨j, rfl⟩ := h
  exact ⟨j + 1, by rw [Nat.pow_succ]⟩

theorem Pw.top {q i : Nat} (h : Pw q) (h0 : q ≤ i + 1) (h1 : i + 1 < q * 2) : q = 2 ^ (i + 1).log2 := by
  obtain ⟨j, rfl⟩ := h
  rw [log2_unique h0 (by rw [Nat.pow_succ]; exact h1)]

theorem Pw.whole {q i : Nat} (h : Pw q) (h0 : q ≤ i + 1) (h1 : i + 1 < q * 2) (e : q = i + 1) : (luby i : Int) = (q : Int) / 2 := by
  have e1 := h.top h0 h1
  rw [luby_whole (by simp only [isW, decide_eq_true_eq]; rw [← e1]; exact e), ← e]
  omega

theorem Pw.part {q i : Nat} (h : Pw q) (h0 : q ≤ i + 1) (h1 : i + 1 < q * 2) (e : q ≠ i + 1) : luby i = luby (i - q + 1) ∧ 2 ≤ q ∧ q ≤ i := by
  have e1 := h.top h0 h1
  have hw : isW i = false := by simp only [isW, decide_eq_false_iff_not]; rw [← e1]; exact e
  obtain ⟨h2, e2, h3, h4, h5, h6, h7⟩ := not_isW hw
  rw [e2] at e1
  rw [← e1] at h3 h5
  refine ⟨?_, h5, h3⟩
  rw [luby_step hw]
  unfold back
  rw [← e1]
  congr 1
  omega

set_option maxHeartbeats 1000000 in
theorem rterm_in (i : Nat) : 1 ≤ i → i ≤ 1099511627776 → ∀ w, Calls Try.prog 7 #[.int .i64 i] w fun e w' => e = .returned (.int .i64 (luby i)) ∧ w' = w := by
  induction i using Nat.strongRecOn with
  | _ i ih =>
    intro i1 i2 w
    have b1 : ¬ (i : Int) < 1 := by omega
    have b2 : ¬ (1099511627776 : Int) < i := by omega
    have IH : Hid (∀ k, k < i → 1 ≤ k → k ≤ 1099511627776 → ∀ w, Calls Try.prog 7 #[.int .i64 k] w fun e w' => e = .returned (.int .i64 (luby k)) ∧ w' = w) := ih
    clear ih
    go_enter Try.func7, Try.ntmps7
    go_wp2
    go_loop [3] (fun p => ∃ q : Nat, p = .int .i64 q ∧ 1 ≤ q ∧ q ≤ i + 1 ∧ Hid (Pw q)) (fun p => i + 1 - (intOf p).toNat)
    case atStart => exact ⟨1, rfl, by omega, by omega, Pw.one⟩
    case round =>
      obtain ⟨q, rfl, q1, q2, hq⟩ := hrel
      by_cases hlt : q * 2 ≤ i + 1
      · have hlt' : (q : Int) * 2 ≤ (i : Int) + 1 := by omega
        go_wp2
        go_round
        case rel => exact ⟨q * 2, by simp, by omega, hlt, hq.out.twice⟩
        case measure => simp [intOf]; omega
      · have hlt' : ¬ (q : Int) * 2 ≤ (i : Int) + 1 := by omega
        by_cases he : q = i + 1
        · have HV : Hid ((luby i : Int) = ((i : Int) + 1) / 2) := hid (by have := hq.out.whole q2 (by omega) he; omega)
          have he' : ((q : Int) == (i : Int) + 1) = true := by simp; omega
          go_wp2
          go_ret
          exact ⟨by rw [HV.out]; rfl, rfl⟩
        · obtain ⟨e1, e2, e3⟩ := hq.out.part q2 (by omega) he
          have he' : ((q : Int) == (i : Int) + 1) = false := by simp; omega
          have ec : (i : Int) - (q : Int) + 1 = ((i - q + 1 : Nat) : Int) := by omega
          have c : ∀ w, Calls Try.prog 7 #[.int .i64 ((i : Int) - (q : Int) + 1)] w fun e w' => e = .returned (.int .i64 (luby i)) ∧ w' = w := fun w => by
            rw [ec, e1]
            exact IH.out _ (by omega) (by omega) (by omega) w
          clear e1 ec
          go_wp2_with (go_at_call 7; with_reducible (refine (c _).mono ?_); rintro e w1 ⟨rfl, rfl⟩)
          go_ret
          exact ⟨rfl, rfl⟩

theorem rterm_any (i : Int) (w : World) : Calls Try.prog 7 #[.int .i64 i] w fun e w' => e = .returned (.int .i64 (termF i)) ∧ w' = w := by
  by_cases h : i < 1 ∨ i > 1099511627776
  · rw [termF_out h]
    by_cases h1 : i < 1
    · go_enter Try.func7, Try.ntmps7
      go_wp2
      go_ret
      exact ⟨rfl, rfl⟩
    · have h2 : 1099511627776 < i := by omega
      go_enter Try.func7, Try.ntmps7
      go_wp2
      go_ret
      exact ⟨rfl, rfl⟩
  · obtain ⟨k, rfl⟩ : ∃ k : Nat, i = k := ⟨i.toNat, by omega⟩
    rw [termF_in (by omega) (by omega)]
    exact rterm_in k (by omega) (by omega) w

end Go.Proofs.Ytldhkfknjgnklaa
