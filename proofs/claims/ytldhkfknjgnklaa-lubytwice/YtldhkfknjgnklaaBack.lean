/-
  back: the places that are met on the way to the first one of the same number.
-/
import Derived.Test.YtldhkfknjgnklaaWalks
import Derived.RangeFuncBox
import Derived.RangeFuncLeaves
import Derived.RangeFuncFrom
import Derived.RangeFuncCalls
import Derived.Shelf.Abstract
import Derived.OwnWalkIn
import Derived.TacticsInMore
import Derived.LoopNIn
import Derived.LoopIn
namespace Go.Proofs.Ytldhkfknjgnklaa
open Go.RowKit Go.Shelf
set_option linter.unusedVariables false

attribute [local go_sem] Oper.semAt_some

theorem step_facts {k : Nat} (hk : isW k = false) (k2 : k ≤ 1099511627776) : ∃ L p : Nat, k.log2 = L ∧ (2 : Int) ^ L = (p : Int) ∧ (L : Int) ≤ 40 ∧ 2 ≤ p ∧ p ≤ k ∧ Hid (chain k = (back k : Int) :: chain (back k)) ∧ Hid ((k : Int) - ((p : Int) - 1) = (back k : Int)) ∧ Hid (1 ≤ back k ∧ back k < k) := by
  obtain ⟨h2, _, h3, _, h4, _⟩ := not_isW hk
  obtain ⟨b1, b2, b3⟩ := back_lt hk
  have hL : k.log2 ≤ 40 := by
    refine Nat.le_of_lt_succ ((Nat.log2_lt (by omega)).2 (Nat.lt_of_le_of_lt k2 (by decide)))
  refine ⟨_, 2 ^ k.log2, rfl, by push_cast; rfl, by omega, h4, h3, chain_step hk, ?_, b2, b1⟩
  show (k : Int) - (((2 ^ k.log2 : Nat) : Int) - 1) = (back k : Int)
  generalize 2 ^ k.log2 = p at *
  omega

set_option maxRecDepth 100000 in
set_option maxHeartbeats 1000000 in
theorem back1_in (n : Nat) (hn : 1 ≤ n) (l Bn n₀ i : Nat) (h1 : 1 ≤ i) (h2 : i ≤ 1099511627776) (J Jx : List Int → World → Prop)
    (hY : ∀ pre x W, J pre W → pre.length < (chain i).length → YieldAt Fence.wide (n - 1) Try.prog l #[.int .i64 x] W fun e W' =>
      (e = .returned (.bool true) ∧ J (pre ++ [x]) W' ∧ Below n₀ W W') ∨ (e = .returned (.bool false) ∧ Jx (pre ++ [x]) W'))
    (W : World) (hBn : W.cell? ⟨Bn, 0, none⟩ = some (.int .i64 i)) (h0 : J [] W) :
    CallsIn Fence.wide n Try.prog 14 #[.func (.yield l) #[] #[], .pointer (some ⟨Bn, 0, none⟩)] W fun e W' => (∃ v, e = .returned v) ∧
      ((∃ ys, ys = chain i ∧ J ys W') ∨ (∃ pre, pre <+: chain i ∧ Jx pre W')) := by
  refine callsIn_of_wp Try.func14 rfl trivial ?_ rfl
  simp only [Try.ntmps14, List.size_toArray, List.length_cons, List.length_nil, Nat.reduceAdd, Nat.reduceSub, Array.replicate_succ, Array.replicate_zero, List.push_toArray, List.append_toArray, List.nil_append, List.cons_append]
  gi_wp2
  gi_loopw [3] (fun p wr => ∃ (pre : List Int) (k : Nat), p = .int .i64 k ∧ 1 ≤ k ∧ k ≤ 1099511627776 ∧ Hid (chain i = pre ++ chain k) ∧ J pre wr)
    (fun p _ => (intOf p).toNat)
  case atStart =>
    exact ⟨[], i, rfl, h1, h2, rfl, h0⟩
  case round =>
    obtain ⟨pre, k, rfl, k1, k2, hx, hJs⟩ := hrel
    cases hk : isW k with
    | true =>
      gi_wp2_with (refine ⟨trivial, ?_⟩; gi_at_call 15; refine (callsIn_wide.2 (whole_any k k2 _)).mono ?_; rintro e w' ⟨rfl, rfl⟩)
      go_end0
      exact ⟨⟨_, rfl⟩, .inl ⟨pre, by rw [hx.out, chain_whole hk, List.append_nil], hJs⟩⟩
    | false =>
      obtain ⟨L, p, eL, hp, L40, p1, p2, hb1, hb2, hb3⟩ := step_facts hk k2
      obtain ⟨fn, tmps, assign, body, hy, hR⟩ := hY pre ((k : Int) - ((p : Int) - 1)) wr hJs (by rw [hx.out, chain_step hk]; simp)
      have lc : ∀ w, Calls Try.prog 16 #[.int .u64 k] w fun e w' => e = .returned (.int .i64 ((L : Int) + 1)) ∧ w' = w := fun w => by
        have c := len_any k k1 k2 w
        rw [eL, Int.natCast_add] at c
        exact c
      gi_wp2_with (first | (refine ⟨trivial, ?_⟩; gi_at_call 15; refine (callsIn_wide.2 (whole_any k k2 _)).mono ?_; rintro e w' ⟨rfl, rfl⟩) | (refine ⟨trivial, ?_⟩; gi_at_call 16; refine (callsIn_wide.2 (lc _)).mono ?_; rintro e w' ⟨rfl, rfl⟩))
      refine hR.mono ?_
      rintro e W3 (⟨rfl, hJ3, hk3⟩ | ⟨rfl, hJx3⟩)
      · gi_wp2
        go_roundw
        case rel =>
          rw [hb2.out] at hJ3 ⊢
          exact ⟨_, back k, rfl, hb3.out.1, by have := hb3.out.2; omega, show chain i = _ by rw [hx.out, hb1.out]; simp, hJ3⟩
        case measure =>
          rw [hb2.out]
          have := hb3.out.2
          simpa [intOf] using this
      · rw [hb2.out] at hJx3
        gi_wp2
        refine bodyPost_ret (results_none rfl _ _ _) rfl ?_
        exact ⟨⟨_, rfl⟩, .inr ⟨_, ⟨chain (back k), by rw [hx.out, hb1.out]; simp⟩, hJx3⟩⟩

set_option maxHeartbeats 1000000 in
theorem back_in (n : Nat) (i : Int) (w : World) :
    CallsIn Fence.wide n Try.prog 12 #[.int .i64 i] w fun e w' => e = .returned (.func (.func 14) #[] #[.pointer (some ⟨w.heap.size, 0, none⟩)]) ∧ w' = w.alloc (.cells #[.int .i64 i] 3) := by
  refine callsIn_of_wp Try.func12 rfl trivial ?_ rfl
  simp only [Try.ntmps12, List.size_toArray, List.length_cons, List.length_nil, Nat.reduceAdd, Nat.reduceSub, Array.replicate_succ, Array.replicate_zero, List.push_toArray, List.append_toArray, List.nil_append, List.cons_append]
  gi_wp2
  go_ret
  exact ⟨rfl, rfl⟩

theorem back_stops (n : Nat) (hn : 1 ≤ n) (Bn n₀ i : Nat) (h1 : 1 ≤ i) (h2 : i ≤ 1099511627776) (w : World) (hBn : Bn < w.heap.size) (hc : w.cell? ⟨Bn, 0, none⟩ = some (.int .i64 i)) :
    SeqStopsK Fence.wide n Try.prog 14 #[.pointer (some ⟨Bn, 0, none⟩)] (fun x : Int => #[Value.int .i64 x]) (Below n₀) (fun ys => ys = chain i) (fun pre => pre <+: chain i) (chain i).length w := fun l J Jx W hW _ _ hY h0 =>
  back1_in n hn l Bn n₀ i h1 h2 J Jx hY W ((hW.cell (p := ⟨Bn, 0, none⟩) hBn).trans hc) h0

end Go.Proofs.Ytldhkfknjgnklaa
