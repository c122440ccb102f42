/-
  numbers: the numbers of the first places, one behind the other.
-/
import Derived.Test.YtldhkfknjgnklaaTerm
import Derived.Test.YtldhkfknjgnklaaRead
namespace Go.Proofs.Ytldhkfknjgnklaa
open Go.RowKit Go.Shelf
set_option linter.unusedVariables false

attribute [local go_sem] Oper.semAt_some

/-- What the cell held it holds. -/
def Keep (Bn : Nat) (A B : World) : Prop := B.cell? ⟨Bn, 0, none⟩ = A.cell? ⟨Bn, 0, none⟩

theorem below_grown {w w' : World} (b : Below w.heap.size w w') : w.grownBy w' none := ⟨b.os, b.tape, b.output, b.size, fun k hk _ => b.block k hk⟩

theorem rowN_pre {q N : Nat} (h : q < N) : rowN q ++ [termF ((q : Int) + 1)] <+: rowN N := by
  have : N = (q + 1) + (N - (q + 1)) := by omega
  rw [← rowN_succ, this]
  generalize N - (q + 1) = d
  clear this h
  induction d with
  | zero => exact ⟨[], by simp⟩
  | succ d ih =>
    obtain ⟨t, e⟩ := ih
    refine ⟨t ++ [termF (((q + 1 + d : Nat) : Int) + 1)], ?_⟩
    rw [← List.append_assoc, e, ← rowN_succ]; rfl

set_option maxRecDepth 100000 in
set_option maxHeartbeats 1000000 in
theorem numbers1_in (n : Nat) (hn : 1 ≤ n) (l Bn N : Nat) (m : Int) (hm : m ≤ 100000) (hN : m.toNat = N) (J Jx : List Int → World → Prop)
    (hY : ∀ pre x W, J pre W → pre.length < N → YieldAt Fence.wide (n - 1) Try.prog l #[.int .i64 x] W fun e W' =>
      (e = .returned (.bool true) ∧ J (pre ++ [x]) W' ∧ Keep Bn W W') ∨ (e = .returned (.bool false) ∧ Jx (pre ++ [x]) W'))
    (W : World) (hJ : AbidesFrom W.heap.size J) (hBn : W.cell? ⟨Bn, 0, none⟩ = some (.int .i64 m)) (h0 : J [] W) :
    CallsIn Fence.wide n Try.prog 17 #[.func (.yield l) #[] #[], .pointer (some ⟨Bn, 0, none⟩)] W fun e W' => (∃ v, e = .returned v) ∧
      ((∃ ys, ys = rowN N ∧ J ys W') ∨ (∃ pre, pre <+: rowN N ∧ Jx pre W')) := by
  refine callsIn_of_wp Try.func17 rfl trivial ?_ rfl
  simp only [Try.ntmps17, List.size_toArray, List.length_cons, List.length_nil, Nat.reduceAdd, Nat.reduceSub, Array.replicate_succ, Array.replicate_zero, List.push_toArray, List.append_toArray, List.nil_append, List.cons_append]
  gi_wp2
  gi_loopw [3] (fun p wr => ∃ q : Nat, p = .int .i64 ((q : Int) + 1) ∧ q ≤ N ∧ wr.cell? ⟨Bn, 0, none⟩ = some (.int .i64 m) ∧ J (rowN q) wr)
    (fun p _ => N + 1 - (intOf p).toNat)
  case atStart =>
    exact ⟨0, rfl, Nat.zero_le _, hBn, h0⟩
  case round =>
    obtain ⟨q, rfl, hq, hc, hJs⟩ := hrel
    clear hBn h0
    by_cases hlt : q < N
    · have h1 : (q : Int) + 1 ≤ m := by omega
      have hl := rowN_len q
      gi_wp2_with (refine ⟨trivial, ?_⟩; gi_at_call 6; refine (callsIn_wide.2 (term_any _ _)).mono ?_; rintro e w2 ⟨rfl, hb⟩; have hc2 := (hb.cell (p := ⟨Bn, 0, none⟩) (cell_lt hc)).trans hc; have hJ2 := hJ _ _ _ none hJs (below_grown hb) (fun r e => by cases e); obtain ⟨fn, tmps, assign, body, hy, hR⟩ := hY (rowN q) (termF ((q : Int) + 1)) w2 hJ2 (by omega))
      refine hR.mono ?_
      rintro e W3 (⟨rfl, hJ3, hk3⟩ | ⟨rfl, hJx3⟩)
      · gi_wp2
        go_roundw
        case rel => exact ⟨q + 1, by push_cast; rfl, by omega, Eq.trans hk3 hc2, by rw [rowN_succ]; exact hJ3⟩
        case measure => simp only [intOf]; omega
      · gi_wp2
        refine bodyPost_ret (results_none rfl _ _ _) rfl ?_
        exact ⟨⟨_, rfl⟩, .inr ⟨_, rowN_pre hlt, hJx3⟩⟩
    · have h1 : ¬ (q : Int) + 1 ≤ m := by omega
      obtain rfl : q = N := by omega
      gi_wp2
      go_end0
      exact ⟨⟨_, rfl⟩, .inl hJs⟩

set_option maxHeartbeats 1000000 in
theorem numbers_in (n : Nat) (i : Int) (w : World) :
    CallsIn Fence.wide n Try.prog 13 #[.int .i64 i] w fun e w' => e = .returned (.func (.func 17) #[] #[.pointer (some ⟨w.heap.size, 0, none⟩)]) ∧ w' = w.alloc (.cells #[.int .i64 i] 3) := by
  refine callsIn_of_wp Try.func13 rfl trivial ?_ rfl
  simp only [Try.ntmps13, List.size_toArray, List.length_cons, List.length_nil, Nat.reduceAdd, Nat.reduceSub, Array.replicate_succ, Array.replicate_zero, List.push_toArray, List.append_toArray, List.nil_append, List.cons_append]
  gi_wp2
  go_ret
  exact ⟨rfl, rfl⟩

theorem numbers_stops (n : Nat) (hn : 1 ≤ n) (Bn N : Nat) (m : Int) (hm : m ≤ 100000) (hN : m.toNat = N) (w : World) (hBn : Bn < w.heap.size) (hc : w.cell? ⟨Bn, 0, none⟩ = some (.int .i64 m)) :
    SeqStopsK Fence.wide n Try.prog 17 #[.pointer (some ⟨Bn, 0, none⟩)] (fun x : Int => #[Value.int .i64 x]) (Keep Bn) (fun ys => ys = rowN N) (fun pre => pre <+: rowN N) N w := fun l J Jx W hW hJ _ hY h0 =>
  numbers1_in n hn l Bn N m hm hN J Jx hY W hJ ((hW.cell (p := ⟨Bn, 0, none⟩) hBn).trans hc) h0

end Go.Proofs.Ytldhkfknjgnklaa
