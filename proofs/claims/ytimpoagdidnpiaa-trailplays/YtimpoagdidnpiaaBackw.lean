/-
  slices.Backward: the numbers of a list, the last one first.
-/
import Derived.Test.YtimpoagdidnpiaaNew
import Derived.RangeFuncBox
import Derived.RangeFuncLeaves
import Derived.RangeFuncFrom
import Derived.RangeFuncCalls
import Derived.RangeFuncNested
import Derived.Shelf.Abstract
import Derived.OwnWalkIn
import Derived.TacticsInMore
import Derived.LoopNIn
import Derived.LoopIn
namespace Go.Proofs.Ytimpoagdidnpiaa
open Go.RowKit Go.Shelf
set_option linter.unusedVariables false

attribute [local go_sem] Oper.semAt_some

/-- A place, and a literal of one of n variables. -/
abbrev Al (n : Nat) := { x : Nat × Nat // x.2 / 2 < n }

/-- What two blocks held they hold. -/
def Keep2 (A0 B0 : Nat) (A B : World) : Prop := B.heap[A0]? = A.heap[A0]? ∧ B.heap[B0]? = A.heap[B0]?

theorem keep2_t {A0 B0 : Nat} {A B C : World} (h : Keep2 A0 B0 A B) (k : Keep2 A0 B0 B C) : Keep2 A0 B0 A C := ⟨k.1.trans h.1, k.2.trans h.2⟩
theorem keep2_b {A0 B0 : Nat} {w : World} (ha : A0 < w.heap.size) (hb : B0 < w.heap.size) (W : World) (l : Nat) (o o' : Obj) (hl : w.heap.size ≤ l) (h : W.heap[l]? = some o) (a : o.isCells = false) (b : o.isWalk = false) : Keep2 A0 B0 W (W.putObj l o') :=
  ⟨(belowK_b (n₀ := w.heap.size) (w := w) (Nat.le_refl _) W l o o' hl h a b).block _ ha, (belowK_b (n₀ := w.heap.size) (w := w) (Nat.le_refl _) W l o o' hl h a b).block _ hb⟩
theorem keep2_cell {A0 B0 : Nat} {A B : World} (h : Keep2 A0 B0 A B) {o : Nat} {v : Value} : (A.cell? ⟨A0, o, none⟩ = some v → B.cell? ⟨A0, o, none⟩ = some v) ∧ (A.cell? ⟨B0, o, none⟩ = some v → B.cell? ⟨B0, o, none⟩ = some v) :=
  ⟨fun q => (World.cell?_of_block (a := ⟨A0, o, none⟩) h.1).trans q, fun q => (World.cell?_of_block (a := ⟨B0, o, none⟩) h.2).trans q⟩

set_option maxRecDepth 100000 in
set_option maxHeartbeats 2000000 in
theorem backward1_in (N : Nat) (hN : 1 ≤ N) (l Bs b off cap n len : Nat) (zs : List (Al n)) (hz : zs.length = len) (hlen : len ≤ 1048576) (J Jx : List (Al n) → World → Prop)
    (hY : ∀ pre x W, J pre W → pre.length < len → YieldAt Fence.wide (N - 1) Try.prog l #[.int .i64 (x.1.1 : Int), .int .i64 (x.1.2 : Int)] W fun e W' =>
      (e = .returned (.bool true) ∧ J (pre ++ [x]) W' ∧ Keep2 Bs b W W') ∨ (e = .returned (.bool false) ∧ Jx (pre ++ [x]) W'))
    (W : World) (hBs : W.cell? ⟨Bs, 0, none⟩ = some (.slice (some ⟨b, off, none⟩) len cap)) (hc : ∀ k (x : Al n), zs[k]? = some x → x.1.1 + k + 1 = len ∧ W.cell? ⟨b, off + x.1.1, none⟩ = some (.int .i64 (x.1.2 : Int))) (h0 : J [] W) :
    CallsIn Fence.wide N Try.prog 36 #[.func (.yield l) #[] #[], .pointer (some ⟨Bs, 0, none⟩)] W fun e W' => (∃ v, e = .returned v) ∧
      ((∃ ys, ys = zs ∧ J ys W') ∨ (∃ pre, True ∧ Jx pre W')) := by
  refine callsIn_of_wp Try.func36 rfl trivial ?_ rfl
  simp only [Try.ntmps36, List.size_toArray, List.length_cons, List.length_nil, Nat.reduceAdd, Nat.reduceSub, Array.replicate_succ, Array.replicate_zero, List.push_toArray, List.append_toArray, List.nil_append, List.cons_append]
  gi_wp2
  gi_loopw [3] (fun i wr => ∃ (k : Nat) (c : Int), k ≤ len ∧ i = .int .i64 c ∧ Hid (c + k + 1 = len) ∧ J (zs.take k) wr ∧ Hid (Keep2 Bs b W wr))
    (fun i _ => ((intOf i) + 1).toNat)
  case atStart => exact ⟨0, (len : Int) - 1, Nat.zero_le _, rfl, hid (by omega), by simpa using h0, hid ⟨rfl, rfl⟩⟩
  case round =>
    obtain ⟨k, c, hk, rfl, hck, hJs, hkp⟩ := hrel
    by_cases hlt : k < len
    · have hzk : k < zs.length := by omega
      obtain ⟨hx1, hx2⟩ := hc k zs[k] (List.getElem?_eq_getElem hzk)
      have HT : Hid (zs.take k ++ [zs[k]] = zs.take (k + 1)) := hid (by simp)
      revert hx1 hx2 HT
      generalize zs[k] = x
      obtain ⟨⟨xi, xl⟩, hxn⟩ := x
      intro hx1 hx2 HT
      simp only at hx1 hx2
      obtain rfl : c = (xi : Int) := by have := hck.out; omega
      have hxi : (xi : Int) < len := by omega
      have hcB := (keep2_cell hkp.out).1 hBs
      have hcx := (keep2_cell hkp.out).2 hx2
      obtain ⟨fn, tmps, assign, body, hy, hR⟩ := hY _ ⟨(xi, xl), hxn⟩ wr hJs (by simp; omega)
      dsimp only at hy
      gi_wp2
      refine hR.mono ?_
      rintro e W3 (⟨rfl, hJ3, hk3⟩ | ⟨rfl, hJx3⟩)
      · gi_wp2
        go_roundw
        case rel => exact ⟨k + 1, (xi : Int) - 1, by omega, rfl, hid (by omega), by rw [← HT.out]; exact hJ3, hid (keep2_t hkp.out hk3)⟩
        case measure => simp only [intOf]; omega
      · gi_wp2
        refine bodyPost_ret (results_none rfl _ _ _) rfl ?_
        exact ⟨⟨_, rfl⟩, .inr ⟨_, trivial, hJx3⟩⟩
    · obtain rfl : k = len := by omega
      obtain rfl : c = -1 := by have := hck.out; omega
      have HT : Hid (zs.take k = zs) := hid (List.take_of_length_le (by omega))
      gi_wp2
      go_end0
      exact ⟨⟨_, rfl⟩, .inl ⟨_, rfl, by rw [← HT.out]; exact hJs⟩⟩

set_option maxHeartbeats 1000000 in
theorem backward_in (N : Nat) (a : Option Addr) (len cap : Nat) (w : World) :
    CallsIn Fence.wide N Try.prog 31 #[.slice a len cap] w fun e w' => e = .returned (.func (.func 36) #[] #[.pointer (some ⟨w.heap.size, 0, none⟩)]) ∧ w' = w.alloc (.cells #[.slice a len cap] 38) := by
  refine callsIn_of_wp Try.func31 rfl trivial ?_ rfl
  simp only [Try.ntmps31, List.size_toArray, List.length_cons, List.length_nil, Nat.reduceAdd, Nat.reduceSub, Array.replicate_succ, Array.replicate_zero, List.push_toArray, List.append_toArray, List.nil_append, List.cons_append]
  gi_wp2
  go_ret
  exact ⟨rfl, rfl⟩

theorem backward_stops (N : Nat) (hN : 1 ≤ N) (Bs b off cap n len : Nat) (zs : List (Al n)) (hz : zs.length = len) (hlen : len ≤ 1048576) (w : World) (hBl : Bs < w.heap.size) (hbl : b < w.heap.size)
    (hBs : w.cell? ⟨Bs, 0, none⟩ = some (.slice (some ⟨b, off, none⟩) len cap)) (hc : ∀ k (x : Al n), zs[k]? = some x → x.1.1 + k + 1 = len ∧ w.cell? ⟨b, off + x.1.1, none⟩ = some (.int .i64 (x.1.2 : Int))) :
    SeqStopsK Fence.wide N Try.prog 36 #[.pointer (some ⟨Bs, 0, none⟩)] (fun x : Al n => #[Value.int .i64 (x.1.1 : Int), Value.int .i64 (x.1.2 : Int)]) (Keep2 Bs b) (fun ys => ys = zs) (fun _ => True) len w := fun l J Jx W hW _ _ hY h0 =>
  backward1_in N hN l Bs b off cap n len zs hz hlen J Jx hY W ((hW.cell (p := ⟨Bs, 0, none⟩) hBl).trans hBs) (fun k x hk => ⟨(hc k x hk).1, (hW.cell (p := ⟨b, off + x.1.1, none⟩) hbl).trans (hc k x hk).2⟩) h0

end Go.Proofs.Ytimpoagdidnpiaa
