/-
  New: an order of which none waits.
-/
import Derived.Test.YtbddhjohlpblaaaHalve
namespace Go.Proofs.Ytbddhjohlpblaaa
open Go.RowKit
set_option linter.unusedVariables false

def cntF (n : Int) : Nat := if n < 0 ∨ 1048576 < n then 0 else n.toNat
def zeros (m : Nat) : List Int := List.replicate m 0
def nones (m : Nat) : List Bool := List.replicate m false

theorem fn_zeros (m u : Nat) : fn (zeros m) u = 0 := by simp [fn, zeros, List.getElem?_replicate]; split <;> rfl
theorem wt_nones (m : Nat) (u : Int) : wt (nones m) u = false := by simp [wt, nones, List.getElem?_replicate]; split <;> rfl

theorem made_ints (n : Nat) : madeCells #[.int .i64 0] n = ((zeros n).map (Value.int .i64)).toArray := by
  apply Array.toList_inj.1
  rw [toList_madeCells_one]
  simp [zeros]

theorem make3 (n : Nat) (hn : n ≤ 1048576) (w : World) : (Instr.makeSlice 26 (.int .i64 n) (.int .i64 n)).run Try.prog w = .ok (.slice (some ⟨w.heap.size, 0, none⟩) n n) (w.alloc (.cells ((zeros n).map (Value.int .i64)).toArray 3)) := by
  obtain ⟨i0, hi, hz0, hz1, hz2⟩ := info_parts Try.info3
  have := run_make (P := Try.prog) w 26 3 i0 (.int .i64 0) Try.underlying26 hi hz0 .i64 .i64 n n (by omega) (Int.le_refl _) (by rw [hz2]; omega) (by omega)
  rw [this, hz1, ← made_ints]
  simp [Value.cells]

theorem new_good (m : Nat) : Good m (zeros m) (nones m) [] := by
  refine ⟨by simp [nones], fun v hv => ?_, by simp [nones, List.count_replicate], fun v hv => by rw [fn_zeros]; omega⟩
  rw [wt_nones]
  constructor
  · intro h; cases h
  · rintro ⟨i, hi, _⟩; simp at hi

theorem new_ord {k : K} {w : World} (lo1 : k.B ≤ k.AB) (lo2 : k.B ≤ k.PB) (ne : k.AB ≠ k.PB) (lt1 : k.AB < k.OB) (lt2 : k.PB < k.OB) (hn : k.n ≤ 1048576)
    (cl : w.heap[k.OB]? = some (.cells #[.slice (some ⟨k.AB, 0, none⟩) k.n k.n, .slice none 0 0, .slice (some ⟨k.PB, 0, none⟩) k.n k.n] 46 (0, 0)))
    (ac' : w.heap[k.AB]? = some (.cells ((zeros k.n).map (Value.int .i64)).toArray 3 (0, 0))) (pl : w.heap[k.PB]? = some (.cells ((zeros k.n).map (Value.int .i64)).toArray 3 (0, 0))) : Ord k w (zeros k.n) (nones k.n) (.slice none 0 0) := by
  refine ⟨[], ⟨zeros k.n, ⟨lo1, lo2, ne, lt1, lt2, hn, by simp [zeros], by simp [zeros], cl, ac', pl, World.ownsRow_nil _ _ _ _⟩, ?_⟩, ?_, new_good _⟩
  · refine ⟨fun i hi => by simp at hi, fun v hv h => absurd (fn_zeros _ _) h⟩
  · intro c c0 cm; simp at cm

def NewEnd (n : Int) (w : World) (OB : Nat) (w' : World) : Prop := ∃ k : K, k.OB = OB ∧ k.B = w.heap.size ∧ k.n = cntF n ∧ Ord k w' (zeros k.n) (nones k.n) (.slice none 0 0) ∧ Below w.heap.size w w'

theorem push3 (h : Array Obj) (x y z : Obj) : (((h.push x).push y).push z)[h.size]? = some x ∧ (((h.push x).push y).push z)[h.size + 1]? = some y ∧ (((h.push x).push y).push z)[h.size + 1 + 1]? = some z := by
  refine ⟨?_, ?_, ?_⟩
  · simp only [Array.getElem?_push, Array.size_push]
    rw [if_neg (by omega), if_neg (by omega), if_pos trivial]
  · simp only [Array.getElem?_push, Array.size_push]
    rw [if_neg (by omega), if_pos trivial]
  · simp only [Array.getElem?_push, Array.size_push]
    rw [if_pos trivial]

theorem new_end {n : Int} {m : Nat} (w : World) (hm : cntF n = m) (hle : m ≤ 1048576) (a b : Nat) (hab : (a = w.heap.size ∧ b = w.heap.size + 1) ∨ (a = w.heap.size + 1 ∧ b = w.heap.size)) :
    NewEnd n w (w.heap.size + 1 + 1) (((w.alloc (.cells ((zeros m).map (Value.int .i64)).toArray 3)).alloc (.cells ((zeros m).map (Value.int .i64)).toArray 3)).alloc (.cells #[.slice (some ⟨a, 0, none⟩) m m, .slice none 0 0, .slice (some ⟨b, 0, none⟩) m m] 46)).drew := by
  have hb : Below w.heap.size w (((w.alloc (.cells ((zeros m).map (Value.int .i64)).toArray 3)).alloc (.cells ((zeros m).map (Value.int .i64)).toArray 3)).alloc (.cells #[.slice (some ⟨a, 0, none⟩) m m, .slice none 0 0, .slice (some ⟨b, 0, none⟩) m m] 46)).drew := by go_grown
  obtain ⟨e0, e1, e2⟩ := push3 w.heap (.cells ((zeros m).map (Value.int .i64)).toArray 3) (.cells ((zeros m).map (Value.int .i64)).toArray 3) (.cells #[.slice (some ⟨a, 0, none⟩) m m, .slice none 0 0, .slice (some ⟨b, 0, none⟩) m m] 46)
  refine ⟨⟨w.heap.size, a, b, w.heap.size + 1 + 1, m⟩, rfl, rfl, hm.symm, new_ord (by show w.heap.size ≤ a; omega) (by show w.heap.size ≤ b; omega) (by show a ≠ b; omega) (by show a < w.heap.size + 1 + 1; omega) (by show b < w.heap.size + 1 + 1; omega) hle e2 ?_ ?_, hb⟩
  · rcases hab with ⟨rfl, rfl⟩ | ⟨rfl, rfl⟩
    · exact e0
    · exact e1
  · rcases hab with ⟨rfl, rfl⟩ | ⟨rfl, rfl⟩
    · exact e1
    · exact e0

set_option maxHeartbeats 1000000 in
theorem new_any (n : Int) (w : World) : Calls Try.prog 7 #[.int .i64 n] w fun e w' => ∃ OB, e = .returned (.pointer (some ⟨OB, 0, none⟩)) ∧ NewEnd n w OB w' := by
  by_cases h0 : n < 0
  · have HC : Hid (cntF n = 0) := hid (by simp [cntF, h0])
    have hmk := make3 0 (by omega)
    simp only [Int.natCast_zero] at hmk
    go_enter Try.func7, Try.ntmps7
    go_wp2
    go_region
    all_goals go_wp2
    all_goals go_ret
    · exact ⟨_, rfl, new_end w HC.out (by omega) _ _ (.inl ⟨rfl, rfl⟩)⟩
    · exact ⟨_, rfl, new_end w HC.out (by omega) _ _ (.inr ⟨rfl, rfl⟩)⟩
  · by_cases h1 : 1048576 < n
    · have HC : Hid (cntF n = 0) := hid (by simp [cntF, h1])
      have hmk := make3 0 (by omega)
      simp only [Int.natCast_zero] at hmk
      go_enter Try.func7, Try.ntmps7
      go_wp2
      go_region
      all_goals go_wp2
      all_goals go_ret
      · exact ⟨_, rfl, new_end w HC.out (by omega) _ _ (.inl ⟨rfl, rfl⟩)⟩
      · exact ⟨_, rfl, new_end w HC.out (by omega) _ _ (.inr ⟨rfl, rfl⟩)⟩
    · obtain ⟨m, rfl⟩ : ∃ m : Nat, n = m := ⟨n.toNat, by omega⟩
      have HC : Hid (cntF m = m) := hid (by simp only [cntF]; rw [if_neg (by omega)]; omega)
      have hmk := make3 m (by omega)
      have h1' : m ≤ 1048576 := by omega
      have h1d : decide ((1048576 : Int) < m) = false := by simp; omega
      go_enter Try.func7, Try.ntmps7
      go_wp2
      go_region
      all_goals go_wp2
      all_goals go_ret
      · exact ⟨_, rfl, new_end w HC.out h1' _ _ (.inl ⟨rfl, rfl⟩)⟩
      · exact ⟨_, rfl, new_end w HC.out h1' _ _ (.inr ⟨rfl, rfl⟩)⟩

end Go.Proofs.Ytbddhjohlpblaaa
