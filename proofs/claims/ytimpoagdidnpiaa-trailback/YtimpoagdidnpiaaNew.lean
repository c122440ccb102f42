/-
  New: a trail of which none is assigned.
-/
import Derived.Test.YtimpoagdidnpiaaDecide
namespace Go.Proofs.Ytimpoagdidnpiaa
open Go.RowKit
set_option linter.unusedVariables false

theorem Try.info55 : (Try.prog.info? 55).map (fun i => (i.zero, i.size, i.bytes)) = some (some (.agg #[.int .i64 0, .int .i64 0, .int .i64 0]), 3, 24) := by kernel_rfl

def cntF (n : Int) : Nat := if n < 0 ∨ 1048576 < n then 0 else n.toNat
def zf : Nat → Fc := fun _ => ⟨0, 0, 0⟩
def zcells (m : Nat) : Array Value := madeCells #[.int .i64 0, .int .i64 0, .int .i64 0] (m * 3)

theorem make55 (n : Nat) (hn : n ≤ 1048576) (w : World) : (Instr.makeSlice 46 (.int .i64 n) (.int .i64 n)).run Try.prog w = .ok (.slice (some ⟨w.heap.size, 0, none⟩) n n) (w.alloc (.cells (zcells n) 55)) := by
  obtain ⟨i0, hi, hz0, hz1, hz2⟩ := info_parts Try.info55
  have := run_make (P := Try.prog) w 46 55 i0 (.agg #[.int .i64 0, .int .i64 0, .int .i64 0]) Try.underlying46 hi hz0 .i64 .i64 n n (by omega) (Int.le_refl _) (by rw [hz2]; omega) (by omega)
  rw [this, hz1]
  simp [Value.cells, zcells]

theorem zcells_at {m j : Nat} (h : j < m * 3) : (zcells m)[j]? = some (.int .i64 0) := by
  have e : j % 3 = 0 ∨ j % 3 = 1 ∨ j % 3 = 2 := by omega
  simp only [zcells, madeCells, Array.getElem?_map, Array.getElem?_range, if_pos h]
  rcases e with e | e | e <;> simp [e]

theorem zfacts {w : World} {b m : Nat} (h : w.heap[b]? = some (.cells (zcells m) 55 (0, 0))) : Facts w b m zf :=
  ⟨_, h, by simp [zcells, size_madeCells], fun i hi => ⟨zcells_at (by omega), zcells_at (by omega), zcells_at (by omega)⟩⟩

theorem zgood (m : Nat) : Good m [] zf [] :=
  ⟨by simp, by simp, fun _ _ _ => rfl, by simp, by simp, by simp, by simp⟩

def noV : V := ⟨.slice none 0 0, .slice none 0 0⟩
def NewEnd (n : Int) (w : World) (OB : Nat) (w' : World) : Prop := ∃ k : K, k.OB = OB ∧ k.B = w.heap.size ∧ k.n = cntF n ∧ Trl k w' [] 0 noV ∧ Below w.heap.size w w'

theorem new_end {n : Int} {m : Nat} (w : World) (hm : cntF n = m) (hle : m ≤ 1048576) :
    NewEnd n w (w.heap.size + 1) ((w.alloc (.cells (zcells m) 55)).alloc (.cells #[.slice (some ⟨w.heap.size, 0, none⟩) m m, .slice none 0 0, .slice none 0 0] 48)) := by
  have e1 : (w.alloc (.cells (zcells m) 55)).heap.size = w.heap.size + 1 := by simp
  have h2 := new_same (w.alloc (.cells (zcells m) 55)) (.cells #[.slice (some ⟨w.heap.size, 0, none⟩) m m, .slice none 0 0, .slice none 0 0] 48)
  rw [e1] at h2
  have h1 : ((w.alloc (.cells (zcells m) 55)).alloc (.cells #[.slice (some ⟨w.heap.size, 0, none⟩) m m, .slice none 0 0, .slice none 0 0] 48)).heap[w.heap.size]? = some (.cells (zcells m) 55 (0, 0)) := by
    rw [(grown_new (w.alloc (.cells (zcells m) 55)) _ none).block _ (by rw [e1]; omega) (by simp)]
    exact new_same w _
  refine ⟨⟨w.heap.size, w.heap.size, w.heap.size + 1, m⟩, rfl, rfl, hm.symm, ⟨zf, [], ⟨Nat.le_refl _, by show w.heap.size < w.heap.size + 1; omega, hle, h2, zfacts h1, LRow.nil _ _, World.ownsRow_nil _ _ _ _, ?_⟩, zgood m, rfl⟩, by go_grown⟩
  intro j hj
  simp [noV, Value.ownBlock] at hj

set_option maxHeartbeats 1000000 in
theorem new_any (n : Int) (w : World) : Calls Try.prog 7 #[.int .i64 n] w fun e w' => ∃ OB, e = .returned (.pointer (some ⟨OB, 0, none⟩)) ∧ NewEnd n w OB w' := by
  by_cases h0 : n < 0
  · have HC : Hid (cntF n = 0) := hid (by simp [cntF, h0])
    have hmk := make55 0 (by omega)
    simp only [Int.natCast_zero] at hmk
    go_enter Try.func7, Try.ntmps7
    go_wp2
    go_ret
    exact ⟨_, rfl, new_end w HC.out (by omega)⟩
  · by_cases h1 : 1048576 < n
    · have HC : Hid (cntF n = 0) := hid (by simp [cntF, h1])
      have hmk := make55 0 (by omega)
      simp only [Int.natCast_zero] at hmk
      go_enter Try.func7, Try.ntmps7
      go_wp2
      go_ret
      exact ⟨_, rfl, new_end w HC.out (by omega)⟩
    · obtain ⟨m, rfl⟩ : ∃ m : Nat, n = m := ⟨n.toNat, by omega⟩
      have HC : Hid (cntF m = m) := hid (by simp only [cntF]; rw [if_neg (by omega)]; omega)
      have hmk := make55 m (by omega)
      have h1' : m ≤ 1048576 := by omega
      have h1d : decide ((1048576 : Int) < m) = false := by simp; omega
      go_enter Try.func7, Try.ntmps7
      go_wp2
      go_ret
      exact ⟨_, rfl, new_end w HC.out h1'⟩

theorem new_is (n : Int) (w : World) : Calls Try.prog 7 #[.int .i64 n] w fun e w' => ∃ k : K, e = .returned (.pointer (some ⟨k.OB, 0, none⟩)) ∧ Hid (Trl k w' [] 0 noV) ∧ Hid (k.n = cntF n) ∧ Hid (k.B = w.heap.size) ∧ Hid (Below w.heap.size w w') := by
  refine (new_any n w).mono fun e w' h => ?_
  obtain ⟨OB, rfl, k, rfl, h1, h2, h3, h4⟩ := h
  exact ⟨k, rfl, h3, h2, h1, h4⟩

theorem cntF_le (n : Int) : cntF n ≤ 1048576 := by unfold cntF; split <;> omega

end Go.Proofs.Ytimpoagdidnpiaa
