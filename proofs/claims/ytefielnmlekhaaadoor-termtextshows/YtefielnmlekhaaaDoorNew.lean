/-
  New: a dag of no terms.
-/
import Derived.Test.YtefielnmlekhaaaDoorNode
namespace Go.Proofs.YtefielnmlekhaaaDoor
open Go.RowKit Go.Maps
set_option linter.unusedVariables false

def cntF (n : Int) : Nat := if n < 0 ∨ 65536 < n then 0 else n.toNat

theorem dagC_ne (M : Nat) (nv : Value) (mo : Option Nat) (ws : List Int) : ¬ dagC M nv mo ws = #[] := by
  intro h
  have := congrArg Array.size h
  simp [dagC] at this
theorem dagC_size (M : Nat) (nv : Value) (mo : Option Nat) (ws : List Int) : (dagC M nv mo ws).size = ws.length + 3 := by simp [dagC]
theorem dagC_set0 (M m : Nat) (nv : Value) (mo : Option Nat) (ws : List Int) : (dagC M nv mo ws).setIfInBounds 0 (.int .i64 m) = dagC m nv mo ws := by
  apply Array.toList_inj.1; simp [dagC]

theorem zero59' (w : World) : (zeroValue 68).run Tryd.prog w = .ok (.agg (dagC 0 (.slice none 0 0) none (wids []))) w := by kernel_rfl

theorem zero59 : ∃ zs : Array Value, zs = dagC 0 (.slice none 0 0) none (wids []) ∧ ¬ zs = #[] ∧ zs.size = 259 ∧ ∀ w, (zeroValue 68).run Tryd.prog w = .ok (.agg zs) w :=
  ⟨_, rfl, dagC_ne _ _ _ _, by rw [dagC_size, wids_len], zero59'⟩

def NewEnd (n : Int) (w : World) (OB : Nat) (w' : World) : Prop := OB = w.heap.size ∧ Dg ⟨w.heap.size, w.heap.size, cntF n⟩ w' [] (fun j => j = w.heap.size) ∧ Below w.heap.size w w'

theorem new_end {n : Int} {m : Nat} (w : World) (hm : cntF n = m) (hle : m ≤ 65536) {zs : Array Value} (hz : zs = dagC 0 (.slice none 0 0) none (wids [])) :
    NewEnd n w w.heap.size (w.alloc (.cells (zs.setIfInBounds 0 (.int .i64 m)) 68)) := by
  have e : zs.setIfInBounds 0 (.int .i64 m) = dagC m (.slice none 0 0) none (wids []) := by
    rw [hz]; exact dagC_set0 _ _ _ _ _
  rw [e]
  refine ⟨rfl, ⟨Gd.nil, .slice none 0 0, none, ⟨wids_len _, ?_, by show cntF n ≤ 65536; omega, Nat.zero_le _, World.ownsRow_nil _ _ _ _, .inl ⟨rfl, rfl⟩, rfl, fun j hj => (by simp [Value.ownBlock] at hj), fun j hj => (by cases hj), fun j hj => ?_⟩⟩, by go_grown⟩
  · show (w.alloc (.cells (dagC m (.slice none 0 0) none (wids [])) 68)).heap[w.heap.size]? = some (Obj.cells (dagC (cntF n) (.slice none 0 0) none (wids [])) 68 (0, 0))
    rw [hm]
    exact new_same w _
  · cases hj
    exact ⟨Nat.le_refl _, by simp⟩

theorem new_any (n : Int) (w : World) : Calls Tryd.prog 11 #[.int .i64 n] w fun e w' => ∃ OB, e = .returned (.pointer (some ⟨OB, 0, none⟩)) ∧ Hid (NewEnd n w OB w') := by
  obtain ⟨zs, hz, hne, hs, hzv⟩ := zero59
  have HZ := hid hz
  clear hz
  by_cases h0 : n < 0
  · have HC : Hid (cntF n = 0) := hid (by simp [cntF, h0])
    go_enter Tryd.func11, Tryd.ntmps11
    go_wp2
    go_ret
    exact ⟨_, rfl, new_end w HC.out (by omega) HZ.out⟩
  · by_cases h1 : 65536 < n
    · have HC : Hid (cntF n = 0) := hid (by simp [cntF, h1])
      go_enter Tryd.func11, Tryd.ntmps11
      go_wp2
      go_ret
      exact ⟨_, rfl, new_end w HC.out (by omega) HZ.out⟩
    · obtain ⟨m, rfl⟩ : ∃ m : Nat, n = m := ⟨n.toNat, by omega⟩
      have HC : Hid (cntF m = m) := hid (by simp only [cntF]; rw [if_neg (by omega)]; omega)
      have h1' : Hid (m ≤ 65536) := hid (by omega)
      have h1d : decide ((65536 : Int) < m) = false := by simp; omega
      clear h1
      go_enter Tryd.func11, Tryd.ntmps11
      go_wp2
      go_ret
      exact ⟨_, rfl, new_end w HC.out h1'.out HZ.out⟩

end Go.Proofs.YtefielnmlekhaaaDoor
