/-
  The document's New of a trail of none.
-/
import Derived.Test.YtbfaigeopkonbaaWPlay
namespace Go.Proofs.Ytbfaigeopkonbaa
open Go.RowKit Go.Maps
set_option linter.unusedVariables false

theorem load55 (w : World) (r : Nat) (x y z : Value) (hx : w.cell? ⟨r, 0, none⟩ = some x) (hy : w.cell? ⟨r, 1, none⟩ = some y) (hz : w.cell? ⟨r, 2, none⟩ = some z) : (loadVar 55 ⟨r, 0, none⟩).run Try.prog w = .ok (.agg #[x, y, z]) w := by
  simp [go_sem, loadVar, hx, hy, hz]

theorem results55 {fn : Func} {p : Tmp} (h : fn.results = #[.cell p 55]) (tmps : Array Value) (w : World) (r : Nat) (x y z : Value) (ht : tmps.getD p undef = .pointer (some ⟨r, 0, none⟩)) (hx : w.cell? ⟨r, 0, none⟩ = some x) (hy : w.cell? ⟨r, 1, none⟩ = some y) (hz : w.cell? ⟨r, 2, none⟩ = some z) :
    (results fn tmps).run Try.prog w = .ok (.agg #[x, y, z]) w := by
  rw [Array.getD_eq_getD_getElem?] at ht
  simp only [results, h]
  simp [ht, load55 w r x y z hx hy hz, asAddr]

theorem field55 (x y z : Value) (w : World) : (Instr.field 55 (.agg #[x, y, z]) 0).run Try.prog w = .ok x w := by kernel_rfl

theorem rnew10_neg (w : World) : Calls Try.prog 22 #[.int .i64 (-1)] w fun e w' => e = .returned (.agg #[.int .i64 0, .slice none 0 0, .int .i64 0]) ∧ Hid (Below w.heap.size w w') := by
  go_enter Try.func22, Try.ntmps22
  go_wp2
  refine bodyPost_ret (results55 rfl _ _ w.heap.size (.int .i64 0) (.slice none 0 0) (.int .i64 0) rfl (by simp [go_sem]) (by simp [go_sem]) (by simp [go_sem])) rfl ?_
  exact ⟨rfl, hid (by go_grown)⟩

end Go.Proofs.Ytbfaigeopkonbaa
