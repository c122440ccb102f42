/-
  Terms, and the document's, by the same deeds.
-/
import Derived.Test.YtefielnmlekhaaaDoorMeant
import Derived.Test.YtefielnmlekhaaaDoorFrame
import Derived.Test.YtefielnmlekhaaaDoorMade
import Derived.Test.YtefielnmlekhaaaDoorMkC
import Derived.Test.YtefielnmlekhaaaDoorVar
namespace Go.Proofs.YtefielnmlekhaaaDoor
open Go.RowKit Go.Maps
set_option linter.unusedVariables false
set_option maxRecDepth 100000

/-! ### a region that draws its order, only reads, and calls what lays blocks -/
/-- A world that is w0, and more. -/
structure BW (w0 : World) where
  w : World
  be : Below w0.heap.size w0 w

theorem wp_region_below {P : Program} {id : Nat} {Q : Exit → Act → World → Prop} {a : Act} {w : World} {l : List Oper} (hm : P.follows .mixedOrders = true) (hB : Region.lexB .any l.toArray = true)
    (h : wpQuiet P l.toArray (fun w' => ∃ p : BW w, w' = p.w) (fun a' => ∀ w', (∃ p : BW w, w' = p.w) → Q .normal a' w') l a) : (Code.region id l.toArray true).wp P Q a w :=
  wp_region_quiet (C := fun w' => ∃ p : BW w, w' = p.w) hm hB ⟨⟨w.drew, below_drew w⟩, rfl⟩ (by simpa using h)

theorem BW.cell {w0 : World} {a : Addr} {v : Value} (h : w0.cell? a = some v) (p : BW w0) : p.w.cell? a = some v := (p.be.cell (cell_lt h)).trans h

theorem bw_of {P : Program} {f : FuncId} {args : Array Value} {w0 : World} {p : BW w0} {v : Value} (h : Calls P f args p.w fun e w' => e = .returned v ∧ Hid (Below p.w.heap.size p.w w')) : Calls P f args p.w fun e w'' => e = .returned v ∧ ∃ p' : BW w0, w'' = p'.w :=
  h.mono fun _ w' ⟨he, hq⟩ => ⟨he, ⟨w', Below.next p.be hq.out⟩, rfl⟩
theorem bw_same {P : Program} {f : FuncId} {args : Array Value} {w0 : World} {p : BW w0} {v : Value} (h : Calls P f args p.w fun e w' => e = .returned v ∧ w' = p.w) : Calls P f args p.w fun e w'' => e = .returned v ∧ ∃ p' : BW w0, w'' = p'.w :=
  h.mono fun _ w' ⟨he, hq⟩ => ⟨he, p, hq⟩

/-! ### the document's New -/
theorem rnew_any (n : Int) (w : World) : Calls Tryd.prog 16 #[.int .i64 n] w fun e w' => e = .returned (.agg #[.slice none 0 0, .int .i64 (cntF n)]) ∧ Hid (Below w.heap.size w w') := by
  by_cases h0 : n < 0
  · have HC : Hid (cntF n = 0) := hid (by simp [cntF, h0])
    go_enter Tryd.func16, Tryd.ntmps16
    go_wp2
    refine bodyPost_ret (results_box rfl _ _ w.heap.size _ _ rfl (by simp [go_sem]; rfl) (by simp [go_sem]; rfl)) rfl ?_
    exact ⟨by rw [HC.out]; rfl, hid (by go_grown)⟩
  · by_cases h1 : 65536 < n
    · have HC : Hid (cntF n = 0) := hid (by simp [cntF, h1])
      go_enter Tryd.func16, Tryd.ntmps16
      go_wp2
      refine bodyPost_ret (results_box rfl _ _ w.heap.size _ _ rfl (by simp [go_sem]; rfl) (by simp [go_sem]; rfl)) rfl ?_
      exact ⟨by rw [HC.out]; rfl, hid (by go_grown)⟩
    · have HC : Hid ((cntF n : Int) = n) := hid (by simp [cntF, h0, h1]; omega)
      go_enter Tryd.func16, Tryd.ntmps16
      go_wp2
      refine bodyPost_ret (results_box rfl _ _ w.heap.size _ _ rfl (by simp [go_sem]; rfl) (by simp [go_sem]; rfl)) rfl ?_
      exact ⟨by rw [HC.out], hid (by go_grown)⟩

end Go.Proofs.YtefielnmlekhaaaDoor
