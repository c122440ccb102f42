/-
  What a walk is told of lists that came in.
-/
import Derived.Test.YtimfjoinjfecjaaGreatP45
import Derived.ChangeOld
import Derived.OpenShut
import Derived.Deep.Matrix
import Derived.Deep.Grids

namespace Go.Proofs.YtimfjoinjfecjaaGreat
open Go.RowKit Go.ChangeShapes Go.WideShapes Go.ChangeAt
set_option linter.unusedVariables false

/-- Whatever list of clauses came in. -/
theorem grid_of {H : Type} {enc : TypeId × Value → H} {W : World} {base : Nat} {held : Bool} {fuel : Nat} {a : Option Addr} {len cap : Nat} {x : DataW H × List MemPlace}
    (h : DataW.trod enc Tryz.prog W base (fun _ => true) held fuel 22 (Value.slice a len cap).cells.toList = some x) : ∃ xss, U.Grid W a len cap xss := by
  rcases Go.Deep.open_int_rows (k := .i64) Tryz.underlying22 Tryz.underlying42 Tryz.underlying3 (by kernel_rfl) (by kernel_rfl) h with ⟨hcs, _⟩ | ⟨ad, l, c, A, L, C, Z, hcs, _, hl, hm, _, hrow⟩
  · simp [Value.cells] at hcs
    obtain ⟨rfl, rfl, rfl⟩ := hcs
    exact ⟨[], rfl, Nat.le_refl _, by unfold maxLen; omega, fun _ => rfl, fun h => by omega⟩
  · simp [Value.cells] at hcs
    obtain ⟨rfl, rfl, rfl⟩ := hcs
    refine ⟨(List.range len).map fun r => (Z r).take (L r), by simp, hl, hm, fun h => by simp at h, fun h0 => ?_⟩
    obtain ⟨b, off, spot⟩ := ad
    have hsp : spot = none := by
      have := (hrow 0 (by omega)).1
      simpa [Addr.add] using World.cell?_spot this
    subst hsp
    refine ⟨b, off, rfl, fun j hj => ?_⟩
    obtain ⟨h1, h2, h3, h4, h5, h6, h7⟩ := hrow j (by omega)
    refine ⟨A j, L j, C j, ?_, ?_⟩
    · by_cases hz : j = 0
      · subst hz; simpa [Addr.add] using h1
      · simpa [Addr.add, hz] using h1
    · have e : ((List.range len).map fun r => (Z r).take (L r)).getD j [] = (Z j).take (L j) := by simp [hj]
      rw [e]
      refine ⟨by simp; omega, h2, h3, h6, fun y hy => U.wf_i64 (h5 y (List.mem_of_mem_take hy)), fun hp => ?_⟩
      cases ha : A j with
      | none => have := h6 ha; omega
      | some a' =>
        obtain ⟨_, hc⟩ := h7 a' ha
        obtain ⟨b', off', spot'⟩ := a'
        have hsp' : spot' = none := by
          have := hc 0 (by omega)
          simpa [Addr.add] using World.cell?_spot this
        subst hsp'
        refine ⟨b', off', rfl, fun i hi => ?_⟩
        have hi2 := hc i (by omega)
        have e2 : ((Z j).take (L j)).getD i 0 = (Z j).getD i 0 := by simp [hi]
        rw [e2]
        by_cases hz : i = 0
        · subst hz; simpa [Addr.add] using hi2
        · simpa [Addr.add, hz] using hi2

end Go.Proofs.YtimfjoinjfecjaaGreat
