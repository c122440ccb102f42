/-
  What a walk is told of lists that came in.
-/
import Derived.Test.YtimfjoinjfecjaaGreatQ53
import Derived.ChangeOld
import Derived.OpenShut
import Derived.Deep.Matrix
import Derived.Deep.Grids
import Derived.Lib.SmallJoins

namespace Go.Proofs.YtimfjoinjfecjaaGreat
open Go.RowKit Go.ChangeShapes Go.WideShapes Go.ChangeAt
set_option linter.unusedVariables false

/-- Whatever list of clauses came in. -/
theorem grid_of {H : Type} {enc : TypeId × Value → H} {W : World} {base : Nat} {held : Bool} {fuel : Nat} {a : Option Addr} {len cap : Nat} {x : DataW H × List MemPlace}
    (h : DataW.trod enc Tryz.prog W base (fun _ => true) held fuel 22 (Value.slice a len cap).cells.toList = some x) : ∃ xss, U.Grid W a len cap xss := by
  rcases Go.Deep.open_int_rows (k := .i64) Tryz.underlying22 Tryz.underlying42 Tryz.underlying3 (by kernel_rfl) (by kernel_rfl) h with ⟨hcs, _⟩ | ⟨ad, l, c, A, L, C, Z, hcs, _, hl, hm, _, hrow⟩
  · simp [Value.cells] at hcs
    obtain ⟨rfl, rfl, rfl⟩ := hcs
    exact ⟨[], rfl, Nat.le_refl _, by unfold maxLen; omega, fun _ => rfl, fun h => by omega⟩
  · simp [Value.cells] at hcs
    obtain ⟨rfl, rfl, rfl⟩ := hcs
    refine ⟨(List.range len).map fun r => (Z r).take (L r), by simp, hl, hm, fun h => by simp at h, fun h0 => ?_⟩
    obtain ⟨b, off, spot⟩ := ad
    have hsp : spot = none := by
      have := (hrow 0 (by omega)).1
      simpa [Addr.add] using World.cell?_spot this
    subst hsp
    refine ⟨b, off, rfl, fun j hj => ?_⟩
    obtain ⟨h1, h2, h3, h4, h5, h6, h7⟩ := hrow j (by omega)
    refine ⟨A j, L j, C j, ?_, ?_⟩
    · by_cases hz : j = 0
      · subst hz; simpa [Addr.add] using h1
      · simpa [Addr.add, hz] using h1
    · have e : ((List.range len).map fun r => (Z r).take (L r)).getD j [] = (Z j).take (L j) := by simp [hj]
      rw [e]
      refine ⟨by simp; omega, h2, h3, h6, fun y hy => U.wf_i64 (h5 y (List.mem_of_mem_take hy)), fun hp => ?_⟩
      cases ha : A j with
      | none => have := h6 ha; omega
      | some a' =>
        obtain ⟨_, hc⟩ := h7 a' ha
        obtain ⟨b', off', spot'⟩ := a'
        have hsp' : spot' = none := by
          have := hc 0 (by omega)
          simpa [Addr.add] using World.cell?_spot this
        subst hsp'
        refine ⟨b', off', rfl, fun i hi => ?_⟩
        have hi2 := hc i (by omega)
        have e2 : ((Z j).take (L j)).getD i 0 = (Z j).getD i 0 := by simp [hi]
        rw [e2]
        by_cases hz : i = 0
        · subst hz; simpa [Addr.add] using hi2
        · simpa [Addr.add, hz] using hi2

/-- An array of two bytes, opened. -/
theorem open_two {H : Type} {enc : TypeId × Value → H} {P : Program} {t e : TypeId} (hu : P.underlying t = some (.array 2 e)) (he : P.underlying e = some (.int .u8)) (hC : P.cellsOf t = 2) (hE : P.cellsOf e = 1)
    {W : World} {base b0 : Nat} {sp : Nat → Bool} {r : Reach} {held : Bool} {v : Value} {d : DataW H} {p : List MemPlace} (hv : Value.okWide P W r b0 t v)
    (h : DataW.Trod enc P W base sp held t v d p) : ∃ x y : Nat, v = .agg #[.int .u8 x, .int .u8 y] ∧ x ≤ 255 ∧ y ≤ 255 := by
  simp only [Value.okWide, hu] at hv
  obtain ⟨cs, rfl, hsz, _⟩ := hv
  obtain ⟨c0, c1, rfl⟩ := Go.Joins.array2 (hsz.trans hC)
  obtain ⟨fuel, hf⟩ := h
  obtain ⟨xs, m, _, hx, _, hl, hall⟩ := DataW.trod_array hu hf
  obtain ⟨y0, hy0⟩ : ∃ y, xs[0]? = some y := ⟨xs[0]'(by omega), List.getElem?_eq_getElem (by omega)⟩
  obtain ⟨y1, hy1⟩ : ∃ y, xs[1]? = some y := ⟨xs[1]'(by omega), List.getElem?_eq_getElem (by omega)⟩
  have h0 := hall 0 (by omega)
  have h1 := hall 1 (by omega)
  rw [hE, hy0] at h0
  rw [hE, hy1] at h1
  obtain ⟨x, ex, _, wx⟩ := DataW.trod_int he h0
  obtain ⟨y, ey, _, wy⟩ := DataW.trod_int he h1
  simp [Value.cells] at ex ey
  subst ex; subst ey
  have bx := bounds_u8 wx
  have by' := bounds_u8 wy
  refine ⟨x.toNat, y.toNat, ?_, by omega, by omega⟩
  rw [Int.toNat_of_nonneg bx.1, Int.toNat_of_nonneg by'.1]

theorem cells39 : Tryz.prog.cellsOf 39 = 2 := by kernel_rfl
theorem cells5 : Tryz.prog.cellsOf 5 = 1 := by kernel_rfl

set_option maxRecDepth 100000 in
/-- Whatever two bytes came in. -/
theorem pair_of {H : Type} {enc : TypeId × Value → H} {W : World} {base b0 : Nat} {sp : Nat → Bool} {r : Reach} {held : Bool} {v : Value} {d : DataW H} {p : List MemPlace} (hv : Value.okWide Tryz.prog W r b0 39 v)
    (h : DataW.Trod enc Tryz.prog W base sp held 39 v d p) : ∃ x y : Nat, v = .agg #[.int .u8 x, .int .u8 y] ∧ x ≤ 255 ∧ y ≤ 255 :=
  open_two (P := Tryz.prog) (t := 39) (e := 5) Tryz.underlying39 Tryz.underlying5 cells39 cells5 hv h

/-- Whatever came in. -/
theorem again_walk {w : World} {a : Option Addr} {len cap : Nat} {z : List (List Int)} (vars : Int) (x y : Nat) (hg : U.Grid w a len cap z) (wv : -9223372036854775808 ≤ vars ∧ vars ≤ 9223372036854775807) (hx : x ≤ 255) (hy : y ≤ 255) :
    Calls Tryz.prog 6 #[.int .i64 vars, .slice a len cap, .agg #[.int .u8 x, .int .u8 y]] w fun e w' => e = .returned (.bool true) ∧ Below w.heap.size w w' := by
  by_cases hb : U.fewF z 60 = 0 ∨ 40 < vars ∨ ¬ U.chkF vars z = 0
  · exact again_bad vars x y hg wv hx hy hb
  · have h1 : ¬ U.fewF z 60 = 0 := fun q => hb (.inl q)
    have h2 : ¬ 40 < vars := fun q => hb (.inr (.inl q))
    have h3 : U.chkF vars z = 0 := Classical.byContradiction fun q => hb (.inr (.inr q))
    obtain ⟨n, rfl, _⟩ := chk_parts h3
    exact again_good n x y hg hx hy h1 (by omega) h3

end Go.Proofs.YtimfjoinjfecjaaGreat
