/-
  What a walk is told of clauses that came in.
-/
import Derived.Test.YtodhganfjeojoaaRkeep
import Derived.Test.YtodhganfjeojoaaAwake
import Derived.ChangeOld
import Derived.OpenShut
import Derived.Deep.SlicePairs
import Derived.Lib.SmallJoins
namespace Go.Proofs.Ytodhganfjeojoaa
open Go.RowKit Go.ChangeShapes Go.WideShapes Go.ChangeAt Go.Sort
set_option linter.unusedVariables false

theorem cells26 : Try.prog.cellsOf 26 = 3 := by kernel_rfl
theorem cells3 : Try.prog.cellsOf 3 = 1 := by kernel_rfl

theorem deeds_of {H : Type} {enc : TypeId × Value → H} {W : World} {base : Nat} {held : Bool} {fuel : Nat} {a : Option Addr} {len cap : Nat} {x : DataW H × List MemPlace}
    (h : DataW.trod enc Try.prog W base (fun _ => true) held fuel 22 (Value.slice a len cap).cells.toList = some x) : ∃ D, Deeds W a len D := by
  rcases Go.Deep.open_slice Try.underlying22 h with ⟨hcs, _⟩ | ⟨ad, l, c, m, n, D, Pl, hcs, _, hl, hm, hmm, _, hx⟩
  · simp [Value.cells] at hcs
    obtain ⟨rfl, rfl, rfl⟩ := hcs
    exact ⟨fun _ => ⟨0, 0, 0⟩, fun h => by omega⟩
  · simp [Value.cells] at hcs
    obtain ⟨rfl, rfl, rfl⟩ := hcs
    simp only [if_true] at hmm
    subst hmm
    have each : ∀ i, i < len → ∃ d : Dd, W.cell? (ad.add (i * 3)) = some (.int .i64 d.s) ∧ W.cell? ((ad.add (i * 3)).add 1) = some (.int .i64 d.g) ∧ W.cell? ((ad.add (i * 3)).add 2) = some (.int .i64 d.a) := by
      intro i hi
      obtain ⟨cs', h1, h2⟩ := hx i (by omega)
      rw [cells26] at h1
      obtain ⟨_, hlen, hcell⟩ := World.cells?_some h1
      have e0 := hcell 0 (by omega)
      have e1 := hcell 1 (by omega)
      have e2 := hcell 2 (by omega)
      match cs', hlen with
      | [c0, c1, c2], _ =>
        obtain ⟨xs, k, hk, hxy, _, hxl, hf⟩ := DataW.trod_struct Try.underlying26 h2
        match xs, hxl with
        | [y0, y1, y2], _ =>
          have g0 : DataW.trod enc Try.prog W base (fun _ => true) held k 3 [c0] = some y0 := by simpa [cells3] using hf 0 _ rfl
          have g1 : DataW.trod enc Try.prog W base (fun _ => true) held k 3 [c1] = some y1 := by simpa [cells3] using hf 1 _ rfl
          have g2 : DataW.trod enc Try.prog W base (fun _ => true) held k 3 [c2] = some y2 := by simpa [cells3] using hf 2 _ rfl
          obtain ⟨n0, q0, _⟩ := DataW.trod_int Try.underlying3 g0
          obtain ⟨n1, q1, _⟩ := DataW.trod_int Try.underlying3 g1
          obtain ⟨n2, q2, _⟩ := DataW.trod_int Try.underlying3 g2
          simp at q0 q1 q2
          subst q0 q1 q2
          exact ⟨⟨n0, n1, n2⟩, by simpa [Addr.add] using e0, by simpa using e1, by simpa using e2⟩
    haveI : Inhabited Dd := ⟨⟨0, 0, 0⟩⟩
    obtain ⟨q, hq⟩ := Go.Deep.choose_lt each
    refine ⟨q, fun h0 => ?_⟩
    obtain ⟨b, off, spot⟩ := ad
    have hsp : spot = none := by
      have := (hq 0 h0).1
      simpa [Addr.add] using World.cell?_spot this
    subst hsp
    refine ⟨b, off, rfl, fun j hj => ?_⟩
    obtain ⟨r0, r1, r2⟩ := hq j hj
    rw [add_at] at r0 r1 r2
    rw [add_at] at r1 r2
    exact ⟨r0, r1, r2⟩

end Go.Proofs.Ytodhganfjeojoaa
