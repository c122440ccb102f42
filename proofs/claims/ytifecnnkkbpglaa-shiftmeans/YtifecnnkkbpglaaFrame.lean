/-
  What a walk is told of a case that came in.
-/
import Derived.Test.YtifecnnkkbpglaaAw
import Derived.ChangeOld
import Derived.OpenShut
import Derived.Deep.SlicePairs
import Derived.Deep.Grids
namespace Go.Proofs.Ytifecnnkkbpglaa
open Go.RowKit Go.ChangeShapes Go.WideShapes Go.ChangeAt
set_option linter.unusedVariables false

structure Cs where
  W : Int
  A : Int
  B : Int
  I : Int

/-- Its numbers fit. -/
structure CsFt (d : Cs) : Prop where
  W : -9223372036854775808 ≤ d.W ∧ d.W ≤ 9223372036854775807
  A : 0 ≤ d.A ∧ d.A < 18446744073709551616
  B : 0 ≤ d.B ∧ d.B < 18446744073709551616
  I : 0 ≤ d.I ∧ d.I < 18446744073709551616

theorem cells24 : Try.prog.cellsOf 24 = 4 := by kernel_rfl
theorem cells3 : Try.prog.cellsOf 3 = 1 := by kernel_rfl
theorem cells22 : Try.prog.cellsOf 22 = 1 := by kernel_rfl

theorem wf_out {x : Int} (h : (Lit.int .i64 x).wf = true) : -9223372036854775808 ≤ x ∧ x ≤ 9223372036854775807 := by
  simp [Lit.wf, IntKind.min, IntKind.max, IntKind.signed, IntKind.bits] at h; omega
theorem wf_u64 {x : Int} (h : (Lit.int .u64 x).wf = true) : 0 ≤ x ∧ x < 18446744073709551616 := by
  simp [Lit.wf, IntKind.min, IntKind.max, IntKind.signed, IntKind.bits] at h; omega
theorem wf_u8 {x : Int} (h : (Lit.int .u8 x).wf = true) : 0 ≤ x ∧ x ≤ 255 := by
  simp [Lit.wf, IntKind.min, IntKind.max, IntKind.signed, IntKind.bits] at h; omega

theorem four_of {H : Type} {enc : TypeId × Value → H} {W : World} {base : Nat} {held : Bool} {fuel : Nat} {c0 c1 c2 c3 : Value} {x : DataW H × List MemPlace}
    (h : DataW.trod enc Try.prog W base (fun _ => true) held fuel 24 [c0, c1, c2, c3] = some x) :
    ∃ d : Cs, CsFt d ∧ c0 = .int .i64 d.W ∧ c1 = .int .u64 d.A ∧ c2 = .int .u64 d.B ∧ c3 = .int .u64 d.I := by
  obtain ⟨xs, k, hk, hxy, _, hxl, hf⟩ := DataW.trod_struct Try.underlying24 h
  match xs, hxl with
  | [y0, y1, y2, y3], _ =>
    have g0 : DataW.trod enc Try.prog W base (fun _ => true) held k 3 [c0] = some y0 := by simpa [cells3] using hf 0 _ rfl
    have g1 : DataW.trod enc Try.prog W base (fun _ => true) held k 22 [c1] = some y1 := by simpa [cells22] using hf 1 _ rfl
    have g2 : DataW.trod enc Try.prog W base (fun _ => true) held k 22 [c2] = some y2 := by simpa [cells22] using hf 2 _ rfl
    have g3 : DataW.trod enc Try.prog W base (fun _ => true) held k 22 [c3] = some y3 := by simpa [cells22] using hf 3 _ rfl
    obtain ⟨n0, q0, _, r0⟩ := DataW.trod_int Try.underlying3 g0
    obtain ⟨n1, q1, _, r1⟩ := DataW.trod_int Try.underlying22 g1
    obtain ⟨n2, q2, _, r2⟩ := DataW.trod_int Try.underlying22 g2
    obtain ⟨n3, q3, _, r3⟩ := DataW.trod_int Try.underlying22 g3
    simp at q0 q1 q2 q3
    exact ⟨⟨n0, n1, n2, n3⟩, ⟨wf_out r0, wf_u64 r1, wf_u64 r2, wf_u64 r3⟩, q0, q1, q2, q3⟩

theorem case_of {H : Type} {enc : TypeId × Value → H} {W : World} {base : Nat} {held : Bool} {v : Value} {x : DataW H × List MemPlace} {fuel : Nat} {b0 : Nat}
    (hv : Value.okWide Try.prog W .any b0 24 v) (h : DataW.trod enc Try.prog W base (fun _ => true) held fuel 24 v.cells.toList = some x) :
    ∃ d : Cs, CsFt d ∧ v = .agg #[.int .i64 d.W, .int .u64 d.A, .int .u64 d.B, .int .u64 d.I] := by
  obtain ⟨cs, rfl, hs⟩ := okWide_struct Try.underlying24 hv
  rw [cells24] at hs
  obtain ⟨l⟩ := cs
  match l, hs with
  | [c0, c1, c2, c3], _ =>
    obtain ⟨d, hd, q0, q1, q2, q3⟩ := four_of (by simpa [Value.cells] using h)
    subst q0 q1 q2 q3
    exact ⟨d, hd, rfl⟩

end Go.Proofs.Ytifecnnkkbpglaa
