/-
  What a walk is told of deeds that came in.
-/
import Derived.Test.YtefielnmlekhaaaDoorMem
import Derived.ChangeOld
import Derived.OpenShut
import Derived.Deep.SlicePairs
namespace Go.Proofs.YtefielnmlekhaaaDoor
open Go.RowKit Go.ChangeShapes Go.WideShapes Go.ChangeAt
set_option linter.unusedVariables false
set_option maxRecDepth 100000

theorem cells44 : Tryd.prog.cellsOf 47 = 6 := by kernel_rfl

theorem wf_out {x : Int} (h : (Lit.int .i64 x).wf = true) : -9223372036854775808 ≤ x ∧ x ≤ 9223372036854775807 := by
  simp [Lit.wf, IntKind.min, IntKind.max, IntKind.signed, IntKind.bits] at h; omega
theorem wfu_out {x : Int} (h : (Lit.int .u64 x).wf = true) : 0 ≤ x ∧ x < 18446744073709551616 := by
  simp [Lit.wf, IntKind.min, IntKind.max, IntKind.signed, IntKind.bits] at h; omega

theorem six_of {H : Type} {enc : TypeId × Value → H} {W : World} {base : Nat} {held : Bool} {fuel : Nat} {c0 c1 c2 c3 c4 c5 : Value} {x : DataW H × List MemPlace}
    (h : DataW.trod enc Tryd.prog W base (fun _ => true) held fuel 47 [c0, c1, c2, c3, c4, c5] = some x) :
    ∃ d : Dd, DdFt d ∧ c0 = .int .i64 d.kd ∧ c1 = .int .i64 d.w ∧ c2 = .int .i64 d.a ∧ c3 = .int .i64 d.b ∧ c4 = .int .i64 d.c ∧ c5 = .int .u64 d.x := by
  obtain ⟨xs, k, hk, hxy, _, hxl, hf⟩ := DataW.trod_struct Tryd.underlying47 h
  match xs, hxl with
  | [y0, y1, y2, y3, y4, y5], _ =>
    have g0 : DataW.trod enc Tryd.prog W base (fun _ => true) held k 3 [c0] = some y0 := by simpa [cells3] using hf 0 _ rfl
    have g1 : DataW.trod enc Tryd.prog W base (fun _ => true) held k 3 [c1] = some y1 := by simpa [cells3] using hf 1 _ rfl
    have g2 : DataW.trod enc Tryd.prog W base (fun _ => true) held k 3 [c2] = some y2 := by simpa [cells3] using hf 2 _ rfl
    have g3 : DataW.trod enc Tryd.prog W base (fun _ => true) held k 3 [c3] = some y3 := by simpa [cells3] using hf 3 _ rfl
    have g4 : DataW.trod enc Tryd.prog W base (fun _ => true) held k 3 [c4] = some y4 := by simpa [cells3] using hf 4 _ rfl
    have g5 : DataW.trod enc Tryd.prog W base (fun _ => true) held k 42 [c5] = some y5 := by simpa [cells30] using hf 5 _ rfl
    obtain ⟨n0, q0, _, r0⟩ := DataW.trod_int Tryd.underlying3 g0
    obtain ⟨n1, q1, _, r1⟩ := DataW.trod_int Tryd.underlying3 g1
    obtain ⟨n2, q2, _, r2⟩ := DataW.trod_int Tryd.underlying3 g2
    obtain ⟨n3, q3, _, r3⟩ := DataW.trod_int Tryd.underlying3 g3
    obtain ⟨n4, q4, _, r4⟩ := DataW.trod_int Tryd.underlying3 g4
    obtain ⟨n5, q5, _, r5⟩ := DataW.trod_int Tryd.underlying42 g5
    simp at q0 q1 q2 q3 q4 q5
    exact ⟨⟨n0, n1, n2, n3, n4, n5⟩, ⟨wf_out r1, wf_out r2, wf_out r3, wf_out r4, wfu_out r5⟩, q0, q1, q2, q3, q4, q5⟩

/-- A list of deeds that came in. -/
def Deeds (w : World) (a : Option Addr) (len : Nat) (D : Nat → Dd) : Prop := 0 < len → ∃ b off, a = some ⟨b, off, none⟩ ∧ ∀ j, j < len → DdFt (D j) ∧
  w.cell? ⟨b, off + j * 6, none⟩ = some (.int .i64 (D j).kd) ∧ w.cell? ⟨b, off + j * 6 + 1, none⟩ = some (.int .i64 (D j).w) ∧ w.cell? ⟨b, off + j * 6 + 2, none⟩ = some (.int .i64 (D j).a) ∧
  w.cell? ⟨b, off + j * 6 + 3, none⟩ = some (.int .i64 (D j).b) ∧ w.cell? ⟨b, off + j * 6 + 4, none⟩ = some (.int .i64 (D j).c) ∧ w.cell? ⟨b, off + j * 6 + 5, none⟩ = some (.int .u64 (D j).x)

theorem deeds_of {H : Type} {enc : TypeId × Value → H} {W : World} {base : Nat} {held : Bool} {fuel : Nat} {a : Option Addr} {len cap : Nat} {x : DataW H × List MemPlace}
    (h : DataW.trod enc Tryd.prog W base (fun _ => true) held fuel 22 (Value.slice a len cap).cells.toList = some x) : ∃ D, Deeds W a len D := by
  rcases Go.Deep.open_slice Tryd.underlying22 h with ⟨hcs, _⟩ | ⟨ad, l, c, m, n, D, Pl, hcs, _, hl, hm, hmm, _, hx⟩
  · simp [Value.cells] at hcs
    obtain ⟨rfl, rfl, rfl⟩ := hcs
    exact ⟨fun _ => ⟨0, 0, 0, 0, 0, 0⟩, fun h => by omega⟩
  · simp [Value.cells] at hcs
    obtain ⟨rfl, rfl, rfl⟩ := hcs
    simp only [if_true] at hmm
    subst hmm
    have each : ∀ i, i < len → ∃ d : Dd, DdFt d ∧ W.cell? (ad.add (i * 6)) = some (.int .i64 d.kd) ∧ W.cell? ((ad.add (i * 6)).add 1) = some (.int .i64 d.w) ∧ W.cell? ((ad.add (i * 6)).add 2) = some (.int .i64 d.a) ∧
        W.cell? ((ad.add (i * 6)).add 3) = some (.int .i64 d.b) ∧ W.cell? ((ad.add (i * 6)).add 4) = some (.int .i64 d.c) ∧ W.cell? ((ad.add (i * 6)).add 5) = some (.int .u64 d.x) := by
      intro i hi
      obtain ⟨cs', h1, h2⟩ := hx i (by omega)
      rw [cells44] at h1
      obtain ⟨_, hlen, hcell⟩ := World.cells?_some h1
      have e0 := hcell 0 (by omega)
      have e1 := hcell 1 (by omega)
      have e2 := hcell 2 (by omega)
      have e3 := hcell 3 (by omega)
      have e4 := hcell 4 (by omega)
      have e5 := hcell 5 (by omega)
      match cs', hlen with
      | [c0, c1, c2, c3, c4, c5], _ =>
        obtain ⟨d, hd, q0, q1, q2, q3, q4, q5⟩ := six_of h2
        subst q0 q1 q2 q3 q4 q5
        exact ⟨d, hd, by simpa [Addr.add] using e0, by simpa using e1, by simpa using e2, by simpa using e3, by simpa using e4, by simpa using e5⟩
    haveI : Inhabited Dd := ⟨⟨0, 0, 0, 0, 0, 0⟩⟩
    obtain ⟨q, hq⟩ := Go.Deep.choose_lt each
    refine ⟨q, fun h0 => ?_⟩
    obtain ⟨b, off, spot⟩ := ad
    have hsp : spot = none := by
      have := (hq 0 h0).2.1
      simpa [Addr.add] using World.cell?_spot this
    subst hsp
    refine ⟨b, off, rfl, fun j hj => ?_⟩
    obtain ⟨hd, r0, r1, r2, r3, r4, r5⟩ := hq j hj
    rw [add_at] at r0 r1 r2 r3 r4 r5
    rw [add_at] at r1 r2 r3 r4 r5
    exact ⟨hd, r0, r1, r2, r3, r4, r5⟩

theorem deed_of {H : Type} {enc : TypeId × Value → H} {W : World} {base : Nat} {held : Bool} {v : Value} {x : DataW H × List MemPlace} {fuel : Nat} {b0 : Nat}
    (hv : Value.okWide Tryd.prog W .any b0 47 v) (h : DataW.trod enc Tryd.prog W base (fun _ => true) held fuel 47 v.cells.toList = some x) :
    ∃ d : Dd, DdFt d ∧ v = .agg #[.int .i64 d.kd, .int .i64 d.w, .int .i64 d.a, .int .i64 d.b, .int .i64 d.c, .int .u64 d.x] := by
  obtain ⟨cs, rfl, hs⟩ := okWide_struct Tryd.underlying47 hv
  rw [cells44] at hs
  obtain ⟨l⟩ := cs
  match l, hs with
  | [c0, c1, c2, c3, c4, c5], _ =>
    obtain ⟨d, hd, q0, q1, q2, q3, q4, q5⟩ := six_of (by simpa [Value.cells] using h)
    subst q0 q1 q2 q3 q4 q5
    exact ⟨d, hd, rfl⟩

end Go.Proofs.YtefielnmlekhaaaDoor
