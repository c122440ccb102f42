/-
  What a walk is told of deeds that came in.
-/
import Derived.Test.YthdiajdphnjdoaaAw
import Derived.ChangeOld
import Derived.OpenShut
import Derived.Deep.SlicePairs
import Derived.Deep.Grids
namespace Go.Proofs.Ythdiajdphnjdoaa
open Go.RowKit Go.ChangeShapes Go.WideShapes Go.ChangeAt
set_option linter.unusedVariables false

structure Dd where
  kd : Int
  a : Int
  b : Int
  c : Int

/-- Its numbers fit. -/
structure DdFt (d : Dd) : Prop where
  k : -9223372036854775808 ≤ d.kd ∧ d.kd ≤ 9223372036854775807
  a : -9223372036854775808 ≤ d.a ∧ d.a ≤ 9223372036854775807
  b : -9223372036854775808 ≤ d.b ∧ d.b ≤ 9223372036854775807
  c : -9223372036854775808 ≤ d.c ∧ d.c ≤ 9223372036854775807

theorem cells30 : Try.prog.cellsOf 30 = 4 := by kernel_rfl
theorem cells3 : Try.prog.cellsOf 3 = 1 := by kernel_rfl

theorem add_at {b off j : Nat} : (⟨b, off, none⟩ : Addr).add j = ⟨b, off + j, none⟩ := by
  by_cases h : j = 0
  · subst h; rfl
  · simp [Addr.add, h]

theorem wf_out {x : Int} (h : (Lit.int .i64 x).wf = true) : -9223372036854775808 ≤ x ∧ x ≤ 9223372036854775807 := by
  simp [Lit.wf, IntKind.min, IntKind.max, IntKind.signed, IntKind.bits] at h; omega

theorem four_of {H : Type} {enc : TypeId × Value → H} {W : World} {base : Nat} {held : Bool} {fuel : Nat} {c0 c1 c2 c3 : Value} {x : DataW H × List MemPlace}
    (h : DataW.trod enc Try.prog W base (fun _ => true) held fuel 30 [c0, c1, c2, c3] = some x) :
    ∃ d : Dd, DdFt d ∧ c0 = .int .i64 d.kd ∧ c1 = .int .i64 d.a ∧ c2 = .int .i64 d.b ∧ c3 = .int .i64 d.c := by
  obtain ⟨xs, k, hk, hxy, _, hxl, hf⟩ := DataW.trod_struct Try.underlying30 h
  match xs, hxl with
  | [y0, y1, y2, y3], _ =>
    have g0 : DataW.trod enc Try.prog W base (fun _ => true) held k 3 [c0] = some y0 := by simpa [cells3] using hf 0 _ rfl
    have g1 : DataW.trod enc Try.prog W base (fun _ => true) held k 3 [c1] = some y1 := by simpa [cells3] using hf 1 _ rfl
    have g2 : DataW.trod enc Try.prog W base (fun _ => true) held k 3 [c2] = some y2 := by simpa [cells3] using hf 2 _ rfl
    have g3 : DataW.trod enc Try.prog W base (fun _ => true) held k 3 [c3] = some y3 := by simpa [cells3] using hf 3 _ rfl
    obtain ⟨n0, q0, _, r0⟩ := DataW.trod_int Try.underlying3 g0
    obtain ⟨n1, q1, _, r1⟩ := DataW.trod_int Try.underlying3 g1
    obtain ⟨n2, q2, _, r2⟩ := DataW.trod_int Try.underlying3 g2
    obtain ⟨n3, q3, _, r3⟩ := DataW.trod_int Try.underlying3 g3
    simp at q0 q1 q2 q3
    exact ⟨⟨n0, n1, n2, n3⟩, ⟨wf_out r0, wf_out r1, wf_out r2, wf_out r3⟩, q0, q1, q2, q3⟩

/-- A list of deeds that came in. -/
def Deeds (w : World) (a : Option Addr) (len : Nat) (D : Nat → Dd) : Prop := 0 < len → ∃ b off, a = some ⟨b, off, none⟩ ∧ ∀ j, j < len → DdFt (D j) ∧
  w.cell? ⟨b, off + j * 4, none⟩ = some (.int .i64 (D j).kd) ∧ w.cell? ⟨b, off + j * 4 + 1, none⟩ = some (.int .i64 (D j).a) ∧ w.cell? ⟨b, off + j * 4 + 2, none⟩ = some (.int .i64 (D j).b) ∧
  w.cell? ⟨b, off + j * 4 + 3, none⟩ = some (.int .i64 (D j).c)

theorem Deeds.at {w w' : World} {ao : Option Addr} {n : Nat} {D : Nat → Dd} (h : Deeds w ao n D) (be : Below w.heap.size w w') {j : Nat} (hj : j < n) : ∃ b off, ao = some ⟨b, off, none⟩ ∧ DdFt (D j) ∧
    w'.cell? ⟨b, off + j * 4, none⟩ = some (.int .i64 (D j).kd) ∧ w'.cell? ⟨b, off + j * 4 + 1, none⟩ = some (.int .i64 (D j).a) ∧ w'.cell? ⟨b, off + j * 4 + 2, none⟩ = some (.int .i64 (D j).b) ∧
    w'.cell? ⟨b, off + j * 4 + 3, none⟩ = some (.int .i64 (D j).c) := by
  obtain ⟨b, off, e, hc⟩ := h (by omega)
  obtain ⟨f, c0, c1, c2, c3⟩ := hc j hj
  exact ⟨b, off, e, f, (be.cell (cell_lt c0)).trans c0, (be.cell (cell_lt c1)).trans c1, (be.cell (cell_lt c2)).trans c2, (be.cell (cell_lt c3)).trans c3⟩

theorem deeds_of {H : Type} {enc : TypeId × Value → H} {W : World} {base : Nat} {held : Bool} {fuel : Nat} {a : Option Addr} {len cap : Nat} {x : DataW H × List MemPlace}
    (h : DataW.trod enc Try.prog W base (fun _ => true) held fuel 22 (Value.slice a len cap).cells.toList = some x) : ∃ D, Deeds W a len D := by
  rcases Go.Deep.open_slice Try.underlying22 h with ⟨hcs, _⟩ | ⟨ad, l, c, m, n, D, Pl, hcs, _, hl, hm, hmm, _, hx⟩
  · simp [Value.cells] at hcs
    obtain ⟨rfl, rfl, rfl⟩ := hcs
    exact ⟨fun _ => ⟨0, 0, 0, 0⟩, fun h => by omega⟩
  · simp [Value.cells] at hcs
    obtain ⟨rfl, rfl, rfl⟩ := hcs
    simp only [if_true] at hmm
    subst hmm
    have each : ∀ i, i < len → ∃ d : Dd, DdFt d ∧ W.cell? (ad.add (i * 4)) = some (.int .i64 d.kd) ∧ W.cell? ((ad.add (i * 4)).add 1) = some (.int .i64 d.a) ∧ W.cell? ((ad.add (i * 4)).add 2) = some (.int .i64 d.b) ∧
        W.cell? ((ad.add (i * 4)).add 3) = some (.int .i64 d.c) := by
      intro i hi
      obtain ⟨cs', h1, h2⟩ := hx i (by omega)
      rw [cells30] at h1
      obtain ⟨_, hlen, hcell⟩ := World.cells?_some h1
      have e0 := hcell 0 (by omega)
      have e1 := hcell 1 (by omega)
      have e2 := hcell 2 (by omega)
      have e3 := hcell 3 (by omega)
      match cs', hlen with
      | [c0, c1, c2, c3], _ =>
        obtain ⟨d, hd, q0, q1, q2, q3⟩ := four_of h2
        subst q0 q1 q2 q3
        exact ⟨d, hd, by simpa [Addr.add] using e0, by simpa using e1, by simpa using e2, by simpa using e3⟩
    haveI : Inhabited Dd := ⟨⟨0, 0, 0, 0⟩⟩
    obtain ⟨q, hq⟩ := Go.Deep.choose_lt each
    refine ⟨q, fun h0 => ?_⟩
    obtain ⟨b, off, spot⟩ := ad
    have hsp : spot = none := by
      have := (hq 0 h0).2.1
      simpa [Addr.add] using World.cell?_spot this
    subst hsp
    refine ⟨b, off, rfl, fun j hj => ?_⟩
    obtain ⟨hd, r0, r1, r2, r3⟩ := hq j hj
    rw [add_at] at r0 r1 r2 r3
    rw [add_at] at r1 r2 r3
    exact ⟨hd, r0, r1, r2, r3⟩

theorem deed_of {H : Type} {enc : TypeId × Value → H} {W : World} {base : Nat} {held : Bool} {v : Value} {x : DataW H × List MemPlace} {fuel : Nat} {b0 : Nat}
    (hv : Value.okWide Try.prog W .any b0 30 v) (h : DataW.trod enc Try.prog W base (fun _ => true) held fuel 30 v.cells.toList = some x) :
    ∃ d : Dd, DdFt d ∧ v = .agg #[.int .i64 d.kd, .int .i64 d.a, .int .i64 d.b, .int .i64 d.c] := by
  obtain ⟨cs, rfl, hs⟩ := okWide_struct Try.underlying30 hv
  rw [cells30] at hs
  obtain ⟨l⟩ := cs
  match l, hs with
  | [c0, c1, c2, c3], _ =>
    obtain ⟨d, hd, q0, q1, q2, q3⟩ := four_of (by simpa [Value.cells] using h)
    subst q0 q1 q2 q3
    exact ⟨d, hd, rfl⟩

end Go.Proofs.Ythdiajdphnjdoaa
