/-
  For every k and i: the first 2^m - 1 numbers (m from 1 to 30) come again behind themselves, and then 2^m; and the chapter's examples hold. Condition: none.
-/
import Derived.Test.YtldhkfknjgnklaaRows
import Derived.Test.YtldhkfknjgnklaaAwake
import Derived.WalkKit
import Derived.ProofKit
import Derived.OpenShut
import Derived.ShutString
import Derived.ChangeOld
import Derived.Below
import Derived.Test.YtldhkfknjgnklaaTwice
namespace Go.Proofs.Ytldhkfknjgnklaa.lubyTwice
open Go.ChangeShapes Go.WideShapes Go.ChangeAt Go.RowKit
open Go.ChangeMaps (open_string shut_string)
set_option linter.unusedVariables false

theorem own : ownKnob Try.prog.godebug = none := by kernel_rfl
theorem laidOut : laidOutB Try.prog = true := by kernel_rfl

set_option maxRecDepth 20000 in
set_option maxHeartbeats 4000000 in
theorem walk (a0 : Int) (a1 : Int) (w : World) (w0 : (Lit.int .u8 a0).wf = true) (w1 : (Lit.int .u16 a1).wf = true) :
    Calls Try.prog 5 #[.int .u8 a0, .int .u16 a1] w fun e w' => e = .returned (.bool true) ∧ Below w.heap.size w w' := by
  have hB : Below w.heap.size w w := Below.refl _ _
  have k0 : 0 ≤ a0 ∧ a0 ≤ 255 := bounds_u8 w0
  have i0 : 0 ≤ a1 ∧ a1 ≤ 65535 := bounds_u16 w1
  obtain ⟨p, a, hp, p1, p2, ha, t1, t2, t3⟩ := twice_facts a0 a1 k0.1 i0.1
  have c1 : ∀ w, Calls Try.prog 6 #[.int .i64 a] w fun e w' => e = .returned (.int .i64 (termF a)) ∧ Below w.heap.size w w' := term_any a
  have c2 : ∀ w, Calls Try.prog 6 #[.int .i64 (a + (p - 1))] w fun e w' => e = .returned (.int .i64 (termF a)) ∧ Below w.heap.size w w' := fun w => by
    rw [← t2.out]; exact term_any _ w
  have c3 : ∀ w, Calls Try.prog 6 #[.int .i64 (2 * (p - 1) + 1)] w fun e w' => e = .returned (.int .i64 p) ∧ Below w.heap.size w w' := fun w => by
    have c := term_any (2 * (p - 1) + 1) w
    rw [t3.out] at c; exact c
  clear t2 t3
  go_enter Try.func5, Try.ntmps5
  go_wp2_with (first
    | (go_at_call 6; with_reducible (refine (c1 _).mono ?_); rintro e w1 ⟨rfl, hb⟩; replace hB := Below.next hB hb; clear hb)
    | (go_at_call 6; with_reducible (refine (c2 _).mono ?_); rintro e w1 ⟨rfl, hb⟩; replace hB := Below.next hB hb; clear hb)
    | (go_at_call 6; with_reducible (refine (c3 _).mono ?_); rintro e w1 ⟨rfl, hb⟩; replace hB := Below.next hB hb; clear hb)
    | (go_at_call 8; with_reducible (refine (awake_any _).mono ?_); rintro e w1 ⟨rfl, hb⟩; replace hB := Below.next hB hb; clear hb))
  go_ret
  exact ⟨rfl, hB⟩


set_option maxRecDepth 100000 in
theorem lifted (os : Os) (started : os.Started) (H : Type) (enc : TypeId × Value → H) :
    ReturnsInHanded {} Try.checked os 5 .any (Rows.lubyTwiceSpec.pre6 enc Try.prog Try.f5 Rows.lubyTwiceRow.domain false) (Rows.lubyTwiceSpec.post enc Try.prog Try.f5 false true false false) := by
  refine returnsInHanded_of_change (C := Try.checked) own started (by kernel_rfl) Try.func5
    (ChangeSpec.witness6 (enc := enc) (C := Try.checked) false ⟨#[], #[.int .u8 0, .int .u16 0], []⟩ 8 (by kernel_rfl) (by kernel_rfl) (by kernel_rfl) (by kernel_rfl)) ?_
  intro W base args ds gs before hval0 hW hcnd _
  have hval : ∀ (j : Nat) t v, Try.f5.params[j]? = some t → args[j]? = some v → Value.okWide Try.prog W .any base t v := hval0
  have hW' := hW
  obtain ⟨p, q, hA0, hV, rfl, hfz, hnd⟩ := hW
  have hA : DataW.TrodAll enc Try.prog W 0 (fun _ => true) true Try.f5.params.toList args.toList ds p := hA0
  rw [Try.params5] at hA hval
  obtain ⟨v0, vs0, d0, ds0, p0, q0, hargs, rfl, rfl, h0, r0⟩ := trodAll_cons hA
  obtain ⟨v1, vs1, d1, ds1, p1, q1, rfl, rfl, rfl, h1, r1⟩ := trodAll_cons r0
  obtain ⟨rfl, rfl, rfl⟩ := trodAll_nil r1
  obtain rfl : args = #[v0, v1] := by cases args; simp_all
  obtain ⟨rfl, rfl⟩ := trodVars_none hV
  obtain ⟨a0, rfl, rfl, rfl, w0⟩ := open_int Try.underlying5 (hval 0 5 v0 rfl rfl) h0
  obtain ⟨a1, rfl, rfl, rfl, w1⟩ := open_int Try.underlying28 (hval 1 28 v1 rfl rfl) h1
  clear hA0 hval0
  refine (walk a0 a1 W w0 w1).mono fun e W' ⟨he, bel⟩ => ?_
  subst he
  exact ⟨_, rfl, _, _, _, [], _, [], hW', trodAll_mk1 (shut_bool Try.underlying4 _), (trodAll_cons_mk (shut_int Try.underlying5 w0) (trodAll_cons_mk (shut_int Try.underlying28 w1) trodAll_mk0)), rfl, bel.frame _, fun h => by cases h⟩

theorem over : Rows.lubyTwiceRow.holds Try.pinned (OpenSpec.ofChange Rows.lubyTwiceSpec) :=
  OpenClaim.holds_of_wide 5 Try.f5 rfl rfl rfl rfl rfl rfl rfl ⟨rfl, rfl, rfl, rfl, rfl⟩ rfl rfl rfl rfl rfl (by kernel_rfl) Try.func5 (by kernel_rfl)
    (of_decide_eq_true (by kernel_rfl)) (by unfold Func.isWrapper; first | (rw [if_pos (by decide +kernel)]; kernel_rfl) | (rw [if_neg (by decide +kernel)]; exact ⟨rfl, rfl⟩))
    (fun os started H enc _ => lifted os started H enc)

theorem proved : Rows.LubyTwiceSaid := over
#print axioms proved
end Go.Proofs.Ytldhkfknjgnklaa.lubyTwice
