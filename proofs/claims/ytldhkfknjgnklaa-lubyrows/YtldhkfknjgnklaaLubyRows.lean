/-
  For every int of at most 3000: Row tells the same numbers as the document's definition, and for every int the chapter's examples hold. Condition: none.
-/
import Derived.Test.YtldhkfknjgnklaaRows
import Derived.Test.YtldhkfknjgnklaaAwake
import Derived.WalkKit
import Derived.ProofKit
import Derived.OpenShut
import Derived.ShutString
import Derived.ChangeOld
import Derived.Below
namespace Go.Proofs.Ytldhkfknjgnklaa.lubyRows
open Go.ChangeShapes Go.WideShapes Go.ChangeAt Go.RowKit
open Go.ChangeMaps (open_string shut_string)
set_option linter.unusedVariables false

theorem own : ownKnob Try.prog.godebug = none := by kernel_rfl
theorem laidOut : laidOutB Try.prog = true := by kernel_rfl

set_option maxRecDepth 20000 in
set_option maxHeartbeats 4000000 in
theorem walk (a0 : Int) (w : World) (w0 : (Lit.int .i64 a0).wf = true) :
    Calls Try.prog 4 #[.int .i64 a0] w fun e w' => e = .returned (.bool true) ∧ Below w.heap.size w w' := by
  have hB : Below w.heap.size w w := Below.refl _ _
  have hs : sameF (rowF a0) (rowF a0) = true := by simp [sameF]
  have hf : a0 ≤ 9223372036854775807 := by have := w0; simp [Lit.wf] at this; omega
  by_cases h : 3000 < a0
  · go_enter Try.func4, Try.ntmps4
    go_wp2_with (go_at_call 8; with_reducible (refine (awake_any _).mono ?_); rintro e w1 ⟨rfl, hb⟩; replace hB := Below.next hB hb; clear hb)
    go_ret
    exact ⟨rfl, hB⟩
  · go_enter Try.func4, Try.ntmps4
    go_wp2_with (first
      | (go_at_call 10; with_reducible (refine (row_any _ _).mono ?_); rintro e w1 ⟨bo, k, c, rfl, hr, hb⟩; replace hB := Below.next hB hb; clear hb)
      | (go_at_call 11; with_reducible (refine (rrow_any _ hf _).mono ?_); rintro e w2 ⟨ao, j, d, rfl, hq, hb⟩; replace hB := Below.next hB hb; have hr2 := hid (hr.out.keep hb); clear hb)
      | (go_at_call 9; with_reducible (refine (same_any _ _ _ _ _ _ _ _ _ hr2.out hq.out).mono ?_); rintro e w3 ⟨rfl, hb⟩; rw [hs]; replace hB := Below.next hB hb; clear hb)
      | (go_at_call 8; with_reducible (refine (awake_any _).mono ?_); rintro e w1 ⟨rfl, hb⟩; replace hB := Below.next hB hb; clear hb))
    go_ret
    exact ⟨rfl, hB⟩


set_option maxRecDepth 100000 in
theorem lifted (os : Os) (started : os.Started) (H : Type) (enc : TypeId × Value → H) :
    ReturnsInHanded {} Try.checked os 4 .any (Rows.lubyRowsSpec.pre6 enc Try.prog Try.f4 Rows.lubyRowsRow.domain false) (Rows.lubyRowsSpec.post enc Try.prog Try.f4 false true false false) := by
  refine returnsInHanded_of_change (C := Try.checked) own started (by kernel_rfl) Try.func4
    (ChangeSpec.witness6 (enc := enc) (C := Try.checked) false ⟨#[], #[.int .i64 0], []⟩ 8 (by kernel_rfl) (by kernel_rfl) (by kernel_rfl) (by kernel_rfl)) ?_
  intro W base args ds gs before hval0 hW hcnd _
  have hval : ∀ (j : Nat) t v, Try.f4.params[j]? = some t → args[j]? = some v → Value.okWide Try.prog W .any base t v := hval0
  have hW' := hW
  obtain ⟨p, q, hA0, hV, rfl, hfz, hnd⟩ := hW
  have hA : DataW.TrodAll enc Try.prog W 0 (fun _ => true) true Try.f4.params.toList args.toList ds p := hA0
  rw [Try.params4] at hA hval
  obtain ⟨v0, vs0, d0, ds0, p0, q0, hargs, rfl, rfl, h0, r0⟩ := trodAll_cons hA
  obtain ⟨rfl, rfl, rfl⟩ := trodAll_nil r0
  obtain rfl : args = #[v0] := by cases args; simp_all
  obtain ⟨rfl, rfl⟩ := trodVars_none hV
  obtain ⟨a0, rfl, rfl, rfl, w0⟩ := open_int Try.underlying3 (hval 0 3 v0 rfl rfl) h0
  clear hA0 hval0
  refine (walk a0 W w0).mono fun e W' ⟨he, bel⟩ => ?_
  subst he
  exact ⟨_, rfl, _, _, _, [], _, [], hW', trodAll_mk1 (shut_bool Try.underlying4 _), (trodAll_cons_mk (shut_int Try.underlying3 w0) trodAll_mk0), rfl, bel.frame _, fun h => by cases h⟩

theorem over : Rows.lubyRowsRow.holds Try.pinned (OpenSpec.ofChange Rows.lubyRowsSpec) :=
  OpenClaim.holds_of_wide 4 Try.f4 rfl rfl rfl rfl rfl rfl rfl ⟨rfl, rfl, rfl, rfl, rfl⟩ rfl rfl rfl rfl rfl (by kernel_rfl) Try.func4 (by kernel_rfl)
    (of_decide_eq_true (by kernel_rfl)) (by unfold Func.isWrapper; first | (rw [if_pos (by decide +kernel)]; kernel_rfl) | (rw [if_neg (by decide +kernel)]; exact ⟨rfl, rfl⟩))
    (fun os started H enc _ => lifted os started H enc)

theorem proved : Rows.LubyRowsSaid := over
#print axioms proved
end Go.Proofs.Ytldhkfknjgnklaa.lubyRows
