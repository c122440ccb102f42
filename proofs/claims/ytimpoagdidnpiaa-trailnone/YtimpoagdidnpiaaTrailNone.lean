/-
  A trail that is none answers false, 0, -1 or none, whatever it is asked.
-/
import Derived.Test.YtimpoagdidnpiaaRows
import Derived.Test.YtimpoagdidnpiaaFrame
import Derived.WalkKit
import Derived.ProofKit
import Derived.OpenShut
import Derived.ShutString
import Derived.ChangeOld
import Derived.Below
namespace Go.Proofs.Ytimpoagdidnpiaa.trailNone
open Go.ChangeShapes Go.WideShapes Go.ChangeAt Go.RowKit
open Go.ChangeMaps (open_string shut_string)
set_option linter.unusedVariables false

theorem own : ownKnob Try.prog.godebug = none := by kernel_rfl
theorem laidOut : laidOutB Try.prog = true := by kernel_rfl

set_option maxRecDepth 20000 in
set_option maxHeartbeats 4000000 in
theorem walk (k0 v0 t0 : Int) (w : World) (hv0 : v0 ≤ 9223372036854775807) :
    Calls Try.prog 5 #[.agg #[.int .i64 k0, .int .i64 v0, .int .i64 t0]] w fun e w' => e = .returned (.bool true) ∧ Below w.heap.size w w' := by
  have d1 : (w.alloc (.cells #[.int .i64 k0, .int .i64 v0, .int .i64 t0] 33)).cell? ⟨w.heap.size, 1, none⟩ = some (.int .i64 v0) := by rw [cell_of (new_same w _)]; rfl
  have d2 : (w.alloc (.cells #[.int .i64 k0, .int .i64 v0, .int .i64 t0] 33)).cell? ⟨w.heap.size, 2, none⟩ = some (.int .i64 t0) := by rw [cell_of (new_same w _)]; rfl
  have b0 := hid (below_alloc w (.cells #[.int .i64 k0, .int .i64 v0, .int .i64 t0] 33))
  go_enter Try.func5, Try.ntmps5
  go_wp2_with (first
    | (go_at_call 21; with_reducible (refine (assign_none _ _ hv0 _).mono ?_); rintro e w1 ⟨rfl, b1⟩; have c1 := (b1.cell (cell_lt d1)).trans d1; have c2 := (b1.cell (cell_lt d2)).trans d2)
    | (go_at_call 22; with_reducible (refine (decide_none _ hv0 _).mono ?_); rintro e w2 ⟨rfl, b2⟩; have c3 := (b2.cell (cell_lt c1)).trans c1; have c4 := (b2.cell (cell_lt c2)).trans c2)
    | (go_at_call 11; with_reducible (refine (value_none _ hv0 _).mono ?_); rintro e w3 ⟨rfl, b3⟩; have c5 := (b3.cell (cell_lt c3)).trans c3; have c6 := (b3.cell (cell_lt c4)).trans c4)
    | (go_at_call 13; with_reducible (refine (level_none _ _).mono ?_); rintro e w3 ⟨rfl, rfl⟩)
    | (go_at_call 15; with_reducible (refine (reason_none _ _).mono ?_); rintro e w3 ⟨rfl, rfl⟩)
    | (go_at_call 10; with_reducible (refine (levels_none _).mono ?_); rintro e w3 ⟨rfl, rfl⟩)
    | (go_at_call 18; with_reducible (refine (lits_none _).mono ?_); rintro e w3 ⟨rfl, rfl⟩)
    | (go_at_call 20; with_reducible (refine (back_none _ _).mono ?_); rintro e w4 ⟨rfl, b4⟩)
    | (go_at_call 6; with_reducible (refine (awake_any _).mono ?_); rintro e w5 ⟨rfl, b5⟩))
  go_ret
  exact ⟨rfl, Below.next (Below.next (Below.next (Below.next (Below.next b0.out b1) b2) b3) b4) b5.out⟩


set_option maxRecDepth 100000 in
theorem lifted (os : Os) (started : os.Started) (H : Type) (enc : TypeId × Value → H) :
    ReturnsInHanded {} Try.checked os 5 .any (Rows.trailNoneSpec.pre6 enc Try.prog Try.f5 Rows.trailNoneRow.domain false) (Rows.trailNoneSpec.post enc Try.prog Try.f5 false true false false) := by
  refine returnsInHanded_of_change (C := Try.checked) own started (by kernel_rfl) Try.func5
    (ChangeSpec.witness6 (enc := enc) (C := Try.checked) false ⟨#[], #[.agg #[.int .i64 0, .int .i64 0, .int .i64 0]], []⟩ 8 (by kernel_rfl) (by kernel_rfl) (by kernel_rfl) (by kernel_rfl)) ?_
  intro W base args ds gs before hval0 hW hcnd _
  have hval : ∀ (j : Nat) t v, Try.f5.params[j]? = some t → args[j]? = some v → Value.okWide Try.prog W .any base t v := hval0
  have hW' := hW
  obtain ⟨p, q, hA0, hV, rfl, hfz, hnd⟩ := hW
  have hA : DataW.TrodAll enc Try.prog W 0 (fun _ => true) true Try.f5.params.toList args.toList ds p := hA0
  rw [Try.params5] at hA hval
  obtain ⟨v0, vs0, d0, ds0, p0, q0, hargs, rfl, rfl, h0, r0⟩ := trodAll_cons hA
  obtain ⟨rfl, rfl, rfl⟩ := trodAll_nil r0
  obtain rfl : args = #[v0] := by cases args; simp_all
  obtain ⟨rfl, rfl⟩ := trodVars_none hV
  have z0 := h0
  have lt0 : ∀ x ∈ p0, x.block < W.heap.size := by obtain ⟨m, hm⟩ := z0; exact DataW.trod_lt m _ _ _ hm
  obtain ⟨k0, u0, t0, rfl, hv0⟩ : ∃ k u t, v0 = .agg #[.int .i64 k, .int .i64 u, .int .i64 t] ∧ u ≤ 9223372036854775807 := by
    obtain ⟨c0, c1, c2, y0, y1, y2, m, rfl, _, _, hy0, hy1, hy2⟩ := Go.Joins.open_agg3 Try.underlying33 (by kernel_rfl) cells33 (hval 0 33 v0 rfl rfl) h0
    obtain ⟨n0, q0, _⟩ := DataW.trod_int Try.underlying3 hy0
    obtain ⟨n1, q1, _, f1⟩ := DataW.trod_int Try.underlying3 hy1
    obtain ⟨n2, q2, _⟩ := DataW.trod_int Try.underlying3 hy2
    simp at q0 q1 q2
    subst q0 q1 q2
    exact ⟨n0, n1, n2, rfl, wf_le f1⟩
  clear hA0 hval0
  refine (walk k0 u0 t0 W hv0).mono fun e W' ⟨he, bel⟩ => ?_
  subst he
  exact ⟨_, rfl, _, _, _, [], _, [], hW', trodAll_mk1 (shut_bool Try.underlying4 _), (trodAll_cons_mk (Below.trod laidOut (by kernel_rfl) (of_decide_eq_true (by kernel_rfl)) z0 bel lt0) trodAll_mk0), rfl, bel.frame _, fun h => by cases h⟩

theorem over : Rows.trailNoneRow.holds Try.pinned (OpenSpec.ofChange Rows.trailNoneSpec) :=
  OpenClaim.holds_of_wide 5 Try.f5 rfl rfl rfl rfl rfl rfl rfl ⟨rfl, rfl, rfl, rfl, rfl⟩ rfl rfl rfl rfl rfl (by kernel_rfl) Try.func5 (by kernel_rfl)
    (of_decide_eq_true (by kernel_rfl)) (by unfold Func.isWrapper; first | (rw [if_pos (by decide +kernel)]; kernel_rfl) | (rw [if_neg (by decide +kernel)]; exact ⟨rfl, rfl⟩))
    (fun os started H enc _ => lifted os started H enc)

theorem proved : Rows.TrailNoneSaid := over
#print axioms proved
end Go.Proofs.Ytimpoagdidnpiaa.trailNone
