/-
  An order that is none answers false, -1 or 0, for every deed.
-/
import Derived.Test.YtbddhjohlpblaaaRows
import Derived.Test.YtbddhjohlpblaaaFrame
import Derived.WalkKit
import Derived.ProofKit
import Derived.OpenShut
import Derived.ShutString
import Derived.ChangeOld
import Derived.Below
namespace Go.Proofs.Ytbddhjohlpblaaa.orderNone
open Go.ChangeShapes Go.WideShapes Go.ChangeAt Go.RowKit
open Go.ChangeMaps (open_string shut_string)
set_option linter.unusedVariables false

theorem own : ownKnob Try.prog.godebug = none := by kernel_rfl
theorem laidOut : laidOutB Try.prog = true := by kernel_rfl

set_option maxHeartbeats 4000000 in
theorem walk (k0 v0 t0 : Int) (w : World)  :
    Calls Try.prog 5 #[.agg #[.int .i64 k0, .int .i64 v0, .int .i64 t0]] w fun e w' => e = .returned (.bool true) ∧ Below w.heap.size w w' := by
  go_enter Try.func5, Try.ntmps5
  go_wp2_with (first
    | (go_at_call 15; with_reducible (refine (pop_none _).mono ?_); rintro e w1 ⟨rfl, rfl⟩)
    | (go_at_call 16; with_reducible (refine (halve_none _).mono ?_); rintro e w1 ⟨rfl, rfl⟩)
    | (go_at_call 17; with_reducible (refine (push_none _ _).mono ?_); rintro e w1 ⟨rfl, rfl⟩)
    | (go_at_call 13; with_reducible (refine (has_none _ _).mono ?_); rintro e w1 ⟨rfl, rfl⟩)
    | (go_at_call 18; with_reducible (refine (bump_none _ _ _).mono ?_); rintro e w1 ⟨rfl, rfl⟩)
    | (go_at_call 14; with_reducible (refine (act_none _ _).mono ?_); rintro e w1 ⟨rfl, rfl⟩)
    | (go_at_call 11; with_reducible (refine (len_none _).mono ?_); rintro e w1 ⟨rfl, rfl⟩)
    | (go_at_call 6; with_reducible (refine (awake_any _).mono ?_); rintro e w1 ⟨rfl, b1⟩))
  go_ret
  exact ⟨rfl, Below.next (by go_grown) b1⟩


set_option maxRecDepth 100000 in
theorem lifted (os : Os) (started : os.Started) (H : Type) (enc : TypeId × Value → H) :
    ReturnsInHanded {} Try.checked os 5 .any (Rows.orderNoneSpec.pre6 enc Try.prog Try.f5 Rows.orderNoneRow.domain false) (Rows.orderNoneSpec.post enc Try.prog Try.f5 false true false false) := by
  refine returnsInHanded_of_change (C := Try.checked) own started (by kernel_rfl) Try.func5
    (ChangeSpec.witness6 (enc := enc) (C := Try.checked) false ⟨#[], #[.agg #[.int .i64 0, .int .i64 0, .int .i64 0]], []⟩ 8 (by kernel_rfl) (by kernel_rfl) (by kernel_rfl) (by kernel_rfl)) ?_
  intro W base args ds gs before hval0 hW hcnd _
  have hval : ∀ (j : Nat) t v, Try.f5.params[j]? = some t → args[j]? = some v → Value.okWide Try.prog W .any base t v := hval0
  have hW' := hW
  obtain ⟨p, q, hA0, hV, rfl, hfz, hnd⟩ := hW
  have hA : DataW.TrodAll enc Try.prog W 0 (fun _ => true) true Try.f5.params.toList args.toList ds p := hA0
  rw [Try.params5] at hA hval
  obtain ⟨v0, vs0, d0, ds0, p0, q0, hargs, rfl, rfl, h0, r0⟩ := trodAll_cons hA
  obtain ⟨rfl, rfl, rfl⟩ := trodAll_nil r0
  obtain rfl : args = #[v0] := by cases args; simp_all
  obtain ⟨rfl, rfl⟩ := trodVars_none hV
  have z0 := h0
  have lt0 : ∀ x ∈ p0, x.block < W.heap.size := by obtain ⟨m, hm⟩ := z0; exact DataW.trod_lt m _ _ _ hm
  obtain ⟨k0, u0, t0, rfl⟩ : ∃ k u t, v0 = .agg #[.int .i64 k, .int .i64 u, .int .i64 t] := by
    obtain ⟨c0, c1, c2, y0, y1, y2, m, rfl, _, _, hy0, hy1, hy2⟩ := Go.Joins.open_agg3 Try.underlying34 (by kernel_rfl) cells34 (hval 0 34 v0 rfl rfl) h0
    obtain ⟨n0, q0, _⟩ := DataW.trod_int Try.underlying3 hy0
    obtain ⟨n1, q1, _⟩ := DataW.trod_int Try.underlying3 hy1
    obtain ⟨n2, q2, _⟩ := DataW.trod_int Try.underlying3 hy2
    simp at q0 q1 q2
    subst q0 q1 q2
    exact ⟨n0, n1, n2, rfl⟩
  clear hA0 hval0
  refine (walk k0 u0 t0 W ).mono fun e W' ⟨he, bel⟩ => ?_
  subst he
  exact ⟨_, rfl, _, _, _, [], _, [], hW', trodAll_mk1 (shut_bool Try.underlying4 _), (trodAll_cons_mk (Below.trod laidOut (by kernel_rfl) (of_decide_eq_true (by kernel_rfl)) z0 bel lt0) trodAll_mk0), rfl, bel.frame _, fun h => by cases h⟩

theorem over : Rows.orderNoneRow.holds Try.pinned (OpenSpec.ofChange Rows.orderNoneSpec) :=
  OpenClaim.holds_of_wide 5 Try.f5 rfl rfl rfl rfl rfl rfl rfl ⟨rfl, rfl, rfl, rfl, rfl⟩ rfl rfl rfl rfl rfl (by kernel_rfl) Try.func5 (by kernel_rfl)
    (of_decide_eq_true (by kernel_rfl)) (by unfold Func.isWrapper; first | (rw [if_pos (by decide +kernel)]; kernel_rfl) | (rw [if_neg (by decide +kernel)]; exact ⟨rfl, rfl⟩))
    (fun os started H enc _ => lifted os started H enc)

theorem proved : Rows.OrderNoneSaid := over
#print axioms proved
end Go.Proofs.Ytbddhjohlpblaaa.orderNone
