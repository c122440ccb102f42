/-
  A watch that is none, and one that is handed no trail, answer 0 and the error, false, none, and -1 and true.
-/
import Derived.Test.YtbfaigeopkonbaaRows
import Derived.Test.YtbfaigeopkonbaaWPlay
import Derived.WalkKit
import Derived.ProofKit
import Derived.OpenShut
import Derived.ShutString
import Derived.ChangeOld
import Derived.Below
import Derived.Test.YtbfaigeopkonbaaWNone
namespace Go.Proofs.Ytbfaigeopkonbaa.watchNone
open Go.ChangeShapes Go.WideShapes Go.ChangeAt Go.RowKit
open Go.ChangeMaps (open_string shut_string)
set_option linter.unusedVariables false

theorem own : ownKnob Try.prog.godebug = none := by kernel_rfl
theorem laidOut : laidOutB Try.prog = true := by kernel_rfl

set_option maxRecDepth 20000 in
set_option maxHeartbeats 4000000 in
theorem walk (k0 v0 : Int) (a0 : Option Addr) (m0 c0 : Nat) (xs0 : List Int) (w : World) (hv0 : -9223372036854775808 ≤ v0 ∧ v0 ≤ 9223372036854775807) (hr0 : U.Row w a0 m0 c0 xs0) :
    Calls Try.prog 5 #[.agg #[.int .i64 k0, .int .i64 v0, .slice a0 m0 c0]] w fun e w' => e = .returned (.bool true) ∧ Below w.heap.size w w' := by
  have B1 : Hid (Below w.heap.size w (w.alloc (.cells #[.int .i64 k0, .int .i64 v0, .slice a0 m0 c0] 38))) := hid (by go_grown)
  have N1 : Hid ((w.alloc (.cells #[.int .i64 k0, .int .i64 v0, .slice a0 m0 c0] 38)).heap[w.heap.size]? = some (.cells #[.int .i64 k0, .int .i64 v0, .slice a0 m0 c0] 38 (0, 0))) := hid (new_same w _)
  have hfd := field55
  clear hr0
  go_enter Try.func5, Try.ntmps5
  go_upto_region 2 with fail
  revert B1 N1
  generalize (w.alloc (.cells #[.int .i64 k0, .int .i64 v0, .slice a0 m0 c0] 38)) = W
  intro B1 N1
  have j1 := wbox_cells N1.out
  obtain ⟨⟨d0, d1, d2⟩, -, -, -⟩ := j1
  have BD := hid (below_drew W)
  go_cut [4, 5] from 13 to 97 (fun x y wx => x = .int .i64 0 ∧ y = .int .i64 1 ∧ Hid (Below W.heap.size W wx))
  case first =>
    go_region_with (first
      | (go_at_call 8; with_reducible (refine (new_is 3 _).mono ?_); rintro e w1 ⟨k, rfl, o1, hn, hB, b1⟩; have B2 := hid (Below.next BD.out b1.out); have f2 := cell_be d2 B2.out)
      | (go_at_call 17; with_reducible (refine (add_none1 _ _ _ _ _).mono ?_); rintro e w2 ⟨rfl, rfl⟩))
    all_goals go_wp2_with fail
    all_goals go_meet
    all_goals exact ⟨rfl, rfl, B2⟩
  case rest =>
    obtain ⟨rfl, rfl, B3⟩ := hcut
    clear BD
    have f1 := cell_be d1 B3.out
    go_wp2_with (first
      | (go_at_call 8; with_reducible (refine (new_is 3 _).mono ?_); rintro e w4 ⟨k4, rfl, o4, hn4, hB4, b4⟩; have f2 := cell_be f1 b4.out)
      | (go_at_call 18; with_reducible (refine (run_none1 _ _).mono ?_); rintro e w5 ⟨rfl, rfl⟩)
      | (go_at_call 9; with_reducible (refine (wnew_is 3 _ 0 (Nat.zero_le _)).mono ?_); rintro e w6 ⟨kw, rfl, s6, hn6, hB6, b6⟩; have f3 := cell_be f2 b6.out)
      | (go_at_call 18; with_reducible (refine (run_none2 _ _).mono ?_); rintro e w7 ⟨rfl, rfl⟩)
      | (go_at_call 17; with_reducible (refine (add_none2 _ _ _ _ _).mono ?_); rintro e w8 ⟨rfl, rfl⟩)
      | (go_at_call 21; with_reducible (refine (remove_none _ _).mono ?_); rintro e w9 ⟨rfl, rfl⟩)
      | (go_at_call 20; with_reducible (refine (wclause_none _ _).mono ?_); rintro e w10 ⟨rfl, rfl⟩)
      | (go_at_call 12; with_reducible (refine (len_none _).mono ?_); rintro e w11 ⟨rfl, rfl⟩)
      | (go_at_call 22; with_reducible (refine (rnew10_neg _).mono ?_); rintro e w12 ⟨rfl, b12⟩)
      | (go_at_call 7; with_reducible (refine (awake_any _).mono ?_); rintro e w13 ⟨rfl, b13⟩))
    go_ret
    exact ⟨rfl, Below.next (Below.next (Below.next (Below.next (Below.next B1.out B3.out) b4.out) b6.out) b12.out) b13.out⟩

set_option maxRecDepth 100000 in
theorem lifted (os : Os) (started : os.Started) (H : Type) (enc : TypeId × Value → H) :
    ReturnsInHanded {} Try.checked os 5 .any (Rows.watchNoneSpec.pre6 enc Try.prog Try.f5 Rows.watchNoneRow.domain false) (Rows.watchNoneSpec.post enc Try.prog Try.f5 false true false false) := by
  refine returnsInHanded_of_change (C := Try.checked) own started (by kernel_rfl) Try.func5
    (ChangeSpec.witness6 (enc := enc) (C := Try.checked) false ⟨#[], #[.agg #[.int .i64 0, .int .i64 0, .slice none 0 0]], []⟩ 8 (by kernel_rfl) (by kernel_rfl) (by kernel_rfl) (by kernel_rfl)) ?_
  intro W base args ds gs before hval0 hW hcnd _
  have hval : ∀ (j : Nat) t v, Try.f5.params[j]? = some t → args[j]? = some v → Value.okWide Try.prog W .any base t v := hval0
  have hW' := hW
  obtain ⟨p, q, hA0, hV, rfl, hfz, hnd⟩ := hW
  have hA : DataW.TrodAll enc Try.prog W 0 (fun _ => true) true Try.f5.params.toList args.toList ds p := hA0
  rw [Try.params5] at hA hval
  obtain ⟨v0, vs0, d0, ds0, p0, q0, hargs, rfl, rfl, h0, r0⟩ := trodAll_cons hA
  obtain ⟨rfl, rfl, rfl⟩ := trodAll_nil r0
  obtain rfl : args = #[v0] := by cases args; simp_all
  obtain ⟨rfl, rfl⟩ := trodVars_none hV
  have z0 := h0
  have lt0 : ∀ x ∈ p0, x.block < W.heap.size := by obtain ⟨m, hm⟩ := z0; exact DataW.trod_lt m _ _ _ hm
  obtain ⟨k0, u0, a0, m0, c0, xs0, rfl, hv0, hr0⟩ : ∃ k u a m c xs, v0 = .agg #[.int .i64 k, .int .i64 u, .slice a m c] ∧ (-9223372036854775808 ≤ u ∧ u ≤ 9223372036854775807) ∧ U.Row W a m c xs := by
    obtain ⟨c0, c1, c2, y0, y1, y2, m, rfl, _, _, hy0, hy1, hy2⟩ := Go.Joins.open_agg3 Try.underlying38 (by kernel_rfl) cells38 (hval 0 38 v0 rfl rfl) h0
    obtain ⟨n0, q0, _⟩ := DataW.trod_int Try.underlying3 hy0
    obtain ⟨n1, q1, _, f1⟩ := DataW.trod_int Try.underlying3 hy1
    obtain ⟨a2, m2, k2, xs2, q2, r2⟩ := row_at hy2
    simp at q0 q1 q2
    subst q0 q1 q2
    exact ⟨n0, n1, a2, m2, k2, xs2, rfl, wf_two f1, r2⟩
  clear hA0 hval0
  refine (walk k0 u0 a0 m0 c0 xs0 W hv0 hr0).mono fun e W' ⟨he, bel⟩ => ?_
  subst he
  exact ⟨_, rfl, _, _, _, [], _, [], hW', trodAll_mk1 (shut_bool Try.underlying4 _), (trodAll_cons_mk (Below.trod laidOut (by kernel_rfl) (of_decide_eq_true (by kernel_rfl)) z0 bel lt0) trodAll_mk0), rfl, bel.frame _, fun h => by cases h⟩

theorem over : Rows.watchNoneRow.holds Try.pinned (OpenSpec.ofChange Rows.watchNoneSpec) :=
  OpenClaim.holds_of_wide 5 Try.f5 rfl rfl rfl rfl rfl rfl rfl ⟨rfl, rfl, rfl, rfl, rfl⟩ rfl rfl rfl rfl rfl (by kernel_rfl) Try.func5 (by kernel_rfl)
    (of_decide_eq_true (by kernel_rfl)) (by unfold Func.isWrapper; first | (rw [if_pos (by decide +kernel)]; kernel_rfl) | (rw [if_neg (by decide +kernel)]; exact ⟨rfl, rfl⟩))
    (fun os started H enc _ => lifted os started H enc)

theorem proved : Rows.WatchNoneSaid := over
#print axioms proved
end Go.Proofs.Ytbfaigeopkonbaa.watchNone
