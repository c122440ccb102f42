/-
  LitLooks, on the frame that the guide's program writes.
-/
import Derived.Test.YtdbgkoncbkbkfaaRows
import Derived.Test.YtdbgkoncbkbkfaaAwake
import Derived.Test.YtdbgkoncbkbkfaaRefs
import Derived.Deep.Grids
import Derived.WalkKit
import Derived.ProofKit
import Derived.OpenShut
import Derived.ShutString
import Derived.ChangeOld
import Derived.Below
namespace Go.Proofs.Ytdbgkoncbkbkfaa.litLooks
open Go.ChangeShapes Go.WideShapes Go.ChangeAt Go.RowKit
open Go.ChangeMaps (open_string shut_string)
set_option linter.unusedVariables false

theorem own : ownKnob Try.prog.godebug = none := by kernel_rfl
theorem laidOut : laidOutB Try.prog = true := by kernel_rfl

theorem walk (a0 : Int) (a1 : Option Addr) (len1 cap1 : Nat) (z1 : Nat → Bool) (w : World) (w0 : (Lit.int .i64 a0).wf = true) (w1 : IsBools w a1 len1 cap1 z1) :
    Calls Try.prog 4 #[.int .i64 a0, .slice a1 len1 cap1] w fun e w' => e = .returned (.bool true) ∧ Below w.heap.size w w' := by
  have u0 := (wf_i64 w0).2
  have hb := Below.refl w.heap.size w
  have hB : Hid (IsBools w a1 len1 cap1 z1) := w1
  clear w1
  by_cases h : (1000 : Int) < len1
  · go_enter Try.func4, Try.ntmps4
    go_wp2_with (go_at_call 10; with_reducible (refine (awake_any _).mono ?_); rintro e w1 ⟨rfl, hc⟩; replace hb := Below.next hb hc; clear hc)
    go_ret
    exact ⟨rfl, hb⟩
  · go_enter Try.func4, Try.ntmps4
    go_wp2_with (
      first
      | (go_at_call 11; with_reducible (refine (var_any _ _ u0).mono ?_); rintro e w1 ⟨rfl, hc⟩; replace hb := Below.next hb hc; replace hB := keepB hB hc; clear hc)
      | (go_at_call 12; with_reducible (refine (rvar_any _ _ u0).mono ?_); rintro e w1 ⟨rfl, rfl⟩)
      | (go_at_call 13; with_reducible (refine (neg_any _ _ u0).mono ?_); rintro e w1 ⟨rfl, hc⟩; replace hb := Below.next hb hc; replace hB := keepB hB hc; clear hc)
      | (go_at_call 14; with_reducible (refine (rneg_any _ _ u0).mono ?_); rintro e w1 ⟨rfl, rfl⟩)
      | (go_at_call 15; with_reducible (refine (not_any _ _ u0).mono ?_); rintro e w1 ⟨rfl, hc⟩; replace hb := Below.next hb hc; replace hB := keepB hB hc; clear hc)
      | (go_at_call 16; with_reducible (refine (rnot_any _ _ u0).mono ?_); rintro e w1 ⟨rfl, rfl⟩)
      | (go_at_call 17; with_reducible (refine (number_any _ _ u0).mono ?_); rintro e w1 ⟨rfl, hc⟩; replace hb := Below.next hb hc; replace hB := keepB hB hc; clear hc)
      | (go_at_call 18; with_reducible (refine (rnumber_any _ _ u0).mono ?_); rintro e w1 ⟨rfl, rfl⟩)
      | (go_at_call 19; with_reducible (refine (holds_any _ _ _ _ _ z1 hB.out u0).mono ?_); rintro e w1 ⟨rfl, hc⟩; replace hb := Below.next hb hc; replace hB := keepB hB hc; clear hc)
      | (go_at_call 20; with_reducible (refine (rholds_any _ _ _ _ _ z1 hB.out u0).mono ?_); rintro e w1 ⟨rfl, rfl⟩)
      | (go_at_call 10; with_reducible (refine (awake_any _).mono ?_); rintro e w1 ⟨rfl, hc⟩; replace hb := Below.next hb hc; replace hB := keepB hB hc; clear hc))
    go_ret
    exact ⟨rfl, hb⟩

/-! ### THE ROW's STEP: WRITTEN OUT: LEAVE IT -/
set_option maxRecDepth 100000 in
theorem lifted (os : Os) (started : os.Started) (H : Type) (enc : TypeId × Value → H) :
    ReturnsInHanded {} Try.checked os 4 .any (Rows.litLooksSpec.pre6 enc Try.prog Try.f4 Rows.litLooksRow.domain false) (Rows.litLooksSpec.post enc Try.prog Try.f4 false true false false) := by
  refine returnsInHanded_of_change (C := Try.checked) own started (by kernel_rfl) Try.func4
    (ChangeSpec.witness6 (enc := enc) (C := Try.checked) false ⟨#[], #[.int .i64 0, .slice none 0 0], []⟩ 8 (by kernel_rfl) (by kernel_rfl) (by kernel_rfl) (by kernel_rfl)) ?_
  intro W base args ds gs before hval0 hW hcnd _
  have hval : ∀ (j : Nat) t v, Try.f4.params[j]? = some t → args[j]? = some v → Value.okWide Try.prog W .any base t v := hval0
  have hW' := hW
  obtain ⟨p, q, hA0, hV, rfl, hfz, hnd⟩ := hW
  have hA : DataW.TrodAll enc Try.prog W 0 (fun _ => true) true Try.f4.params.toList args.toList ds p := hA0
  rw [Try.params4] at hA hval
  obtain ⟨v0, vs0, d0, ds0, p0, q0, hargs, rfl, rfl, h0, r0⟩ := trodAll_cons hA
  obtain ⟨v1, vs1, d1, ds1, p1, q1, rfl, rfl, rfl, h1, r1⟩ := trodAll_cons r0
  obtain ⟨rfl, rfl, rfl⟩ := trodAll_nil r1
  obtain rfl : args = #[v0, v1] := by cases args; simp_all
  obtain ⟨rfl, rfl⟩ := trodVars_none hV
  obtain ⟨a0, rfl, rfl, rfl, w0⟩ := open_int Try.underlying3 (hval 0 3 v0 rfl rfl) h0
  obtain ⟨a1, len1, cap1, rfl⟩ := okWide_slice Try.underlying31 (hval 1 31 v1 rfl rfl)
  have k1 := h1
  have lt1 : ∀ x ∈ p1, x.block < W.heap.size := by obtain ⟨m, hm⟩ := k1; exact DataW.trod_lt m _ _ _ hm
  obtain ⟨z1, w1⟩ : ∃ zs, IsBools W a1 len1 cap1 zs := by
    obtain ⟨fuel, hf⟩ := h1
    rcases Go.Deep.open_bools Try.underlying31 Try.underlying4 (by kernel_rfl) hf with ⟨hcs, _⟩ | ⟨x, l, c, B, hcs, _, hl, hm, _, hcell⟩
    · simp [Value.cells] at hcs
      obtain ⟨rfl, rfl, rfl⟩ := hcs
      exact ⟨fun _ => false, .inl ⟨rfl, rfl, rfl⟩⟩
    · simp [Value.cells] at hcs
      obtain ⟨rfl, rfl, rfl⟩ := hcs
      exact ⟨B, .inr ⟨_, rfl, hl, hm, fun i hi => hcell i (by omega)⟩⟩
  clear hA0 hval0
  refine (walk a0 a1 len1 cap1 z1 W w0 w1).mono fun e W' ⟨he, bel⟩ => ?_
  subst he
  exact ⟨_, rfl, _, _, _, [], _, [], hW', trodAll_mk1 (shut_bool Try.underlying4 _), (trodAll_cons_mk (shut_int Try.underlying3 w0) (trodAll_cons_mk (Below.trod laidOut (by kernel_rfl) (of_decide_eq_true (by kernel_rfl)) k1 bel lt1) trodAll_mk0)), rfl, bel.frame _, fun h => by cases h⟩

theorem over : Rows.litLooksRow.holds Try.pinned (OpenSpec.ofChange Rows.litLooksSpec) :=
  OpenClaim.holds_of_wide 4 Try.f4 rfl rfl rfl rfl rfl rfl rfl ⟨rfl, rfl, rfl, rfl, rfl⟩ rfl rfl rfl rfl rfl (by kernel_rfl) Try.func4 (by kernel_rfl)
    (of_decide_eq_true (by kernel_rfl)) (by unfold Func.isWrapper; first | (rw [if_pos (by decide +kernel)]; kernel_rfl) | (rw [if_neg (by decide +kernel)]; exact ⟨rfl, rfl⟩))
    (fun os started H enc _ => lifted os started H enc)

/-- ████ THE STATEMENT ████ -/
theorem proved : Rows.LitLooksSaid := over
#print axioms proved
end Go.Proofs.Ytdbgkoncbkbkfaa.litLooks
