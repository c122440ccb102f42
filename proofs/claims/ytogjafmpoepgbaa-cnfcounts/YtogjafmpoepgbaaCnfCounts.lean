/-
  CnfCounts: for every number of variables and every list of clauses; no condition.
-/
import Derived.Test.YtogjafmpoepgbaaRows
import Derived.Test.YtogjafmpoepgbaaAwake
import Derived.WalkKit
import Derived.ProofKit
import Derived.OpenShut
import Derived.ShutString
import Derived.ChangeOld
import Derived.Below
namespace Go.Proofs.Ytogjafmpoepgbaa.cnfCounts
open Go.ChangeShapes Go.WideShapes Go.ChangeAt Go.RowKit
open Go.ChangeMaps (open_string shut_string)
set_option linter.unusedVariables false

theorem own : ownKnob Try.prog.godebug = none := by kernel_rfl
theorem laidOut : laidOutB Try.prog = true := by kernel_rfl

set_option maxHeartbeats 4000000 in
theorem walk (a0 : Int) (a1 : Option Addr) (len1 cap1 : Nat) (z1 : List (List Int)) (w : World) (w0 : (Lit.int .i64 a0).wf = true) (w1 : Grid w a1 len1 cap1 z1) :
    Calls Try.prog 4 #[.int .i64 a0, .slice a1 len1 cap1] w fun e w' => e = .returned (.bool true) ∧ Below w.heap.size w w' := by
  have R1 : Hid (Grid w a1 len1 cap1 z1) := w1
  clear w0
  by_cases h : fewF z1 60 = 0
  · clear w1
    go_enter Try.func4, Try.ntmps4
    go_wp2_with (first
      | (go_at_call 6; with_reducible (refine (few_any _ _ _ z1 _ _ R1.out).mono ?_); rintro e w8 ⟨rfl, rfl⟩)
      | (go_at_call 7; with_reducible (refine (awake_any _).mono ?_); rintro e w9 ⟨rfl, b9⟩))
    go_ret
    exact ⟨rfl, b9⟩
  have hf : (fewF z1 60 == 0) = false := by simpa using h
  have hL : len1 ≤ 1000 := by have := few_len (most := 60) h; rw [w1.1] at this; omega
  clear w1 h
  by_cases h8 : 8 < a0
  · by_cases h17 : a0 < 17
    · go_enter Try.func4, Try.ntmps4
      go_wp2_with (first
        | (go_at_call 6; with_reducible (refine (few_any _ _ _ z1 _ _ R1.out).mono ?_); rintro e w8 ⟨rfl, rfl⟩)
        | (go_at_call 7; with_reducible (refine (awake_any _).mono ?_); rintro e w9 ⟨rfl, b9⟩))
      go_ret
      exact ⟨rfl, b9⟩
    go_enter Try.func4, Try.ntmps4
    go_wp2_with (first
      | (go_at_call 6; with_reducible (refine (few_any _ _ _ z1 _ _ R1.out).mono ?_); rintro e w8 ⟨rfl, rfl⟩)
      | (go_at_call 12; with_reducible (refine (count_any _ _ _ _ z1 _ R1.out hL).mono ?_); rintro e x1 ⟨rfl, b1⟩)
      | (go_at_call 13; with_reducible (refine (rcount_any _ _ _ _ z1 _ (R1.out.keep b1)).mono ?_); rintro e x2 ⟨rfl, b2⟩)
      | (go_at_call 14; with_reducible (refine (first_any _ _ _ _ z1 _ (R1.out.keep (Below.next b1 b2)) hL).mono ?_); rintro e x3 ⟨o3, c3, rfl, B3, b3⟩)
      | (go_at_call 15; with_reducible (refine (rfirst_any _ _ _ _ z1 _ (R1.out.keep (Below.next (Below.next b1 b2) b3))).mono ?_); rintro e x4 ⟨o4, c4, rfl, B4, b4⟩)
      | (go_at_call 16; with_reducible (refine (bools_same _ _ _ _ _ _ _ (B3.out.keep b4) B4.out (len_le _ _)).mono ?_); rintro e x5 ⟨rfl, b5⟩)
      | (go_at_call 7; with_reducible (refine (awake_any _).mono ?_); rintro e w9 ⟨rfl, b9⟩))
    go_ret
    exact ⟨rfl, Below.next (Below.next (Below.next (Below.next (Below.next b1 b2) b3) b4) b5) b9⟩
  · go_enter Try.func4, Try.ntmps4
    go_wp2_with (first
      | (go_at_call 6; with_reducible (refine (few_any _ _ _ z1 _ _ R1.out).mono ?_); rintro e w8 ⟨rfl, rfl⟩)
      | (go_at_call 12; with_reducible (refine (count_any _ _ _ _ z1 _ R1.out hL).mono ?_); rintro e x1 ⟨rfl, b1⟩)
      | (go_at_call 13; with_reducible (refine (rcount_any _ _ _ _ z1 _ (R1.out.keep b1)).mono ?_); rintro e x2 ⟨rfl, b2⟩)
      | (go_at_call 14; with_reducible (refine (first_any _ _ _ _ z1 _ (R1.out.keep (Below.next b1 b2)) hL).mono ?_); rintro e x3 ⟨o3, c3, rfl, B3, b3⟩)
      | (go_at_call 15; with_reducible (refine (rfirst_any _ _ _ _ z1 _ (R1.out.keep (Below.next (Below.next b1 b2) b3))).mono ?_); rintro e x4 ⟨o4, c4, rfl, B4, b4⟩)
      | (go_at_call 16; with_reducible (refine (bools_same _ _ _ _ _ _ _ (B3.out.keep b4) B4.out (len_le _ _)).mono ?_); rintro e x5 ⟨rfl, b5⟩)
      | (go_at_call 7; with_reducible (refine (awake_any _).mono ?_); rintro e w9 ⟨rfl, b9⟩))
    go_ret
    exact ⟨rfl, Below.next (Below.next (Below.next (Below.next (Below.next b1 b2) b3) b4) b5) b9⟩

set_option maxRecDepth 100000 in
theorem lifted (os : Os) (started : os.Started) (H : Type) (enc : TypeId × Value → H) :
    ReturnsInHanded {} Try.checked os 4 .any (Rows.cnfCountsSpec.pre6 enc Try.prog Try.f4 Rows.cnfCountsRow.domain false) (Rows.cnfCountsSpec.post enc Try.prog Try.f4 false true false false) := by
  refine returnsInHanded_of_change (C := Try.checked) own started (by kernel_rfl) Try.func4
    (ChangeSpec.witness6 (enc := enc) (C := Try.checked) false ⟨#[], #[.int .i64 0, .slice none 0 0], []⟩ 8 (by kernel_rfl) (by kernel_rfl) (by kernel_rfl) (by kernel_rfl)) ?_
  intro W base args ds gs before hval0 hW hcnd _
  have hval : ∀ (j : Nat) t v, Try.f4.params[j]? = some t → args[j]? = some v → Value.okWide Try.prog W .any base t v := hval0
  have hW' := hW
  obtain ⟨p, q, hA0, hV, rfl, hfz, hnd⟩ := hW
  have hA : DataW.TrodAll enc Try.prog W 0 (fun _ => true) true Try.f4.params.toList args.toList ds p := hA0
  rw [Try.params4] at hA hval
  obtain ⟨v0, vs0, d0, ds0, p0, q0, hargs, rfl, rfl, h0, r0⟩ := trodAll_cons hA
  obtain ⟨v1, vs1, d1, ds1, p1, q1, rfl, rfl, rfl, h1, r1⟩ := trodAll_cons r0
  obtain ⟨rfl, rfl, rfl⟩ := trodAll_nil r1
  obtain rfl : args = #[v0, v1] := by cases args; simp_all
  obtain ⟨rfl, rfl⟩ := trodVars_none hV
  obtain ⟨a0, rfl, rfl, rfl, w0⟩ := open_int Try.underlying3 (hval 0 3 v0 rfl rfl) h0
  obtain ⟨a1, len1, cap1, rfl⟩ := okWide_slice Try.underlying22 (hval 1 22 v1 rfl rfl)
  have k1 := h1
  have lt1 : ∀ x ∈ p1, x.block < W.heap.size := by obtain ⟨m, hm⟩ := k1; exact DataW.trod_lt m _ _ _ hm
  obtain ⟨z1, w1⟩ : ∃ zs, Grid W a1 len1 cap1 zs := by
    obtain ⟨fuel, hf⟩ := h1
    exact grid_of hf
  clear hA0 hval0
  refine (walk a0 a1 len1 cap1 z1 W w0 w1).mono fun e W' ⟨he, bel⟩ => ?_
  subst he
  exact ⟨_, rfl, _, _, _, [], _, [], hW', trodAll_mk1 (shut_bool Try.underlying4 _), (trodAll_cons_mk (shut_int Try.underlying3 w0) (trodAll_cons_mk (Below.trod laidOut (by kernel_rfl) (of_decide_eq_true (by kernel_rfl)) k1 bel lt1) trodAll_mk0)), rfl, bel.frame _, fun h => by cases h⟩

theorem over : Rows.cnfCountsRow.holds Try.pinned (OpenSpec.ofChange Rows.cnfCountsSpec) :=
  OpenClaim.holds_of_wide 4 Try.f4 rfl rfl rfl rfl rfl rfl rfl ⟨rfl, rfl, rfl, rfl, rfl⟩ rfl rfl rfl rfl rfl (by kernel_rfl) Try.func4 (by kernel_rfl)
    (of_decide_eq_true (by kernel_rfl)) (by unfold Func.isWrapper; first | (rw [if_pos (by decide +kernel)]; kernel_rfl) | (rw [if_neg (by decide +kernel)]; exact ⟨rfl, rfl⟩))
    (fun os started H enc _ => lifted os started H enc)

theorem proved : Rows.CnfCountsSaid := over
#print axioms proved
end Go.Proofs.Ytogjafmpoepgbaa.cnfCounts
