/-
  CnfParts: for every number of variables, every list of clauses and every byte; no condition.
-/
import Derived.Test.YtogjafmpoepgbaaRows
import Derived.Test.YtogjafmpoepgbaaMore
import Derived.WalkKit
import Derived.ProofKit
import Derived.OpenShut
import Derived.ShutString
import Derived.ChangeOld
import Derived.Below
namespace Go.Proofs.Ytogjafmpoepgbaa.cnfParts
open Go.ChangeShapes Go.WideShapes Go.ChangeAt Go.RowKit
open Go.ChangeMaps (open_string shut_string)
set_option linter.unusedVariables false

theorem own : ownKnob Try.prog.godebug = none := by kernel_rfl
theorem laidOut : laidOutB Try.prog = true := by kernel_rfl

set_option maxHeartbeats 4000000 in
theorem walk (a0 : Int) (a1 : Option Addr) (len1 cap1 : Nat) (z1 : List (List Int)) (a2 : Int) (w : World) (w0 : (Lit.int .i64 a0).wf = true) (w1 : Grid w a1 len1 cap1 z1) (w2 : (Lit.int .u8 a2).wf = true) :
    Calls Try.prog 5 #[.int .i64 a0, .slice a1 len1 cap1, .int .u8 a2] w fun e w' => e = .returned (.bool true) ∧ Below w.heap.size w w' := by
  have R1 : Hid (Grid w a1 len1 cap1 z1) := w1
  have hN := w1.1
  have hb2 : 0 ≤ a2 ∧ a2 ≤ 255 := by simp [Lit.wf, IntKind.min, IntKind.max, IntKind.signed, IntKind.bits] at w2; omega
  obtain ⟨q0, q1⟩ := hb2
  clear w0 w1 w2
  by_cases h : fewF z1 60 = 0
  · clear hN
    go_enter Try.func5, Try.ntmps5
    go_wp2_with (first
      | (go_at_call 6; with_reducible (refine (few_any _ _ _ z1 _ _ R1.out).mono ?_); rintro e w8 ⟨rfl, rfl⟩)
      | (go_at_call 7; with_reducible (refine (awake_any _).mono ?_); rintro e w9 ⟨rfl, b9⟩))
    go_ret
    exact ⟨rfl, b9⟩
  have hf : (fewF z1 60 == 0) = false := by simpa using h
  have hz : z1.length ≤ 60 := few_len (most := 60) h
  have HZ : Hid (z1.length ≤ 1000) := hid (by omega)
  have hL : len1 ≤ 60 := by omega
  clear hN h hz
  by_cases h1 : a0 < 1
  · go_enter Try.func5, Try.ntmps5
    go_wp2_with (first
      | (go_at_call 6; with_reducible (refine (few_any _ _ _ z1 _ _ R1.out).mono ?_); rintro e w8 ⟨rfl, rfl⟩)
      | (go_at_call 7; with_reducible (refine (awake_any _).mono ?_); rintro e w9 ⟨rfl, b9⟩))
    go_ret
    exact ⟨rfl, b9⟩
  by_cases h8 : 8 < a0
  · go_enter Try.func5, Try.ntmps5
    go_wp2_with (first
      | (go_at_call 6; with_reducible (refine (few_any _ _ _ z1 _ _ R1.out).mono ?_); rintro e w8 ⟨rfl, rfl⟩)
      | (go_at_call 7; with_reducible (refine (awake_any _).mono ?_); rintro e w9 ⟨rfl, b9⟩))
    go_ret
    exact ⟨rfl, b9⟩
  by_cases hc : chkF a0 z1 = 0
  · obtain ⟨v, rfl⟩ := Int.eq_ofNat_of_zero_le (show 0 ≤ a0 by omega)
    obtain ⟨t, rfl⟩ := Int.eq_ofNat_of_zero_le q0
    have hv1 : 1 ≤ v := by omega
    have hv8 : v ≤ 8 := by omega
    obtain ⟨y, hy⟩ : ∃ y : Nat, (t : Int) % (v : Int) = (y : Int) := ⟨t % v, by simp⟩
    have hyv : y < v := by
      have := Int.emod_lt_of_pos (t : Int) (show 0 < (v : Int) by omega)
      omega
    obtain ⟨c1, c2, c3, hc1, hc2, hc3, hs, hle⟩ := parts_fact hc hv8 HZ.out hyv
    have hw : wrap64 (2 * (y : Int)) = 2 * (y : Int) := by unfold wrap64; omega
    have hs2 : (c1 : Int) + c2 = c3 := by omega
    have hle2 : (c3 : Int) ≤ 65536 := by omega
    have hy8 : (y : Int) ≤ 8 := by omega
    have hy9 : y ≤ 8 := by omega
    clear hs hyv
    go_enter Try.func5, Try.ntmps5
    go_wp2_with (first
      | (go_at_call 6; with_reducible (refine (few_any _ _ _ z1 _ _ R1.out).mono ?_); rintro e w8 ⟨rfl, rfl⟩)
      | (go_at_call 8; with_reducible (refine (check_any _ _ _ _ z1 _ R1.out).mono ?_); rintro e x1 ⟨rfl, b1⟩)
      | (at_builtin; refine append_grid rfl (.tmp 39) (.tmp 40) rfl x1 rfl rfl a1 len1 cap1 rfl z1 (R1.out.keep b1) (by omega) ?_; intro vs2 v2 x2 hl2 gv2 ow2 bl2)
      | (at_builtin; refine append_one rfl (.tmp 41) (.tmp 44) rfl x1 (2 * (y : Int)) rfl len1 v2 vs2 z1 rfl hl2 gv2.out ow2.out bl2.out rfl (by omega) (by omega) (by omega) ?_; intro o3 k3 x3 gr3 bl3)
      | (go_at_call 12; with_reducible (refine (count_any _ _ _ _ (z1 ++ [[2 * (y : Int)]]) _ gr3.out (by omega)).mono ?_); rintro e x4 ⟨rfl, b4⟩)
      | (at_builtin; refine append_grid rfl (.tmp 51) (.tmp 52) rfl x4 rfl rfl a1 len1 cap1 rfl z1 (R1.out.keep (Below.next (Below.next b1 bl3.out) b4)) (by omega) ?_; intro vs5 v5 x5 hl5 gv5 ow5 bl5)
      | (at_builtin; refine append_one rfl (.tmp 53) (.tmp 57) rfl x4 (2 * (y : Int) + 1) rfl len1 v5 vs5 z1 rfl hl5 gv5.out ow5.out bl5.out rfl (by omega) (by omega) (by omega) ?_; intro o6 k6 x6 gr6 bl6)
      | (go_at_call 12; with_reducible (refine (count_any _ _ _ _ (z1 ++ [[2 * (y : Int) + 1]]) _ gr6.out (by omega)).mono ?_); rintro e x7 ⟨rfl, b7⟩)
      | (go_at_call 12; with_reducible (refine (count_any _ _ _ _ z1 _ (R1.out.keep (Below.next (Below.next (Below.next (Below.next b1 bl3.out) b4) bl6.out) b7)) (by omega)).mono ?_); rintro e x8 ⟨rfl, b8⟩)
      | (go_at_call 7; with_reducible (refine (awake_any _).mono ?_); rintro e w9 ⟨rfl, b9⟩))
    go_ret
    exact ⟨rfl, Below.next (Below.next (Below.next (Below.next (Below.next (Below.next b1 bl3.out) b4) bl6.out) b7) b8) b9⟩
  · have hc' : (chkF a0 z1 != 0) = true := by simpa using hc
    go_enter Try.func5, Try.ntmps5
    go_wp2_with (first
      | (go_at_call 6; with_reducible (refine (few_any _ _ _ z1 _ _ R1.out).mono ?_); rintro e w8 ⟨rfl, rfl⟩)
      | (go_at_call 8; with_reducible (refine (check_any _ _ _ _ z1 _ R1.out).mono ?_); rintro e x1 ⟨rfl, b1⟩)
      | (go_at_call 7; with_reducible (refine (awake_any _).mono ?_); rintro e w9 ⟨rfl, b9⟩))
    go_ret
    exact ⟨rfl, Below.next b1 b9⟩

set_option maxRecDepth 100000 in
theorem lifted (os : Os) (started : os.Started) (H : Type) (enc : TypeId × Value → H) :
    ReturnsInHanded {} Try.checked os 5 .any (Rows.cnfPartsSpec.pre6 enc Try.prog Try.f5 Rows.cnfPartsRow.domain false) (Rows.cnfPartsSpec.post enc Try.prog Try.f5 false true false false) := by
  refine returnsInHanded_of_change (C := Try.checked) own started (by kernel_rfl) Try.func5
    (ChangeSpec.witness6 (enc := enc) (C := Try.checked) false ⟨#[], #[.int .i64 0, .slice none 0 0, .int .u8 0], []⟩ 8 (by kernel_rfl) (by kernel_rfl) (by kernel_rfl) (by kernel_rfl)) ?_
  intro W base args ds gs before hval0 hW hcnd _
  have hval : ∀ (j : Nat) t v, Try.f5.params[j]? = some t → args[j]? = some v → Value.okWide Try.prog W .any base t v := hval0
  have hW' := hW
  obtain ⟨p, q, hA0, hV, rfl, hfz, hnd⟩ := hW
  have hA : DataW.TrodAll enc Try.prog W 0 (fun _ => true) true Try.f5.params.toList args.toList ds p := hA0
  rw [Try.params5] at hA hval
  obtain ⟨v0, vs0, d0, ds0, p0, q0, hargs, rfl, rfl, h0, r0⟩ := trodAll_cons hA
  obtain ⟨v1, vs1, d1, ds1, p1, q1, rfl, rfl, rfl, h1, r1⟩ := trodAll_cons r0
  obtain ⟨v2, vs2, d2, ds2, p2, q2, rfl, rfl, rfl, h2, r2⟩ := trodAll_cons r1
  obtain ⟨rfl, rfl, rfl⟩ := trodAll_nil r2
  obtain rfl : args = #[v0, v1, v2] := by cases args; simp_all
  obtain ⟨rfl, rfl⟩ := trodVars_none hV
  obtain ⟨a0, rfl, rfl, rfl, w0⟩ := open_int Try.underlying3 (hval 0 3 v0 rfl rfl) h0
  obtain ⟨a1, len1, cap1, rfl⟩ := okWide_slice Try.underlying22 (hval 1 22 v1 rfl rfl)
  have k1 := h1
  have lt1 : ∀ x ∈ p1, x.block < W.heap.size := by obtain ⟨m, hm⟩ := k1; exact DataW.trod_lt m _ _ _ hm
  obtain ⟨z1, w1⟩ : ∃ zs, Grid W a1 len1 cap1 zs := by
    obtain ⟨fuel, hf⟩ := h1
    exact grid_of hf
  obtain ⟨a2, rfl, rfl, rfl, w2⟩ := open_int Try.underlying5 (hval 2 5 v2 rfl rfl) h2
  clear hA0 hval0
  refine (walk a0 a1 len1 cap1 z1 a2 W w0 w1 w2).mono fun e W' ⟨he, bel⟩ => ?_
  subst he
  exact ⟨_, rfl, _, _, _, [], _, [], hW', trodAll_mk1 (shut_bool Try.underlying4 _), (trodAll_cons_mk (shut_int Try.underlying3 w0) (trodAll_cons_mk (Below.trod laidOut (by kernel_rfl) (of_decide_eq_true (by kernel_rfl)) k1 bel lt1) (trodAll_cons_mk (shut_int Try.underlying5 w2) trodAll_mk0))), rfl, bel.frame _, fun h => by cases h⟩

theorem over : Rows.cnfPartsRow.holds Try.pinned (OpenSpec.ofChange Rows.cnfPartsSpec) :=
  OpenClaim.holds_of_wide 5 Try.f5 rfl rfl rfl rfl rfl rfl rfl ⟨rfl, rfl, rfl, rfl, rfl⟩ rfl rfl rfl rfl rfl (by kernel_rfl) Try.func5 (by kernel_rfl)
    (of_decide_eq_true (by kernel_rfl)) (by unfold Func.isWrapper; first | (rw [if_pos (by decide +kernel)]; kernel_rfl) | (rw [if_neg (by decide +kernel)]; exact ⟨rfl, rfl⟩))
    (fun os started H enc _ => lifted os started H enc)

theorem proved : Rows.CnfPartsSaid := over
#print axioms proved
end Go.Proofs.Ytogjafmpoepgbaa.cnfParts
