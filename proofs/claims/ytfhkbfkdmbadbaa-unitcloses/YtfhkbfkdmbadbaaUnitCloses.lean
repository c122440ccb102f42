/-
  UnitCloses: for every list of clauses, every list of literals and every number; no condition.
-/
import Derived.Test.YtfhkbfkdmbadbaaRows
import Derived.Test.YtfhkbfkdmbadbaaFrame
import Derived.WalkKit
import Derived.ProofKit
import Derived.OpenShut
import Derived.ShutString
import Derived.ChangeOld
import Derived.Below
namespace Go.Proofs.Ytfhkbfkdmbadbaa.unitCloses
open Go.ChangeShapes Go.WideShapes Go.ChangeAt Go.RowKit
open Go.ChangeMaps (open_string shut_string)
set_option linter.unusedVariables false

theorem own : ownKnob Try.prog.godebug = none := by kernel_rfl
theorem laidOut : laidOutB Try.prog = true := by kernel_rfl

set_option maxHeartbeats 4000000 in
theorem walk (a0 : Option Addr) (len0 cap0 : Nat) (z0 : List (List Int)) (a1 : Option Addr) (len1 cap1 : Nat) (z1 : List Int) (a2 : Int) (w : World) (w0 : Grid w a0 len0 cap0 z0) (w1 : Row w a1 len1 cap1 z1) (w2 : (Lit.int .i64 a2).wf = true) :
    Calls Try.prog 3 #[.slice a0 len0 cap0, .slice a1 len1 cap1, .int .i64 a2] w fun e w' => e = .returned (.bool true) ∧ Below w.heap.size w w' := by
  have R0 : Hid (Grid w a0 len0 cap0 z0) := w0
  have R1 : Hid (Row w a1 len1 cap1 z1) := w1
  have hN := w0.1
  clear w0 w1 w2
  by_cases h : fewF z0 60 = 0
  · clear hN
    go_enter Try.func3, Try.ntmps3
    go_wp2_with (first
      | (go_at_call 6; with_reducible (refine (few_any _ _ _ z0 _ _ R0.out).mono ?_); rintro e w8 ⟨rfl, rfl⟩)
      | (go_at_call 7; with_reducible (refine (awake_any _).mono ?_); rintro e w9 ⟨rfl, b9⟩))
    go_ret
    exact ⟨rfl, b9⟩
  have hf : (fewF z0 60 == 0) = false := by simpa using h
  have HS : Hid (∀ c ∈ z0, c.length ≤ 100) := hid (fun c hc => by have := few_short h c hc; omega)
  have HS2 : Hid (∀ c ∈ z0, c.length ≤ 1000) := hid (fun c hc => by have := few_short h c hc; omega)
  have hL : len0 ≤ 60 := by have := few_len (most := 60) h; omega
  clear hN h
  by_cases h1 : (60 : Int) < len1
  · go_enter Try.func3, Try.ntmps3
    go_wp2_with (first
      | (go_at_call 6; with_reducible (refine (few_any _ _ _ z0 _ _ R0.out).mono ?_); rintro e w8 ⟨rfl, rfl⟩)
      | (go_at_call 7; with_reducible (refine (awake_any _).mono ?_); rintro e w9 ⟨rfl, b9⟩))
    go_ret
    exact ⟨rfl, b9⟩
  have h2 : len1 ≤ 60 := by omega
  have q0 : len0 ≤ 100 := by omega
  have q1 : len1 ≤ 10000 := by omega
  have q2 : len1 ≤ 1000 := by omega
  go_enter Try.func3, Try.ntmps3
  go_wp2_with (first
    | (go_at_call 6; with_reducible (refine (few_any _ _ _ z0 _ _ R0.out).mono ?_); rintro e w8 ⟨rfl, rfl⟩)
    | (go_at_call 8; with_reducible (refine (close_at _ _ _ _ z0 R0.out _ _ _ z1 R1.out q0 q1 HS2.out).mono ?_); rintro e w3 ⟨a3, m3, c3, x3, ok3, rfl, r3, s3, _, b3⟩; have R0b := hid (R0.out.keep b3.out); have R1b := hid (R1.out.keep b3.out))
    | (go_at_call 9; with_reducible (refine (rclose_at _ _ _ _ z0 R0b.out _ _ _ z1 R1b.out q0 q2 HS.out).mono ?_); rintro e w4 ⟨a4, m4, c4, x4, ok4, rfl, r4, s4, b4⟩; obtain ⟨rfl, rfl⟩ := res_same s3.out s4.out; have r3b := hid (r3.out.keep b4.out); have R0c := hid (R0b.out.keep b4.out); have R1c := hid (R1b.out.keep b4.out))
    | (go_at_call 10; with_reducible (refine (same_self _ _ _ _ _ _ _ _ r3b.out r4.out).mono ?_); rintro e w5 ⟨rfl, b5⟩; have R0d := hid (R0c.out.keep b5); have R1d := hid (R1c.out.keep b5))
    | (go_at_call 11; with_reducible (refine (follows_any _ _ _ _ z0 R0d.out _ _ _ z1 R1d.out _ q0 q1 HS.out).mono ?_); rintro e w6 ⟨t6, rfl, h6, b6⟩; have R0e := hid (R0d.out.keep b6.out); have R1e := hid (R1d.out.keep b6.out))
    | (go_at_call 12; with_reducible (refine (rfollows_any _ _ _ _ z0 R0e.out _ _ _ z1 R1e.out _ q0 q2 HS.out).mono ?_); rintro e w7 ⟨t7, rfl, h7, b7⟩; obtain rfl := follow_same h6.out h7.out)
    | (go_at_call 7; with_reducible (refine (awake_any _).mono ?_); rintro e w9 ⟨rfl, b9⟩))
  go_ret
  exact ⟨rfl, Below.next (Below.next (Below.next (Below.next (Below.next b3.out b4.out) b5) b6.out) b7.out) b9⟩


set_option maxRecDepth 100000 in
theorem lifted (os : Os) (started : os.Started) (H : Type) (enc : TypeId × Value → H) :
    ReturnsInHanded {} Try.checked os 3 .any (Rows.unitClosesSpec.pre6 enc Try.prog Try.f3 Rows.unitClosesRow.domain false) (Rows.unitClosesSpec.post enc Try.prog Try.f3 false true false false) := by
  refine returnsInHanded_of_change (C := Try.checked) own started (by kernel_rfl) Try.func3
    (ChangeSpec.witness6 (enc := enc) (C := Try.checked) false ⟨#[], #[.slice none 0 0, .slice none 0 0, .int .i64 0], []⟩ 8 (by kernel_rfl) (by kernel_rfl) (by kernel_rfl) (by kernel_rfl)) ?_
  intro W base args ds gs before hval0 hW hcnd _
  have hval : ∀ (j : Nat) t v, Try.f3.params[j]? = some t → args[j]? = some v → Value.okWide Try.prog W .any base t v := hval0
  have hW' := hW
  obtain ⟨p, q, hA0, hV, rfl, hfz, hnd⟩ := hW
  have hA : DataW.TrodAll enc Try.prog W 0 (fun _ => true) true Try.f3.params.toList args.toList ds p := hA0
  rw [Try.params3] at hA hval
  obtain ⟨v0, vs0, d0, ds0, p0, q0, hargs, rfl, rfl, h0, r0⟩ := trodAll_cons hA
  obtain ⟨v1, vs1, d1, ds1, p1, q1, rfl, rfl, rfl, h1, r1⟩ := trodAll_cons r0
  obtain ⟨v2, vs2, d2, ds2, p2, q2, rfl, rfl, rfl, h2, r2⟩ := trodAll_cons r1
  obtain ⟨rfl, rfl, rfl⟩ := trodAll_nil r2
  obtain rfl : args = #[v0, v1, v2] := by cases args; simp_all
  obtain ⟨rfl, rfl⟩ := trodVars_none hV
  obtain ⟨a0, len0, cap0, rfl⟩ := okWide_slice Try.underlying22 (hval 0 22 v0 rfl rfl)
  have k0 := h0
  have lt0 : ∀ x ∈ p0, x.block < W.heap.size := by obtain ⟨m, hm⟩ := k0; exact DataW.trod_lt m _ _ _ hm
  obtain ⟨z0, w0⟩ : ∃ zs, Grid W a0 len0 cap0 zs := by
    obtain ⟨fuel, hf⟩ := h0
    exact grid_of hf
  obtain ⟨a1, len1, cap1, rfl⟩ := okWide_slice Try.underlying23 (hval 1 23 v1 rfl rfl)
  have k1 := h1
  have lt1 : ∀ x ∈ p1, x.block < W.heap.size := by obtain ⟨m, hm⟩ := k1; exact DataW.trod_lt m _ _ _ hm
  obtain ⟨z1, w1⟩ : ∃ zs, Row W a1 len1 cap1 zs := by
    obtain ⟨fuel, hf⟩ := h1
    exact row_of hf
  obtain ⟨a2, rfl, rfl, rfl, w2⟩ := open_int Try.underlying3 (hval 2 3 v2 rfl rfl) h2
  clear hA0 hval0
  refine (walk a0 len0 cap0 z0 a1 len1 cap1 z1 a2 W w0 w1 w2).mono fun e W' ⟨he, bel⟩ => ?_
  subst he
  exact ⟨_, rfl, _, _, _, [], _, [], hW', trodAll_mk1 (shut_bool Try.underlying4 _), (trodAll_cons_mk (Below.trod laidOut (by kernel_rfl) (of_decide_eq_true (by kernel_rfl)) k0 bel lt0) (trodAll_cons_mk (Below.trod laidOut (by kernel_rfl) (of_decide_eq_true (by kernel_rfl)) k1 bel lt1) (trodAll_cons_mk (shut_int Try.underlying3 w2) trodAll_mk0))), rfl, bel.frame _, fun h => by cases h⟩

theorem over : Rows.unitClosesRow.holds Try.pinned (OpenSpec.ofChange Rows.unitClosesSpec) :=
  OpenClaim.holds_of_wide 3 Try.f3 rfl rfl rfl rfl rfl rfl rfl ⟨rfl, rfl, rfl, rfl, rfl⟩ rfl rfl rfl rfl rfl (by kernel_rfl) Try.func3 (by kernel_rfl)
    (of_decide_eq_true (by kernel_rfl)) (by unfold Func.isWrapper; first | (rw [if_pos (by decide +kernel)]; kernel_rfl) | (rw [if_neg (by decide +kernel)]; exact ⟨rfl, rfl⟩))
    (fun os started H enc _ => lifted os started H enc)

theorem proved : Rows.UnitClosesSaid := over
#print axioms proved
end Go.Proofs.Ytfhkbfkdmbadbaa.unitCloses
