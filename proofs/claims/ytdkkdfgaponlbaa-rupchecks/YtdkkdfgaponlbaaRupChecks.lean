/-
  RupChecks: for every two lists of clauses; no condition.
-/
import Derived.Test.YtdkkdfgaponlbaaRows
import Derived.Test.YtdkkdfgaponlbaaFrame
import Derived.WalkKit
import Derived.ProofKit
import Derived.OpenShut
import Derived.ShutString
import Derived.ChangeOld
import Derived.Below
namespace Go.Proofs.Ytdkkdfgaponlbaa.rupChecks
open Go.ChangeShapes Go.WideShapes Go.ChangeAt Go.RowKit
open Go.ChangeMaps (open_string shut_string)
set_option linter.unusedVariables false

theorem own : ownKnob Try.prog.godebug = none := by kernel_rfl
theorem laidOut : laidOutB Try.prog = true := by kernel_rfl

set_option maxHeartbeats 4000000 in
theorem walk (a0 : Option Addr) (len0 cap0 : Nat) (z0 : List (List Int)) (a1 : Option Addr) (len1 cap1 : Nat) (z1 : List (List Int)) (w : World) (w0 : Grid w a0 len0 cap0 z0) (w1 : Grid w a1 len1 cap1 z1) :
    Calls Try.prog 3 #[.slice a0 len0 cap0, .slice a1 len1 cap1] w fun e w' => e = .returned (.bool true) ∧ Below w.heap.size w w' := by
  have R0 : Hid (Grid w a0 len0 cap0 z0) := w0
  have R1 : Hid (Grid w a1 len1 cap1 z1) := w1
  have hN := w0.1
  have hN1 := w1.1
  clear w0 w1
  by_cases h : fewF z0 40 = 0
  · clear hN hN1
    go_enter Try.func3, Try.ntmps3
    go_wp2_with (first
      | (go_at_call 5; first
        | (with_reducible (refine (few_any a0 len0 cap0 z0 _ _ R0.out).mono ?_); rintro e w ⟨rfl, rfl⟩)
        | (with_reducible (refine (few_any a1 len1 cap1 z1 _ _ R1.out).mono ?_); rintro e w ⟨rfl, rfl⟩))
      | (go_at_call 6; with_reducible (refine (awake_any _).mono ?_); rintro e w9 ⟨rfl, b9⟩))
    go_ret
    exact ⟨rfl, b9⟩
  have hf : (fewF z0 40 == 0) = false := by simpa using h
  by_cases h' : fewF z1 12 = 0
  · clear hN hN1
    go_enter Try.func3, Try.ntmps3
    go_wp2_with (first
      | (go_at_call 5; first
        | (with_reducible (refine (few_any a0 len0 cap0 z0 _ _ R0.out).mono ?_); rintro e w ⟨rfl, rfl⟩)
        | (with_reducible (refine (few_any a1 len1 cap1 z1 _ _ R1.out).mono ?_); rintro e w ⟨rfl, rfl⟩))
      | (go_at_call 6; with_reducible (refine (awake_any _).mono ?_); rintro e w9 ⟨rfl, b9⟩))
    go_ret
    exact ⟨rfl, b9⟩
  have hf' : (fewF z1 12 == 0) = false := by simpa using h'
  have HS : Hid (∀ c ∈ z0, c.length ≤ 100) := hid (fun c hc => by have := few_short h c hc; omega)
  have HS1 : Hid (∀ c ∈ z1, c.length ≤ 100) := hid (fun c hc => by have := few_short h' c hc; omega)
  have hL : len0 ≤ 50 := by have := few_len (most := 40) h; omega
  have hL1 : len1 ≤ 50 := by have := few_len (most := 12) h'; omega
  have hL2 : len0 ≤ 100 := by omega
  clear hN hN1 h h'
  go_enter Try.func3, Try.ntmps3
  go_wp2_with (first
    | (go_at_call 5; first
      | (with_reducible (refine (few_any a0 len0 cap0 z0 _ _ R0.out).mono ?_); rintro e w ⟨rfl, rfl⟩)
      | (with_reducible (refine (few_any a1 len1 cap1 z1 _ _ R1.out).mono ?_); rintro e w ⟨rfl, rfl⟩)))
  go_loopw [5] (fun i wr => ∃ k : Nat, k ≤ len1 ∧ i = .int .i64 k ∧ Hid (Below w.heap.size w wr)) (fun i _ => len1 - (intOf i).toNat)
  case atStart => exact ⟨0, Nat.zero_le _, rfl, Below.refl _ _⟩
  case round =>
    obtain ⟨k, hk, rfl, hb⟩ := hrel
    by_cases hlt : k < len1
    · have R0r := hid ((R0.out.keep hb.out).keep (Below.refl _ wr).drew)
      obtain ⟨b, off, a, mm, cc, ys, rfl, hc, hy, hrow⟩ := (R1.out.keep hb.out).at hlt
      have hms := row_short HS1.out hy.out hrow.out
      have hrowr := hid (hrow.out.keep (Below.refl _ wr).drew)
      have HCD : Hid (wr.drew.cell? ⟨b, off + k, none⟩ = some (.slice a mm cc)) := hid hc
      go_wp2
      go_region_with (first
        | (go_at_call 7; with_reducible (refine (stepP_any _ a0 len0 cap0 z0 R0r.out a mm cc ys hrowr.out hms hL2 HS.out).mono ?_); rintro e w3 ⟨t3, rfl, h3, b3⟩; have hc3 := (b3.out.cell (cell_lt HCD.out)).trans HCD.out; have R0s := hid (R0r.out.keep b3.out); have hrows := hid (hrowr.out.keep b3.out))
        | (go_at_call 8; with_reducible (refine (rstep_any _ a0 len0 cap0 z0 R0s.out a mm cc ys hrows.out hms hL2 HS.out).mono ?_); rintro e w4 ⟨t4, rfl, h4, b4⟩; obtain rfl := iff_same h3.out h4.out))
      all_goals go_wp2
      all_goals go_roundw
      all_goals first
        | exact ⟨k + 1, by omega, by go_num, hid (Below.next (Below.next hb.out.drew b3.out) b4.out)⟩
        | (simp only [intOf]; omega)
    · have R0r := hid (R0.out.keep hb.out)
      have R1r := hid (R1.out.keep hb.out)
      go_wp2_with (first
        | (go_at_call 9; with_reducible (refine (check_any _ a0 len0 cap0 z0 R0r.out a1 len1 cap1 z1 R1r.out hL hL1 HS.out HS1.out).mono ?_); rintro e w3 ⟨t3, rfl, h3, b3⟩; have R0s := hid (R0r.out.keep b3.out); have R1s := hid (R1r.out.keep b3.out))
        | (go_at_call 10; with_reducible (refine (rcheck_any _ a0 len0 cap0 z0 R0s.out a1 len1 cap1 z1 R1s.out hL hL1 HS.out HS1.out).mono ?_); rintro e w4 ⟨t4, rfl, h4, b4⟩; obtain rfl := fst_same h3.out h4.out; have R0t := hid (R0s.out.keep b4.out); have R1t := hid (R1s.out.keep b4.out))
        | (go_at_call 11; with_reducible (refine (refutes_at _ a0 len0 cap0 z0 R0t.out a1 len1 cap1 z1 R1t.out hL hL1 HS.out HS1.out).mono ?_); rintro e w5 ⟨t5, rfl, h5, b5⟩; have R0u := hid (R0t.out.keep b5.out); have R1u := hid (R1t.out.keep b5.out))
        | (go_at_call 12; with_reducible (refine (rrefutes_at _ a0 len0 cap0 z0 R0u.out a1 len1 cap1 z1 R1u.out hL hL1 HS.out HS1.out).mono ?_); rintro e w6 ⟨t6, rfl, h6, b6⟩; obtain rfl := iff_same h5.out h6.out)
        | (go_at_call 6; with_reducible (refine (awake_any _).mono ?_); rintro e w9 ⟨rfl, b9⟩))
      go_ret
      exact ⟨rfl, Below.next (Below.next (Below.next (Below.next (Below.next hb.out b3.out) b4.out) b5.out) b6.out) b9⟩


set_option maxRecDepth 100000 in
theorem lifted (os : Os) (started : os.Started) (H : Type) (enc : TypeId × Value → H) :
    ReturnsInHanded {} Try.checked os 3 .any (Rows.rupChecksSpec.pre6 enc Try.prog Try.f3 Rows.rupChecksRow.domain false) (Rows.rupChecksSpec.post enc Try.prog Try.f3 false true false false) := by
  refine returnsInHanded_of_change (C := Try.checked) own started (by kernel_rfl) Try.func3
    (ChangeSpec.witness6 (enc := enc) (C := Try.checked) false ⟨#[], #[.slice none 0 0, .slice none 0 0], []⟩ 8 (by kernel_rfl) (by kernel_rfl) (by kernel_rfl) (by kernel_rfl)) ?_
  intro W base args ds gs before hval0 hW hcnd _
  have hval : ∀ (j : Nat) t v, Try.f3.params[j]? = some t → args[j]? = some v → Value.okWide Try.prog W .any base t v := hval0
  have hW' := hW
  obtain ⟨p, q, hA0, hV, rfl, hfz, hnd⟩ := hW
  have hA : DataW.TrodAll enc Try.prog W 0 (fun _ => true) true Try.f3.params.toList args.toList ds p := hA0
  rw [Try.params3] at hA hval
  obtain ⟨v0, vs0, d0, ds0, p0, q0, hargs, rfl, rfl, h0, r0⟩ := trodAll_cons hA
  obtain ⟨v1, vs1, d1, ds1, p1, q1, rfl, rfl, rfl, h1, r1⟩ := trodAll_cons r0
  obtain ⟨rfl, rfl, rfl⟩ := trodAll_nil r1
  obtain rfl : args = #[v0, v1] := by cases args; simp_all
  obtain ⟨rfl, rfl⟩ := trodVars_none hV
  obtain ⟨a0, len0, cap0, rfl⟩ := okWide_slice Try.underlying22 (hval 0 22 v0 rfl rfl)
  have k0 := h0
  have lt0 : ∀ x ∈ p0, x.block < W.heap.size := by obtain ⟨m, hm⟩ := k0; exact DataW.trod_lt m _ _ _ hm
  obtain ⟨z0, w0⟩ : ∃ zs, Grid W a0 len0 cap0 zs := by
    obtain ⟨fuel, hf⟩ := h0
    exact grid_of hf
  obtain ⟨a1, len1, cap1, rfl⟩ := okWide_slice Try.underlying22 (hval 1 22 v1 rfl rfl)
  have k1 := h1
  have lt1 : ∀ x ∈ p1, x.block < W.heap.size := by obtain ⟨m, hm⟩ := k1; exact DataW.trod_lt m _ _ _ hm
  obtain ⟨z1, w1⟩ : ∃ zs, Grid W a1 len1 cap1 zs := by
    obtain ⟨fuel, hf⟩ := h1
    exact grid_of hf
  clear hA0 hval0
  refine (walk a0 len0 cap0 z0 a1 len1 cap1 z1 W w0 w1).mono fun e W' ⟨he, bel⟩ => ?_
  subst he
  exact ⟨_, rfl, _, _, _, [], _, [], hW', trodAll_mk1 (shut_bool Try.underlying4 _), (trodAll_cons_mk (Below.trod laidOut (by kernel_rfl) (of_decide_eq_true (by kernel_rfl)) k0 bel lt0) (trodAll_cons_mk (Below.trod laidOut (by kernel_rfl) (of_decide_eq_true (by kernel_rfl)) k1 bel lt1) trodAll_mk0)), rfl, bel.frame _, fun h => by cases h⟩

theorem over : Rows.rupChecksRow.holds Try.pinned (OpenSpec.ofChange Rows.rupChecksSpec) :=
  OpenClaim.holds_of_wide 3 Try.f3 rfl rfl rfl rfl rfl rfl rfl ⟨rfl, rfl, rfl, rfl, rfl⟩ rfl rfl rfl rfl rfl (by kernel_rfl) Try.func3 (by kernel_rfl)
    (of_decide_eq_true (by kernel_rfl)) (by unfold Func.isWrapper; first | (rw [if_pos (by decide +kernel)]; kernel_rfl) | (rw [if_neg (by decide +kernel)]; exact ⟨rfl, rfl⟩))
    (fun os started H enc _ => lifted os started H enc)

theorem proved : Rows.RupChecksSaid := over
#print axioms proved
end Go.Proofs.Ytdkkdfgaponlbaa.rupChecks
