/-
  RupSound: for every two lists of clauses and every list of truths; no condition.
-/
import Derived.Test.YtdkkdfgaponlbaaRows
import Derived.Test.YtdkkdfgaponlbaaFrame
import Derived.WalkKit
import Derived.ProofKit
import Derived.OpenShut
import Derived.ShutString
import Derived.ChangeOld
import Derived.Below
namespace Go.Proofs.Ytdkkdfgaponlbaa.rupSound
open Go.ChangeShapes Go.WideShapes Go.ChangeAt Go.RowKit
open Go.ChangeMaps (open_string shut_string)
set_option linter.unusedVariables false

theorem own : ownKnob Try.prog.godebug = none := by kernel_rfl
theorem laidOut : laidOutB Try.prog = true := by kernel_rfl

set_option maxHeartbeats 4000000 in
theorem walk (a0 : Option Addr) (len0 cap0 : Nat) (z0 : List (List Int)) (a1 : Option Addr) (len1 cap1 : Nat) (z1 : List (List Int)) (a2 : Option Addr) (len2 cap2 : Nat) (z2 : Nat → Bool) (w : World) (w0 : Grid w a0 len0 cap0 z0) (w1 : Grid w a1 len1 cap1 z1) (w2 : IsBools w a2 len2 cap2 z2) :
    Calls Try.prog 4 #[.slice a0 len0 cap0, .slice a1 len1 cap1, .slice a2 len2 cap2] w fun e w' => e = .returned (.bool true) ∧ Below w.heap.size w w' := by
  have R0 : Hid (Grid w a0 len0 cap0 z0) := w0
  have R1 : Hid (Grid w a1 len1 cap1 z1) := w1
  have R2 : Hid (IsBools w a2 len2 cap2 z2) := w2
  have hN := w0.1
  have hN1 := w1.1
  clear w0 w1 w2
  by_cases h : fewF z0 40 = 0
  · clear hN hN1
    go_enter Try.func4, Try.ntmps4
    go_wp2_with (first
      | (go_at_call 5; first
        | (with_reducible (refine (few_any a0 len0 cap0 z0 _ _ R0.out).mono ?_); rintro e w ⟨rfl, rfl⟩)
        | (with_reducible (refine (few_any a1 len1 cap1 z1 _ _ R1.out).mono ?_); rintro e w ⟨rfl, rfl⟩))
      | (go_at_call 6; with_reducible (refine (awake_any _).mono ?_); rintro e w9 ⟨rfl, b9⟩))
    go_ret
    exact ⟨rfl, b9⟩
  have hf : (fewF z0 40 == 0) = false := by simpa using h
  by_cases h' : fewF z1 12 = 0
  · clear hN hN1
    go_enter Try.func4, Try.ntmps4
    go_wp2_with (first
      | (go_at_call 5; first
        | (with_reducible (refine (few_any a0 len0 cap0 z0 _ _ R0.out).mono ?_); rintro e w ⟨rfl, rfl⟩)
        | (with_reducible (refine (few_any a1 len1 cap1 z1 _ _ R1.out).mono ?_); rintro e w ⟨rfl, rfl⟩))
      | (go_at_call 6; with_reducible (refine (awake_any _).mono ?_); rintro e w9 ⟨rfl, b9⟩))
    go_ret
    exact ⟨rfl, b9⟩
  have hf' : (fewF z1 12 == 0) = false := by simpa using h'
  have HS : Hid (∀ c ∈ z0, c.length ≤ 100) := hid (fun c hc => by have := few_short h c hc; omega)
  have HS1 : Hid (∀ c ∈ z1, c.length ≤ 100) := hid (fun c hc => by have := few_short h' c hc; omega)
  have hL : len0 ≤ 50 := by have := few_len (most := 40) h; omega
  have hL1 : len1 ≤ 50 := by have := few_len (most := 12) h'; omega
  have hL2 : len0 ≤ 100 := by omega
  clear hN hN1 h h'
  by_cases h2 : (1000 : Int) < len2
  · go_enter Try.func4, Try.ntmps4
    go_wp2_with (first
      | (go_at_call 5; first
        | (with_reducible (refine (few_any a0 len0 cap0 z0 _ _ R0.out).mono ?_); rintro e w ⟨rfl, rfl⟩)
        | (with_reducible (refine (few_any a1 len1 cap1 z1 _ _ R1.out).mono ?_); rintro e w ⟨rfl, rfl⟩))
      | (go_at_call 6; with_reducible (refine (awake_any _).mono ?_); rintro e w9 ⟨rfl, b9⟩))
    go_ret
    exact ⟨rfl, b9⟩
  by_cases h3 : (0 : Int) ≤ fstN z0 len2 z2
  · go_enter Try.func4, Try.ntmps4
    go_wp2_with (first
      | (go_at_call 5; first
        | (with_reducible (refine (few_any a0 len0 cap0 z0 _ _ R0.out).mono ?_); rintro e w ⟨rfl, rfl⟩)
        | (with_reducible (refine (few_any a1 len1 cap1 z1 _ _ R1.out).mono ?_); rintro e w ⟨rfl, rfl⟩))
      | (go_at_call 13; with_reducible (refine (rholdsG_any _ _ _ z0 _ R0.out _ _ _ z2 R2.out).mono ?_); rintro e w ⟨rfl, rfl⟩)
      | (go_at_call 6; with_reducible (refine (awake_any _).mono ?_); rintro e w9 ⟨rfl, b9⟩))
    go_ret
    exact ⟨rfl, b9⟩
  have HALL : Hid (∀ c ∈ z0, holdsF c len2 z2 = true) := hid (fst_all (by omega))
  have HNR : Hid (¬ IsRef z0 z1) := hid (ref_holds HALL.out)
  have hz1 : Hid (z1.length = len1) := hid R1.out.1
  have d2 : decide ((1000 : Int) < len2) = false := by simpa using h2
  have d3 : decide ((0 : Int) ≤ fstN z0 len2 z2) = false := by simpa using h3
  have hmax := R1.out.max
  go_enter Try.func4, Try.ntmps4
  go_wp2_with (first
    | (go_at_call 5; first
      | (with_reducible (refine (few_any a0 len0 cap0 z0 _ _ R0.out).mono ?_); rintro e w ⟨rfl, rfl⟩)
      | (with_reducible (refine (few_any a1 len1 cap1 z1 _ _ R1.out).mono ?_); rintro e w ⟨rfl, rfl⟩))
    | (go_at_call 13; with_reducible (refine (rholdsG_any _ _ _ z0 _ R0.out _ _ _ z2 R2.out).mono ?_); rintro e w ⟨rfl, rfl⟩)
    | (go_at_call 11; with_reducible (refine (refutes_no _ a0 len0 cap0 z0 R0.out a1 len1 cap1 z1 R1.out hL hL1 HS.out HS1.out HNR.out).mono ?_); rintro e w5 ⟨rfl, b5⟩; have R0u := hid (R0.out.keep b5.out); have R1u := hid (R1.out.keep b5.out))
    | (go_at_call 9; with_reducible (refine (check_any _ a0 len0 cap0 z0 R0u.out a1 len1 cap1 z1 R1u.out hL hL1 HS.out HS1.out).mono ?_); rintro e w3 ⟨r, rfl, hf, b3⟩; have R1v := hid (R1u.out.keep b3.out); have R2v := hid ((R2.out.keep b5.out).keep b3.out)))
  go_loop [8] (fun i => ∃ k : Nat, k ≤ len1 ∧ i = .int .i64 k) (fun i => len1 - (intOf i).toNat)
  case atStart => exact ⟨0, Nat.zero_le _, rfl⟩
  case round =>
    obtain ⟨k, hk, rfl⟩ := hrel
    by_cases hlt : k < len1
    · by_cases hr : r < 0
      · obtain ⟨b, off, a, mm, cc, ys, rfl, hc, hy, hrow⟩ := R1v.out.at hlt
        have hh : holdsF ys len2 z2 = true := by
          have := fst_holds HALL.out hf.out (i := k) (by rw [hz1.out]; exact hlt) (.inl hr)
          have e : z1.getD k [] = ys := by simp [hy.out]
          rw [e] at this; exact this
        go_wp2_with (go_at_call 14; with_reducible (refine (rholdsL_any _ _ _ ys _ hrow.out _ _ _ z2 R2v.out).mono ?_); rintro e w6 ⟨rfl, rfl⟩)
        go_round
        case rel => exact ⟨k + 1, by omega, by go_num⟩
        case measure => simp only [intOf]; omega
      · by_cases hkr : (k : Int) < r
        · obtain ⟨b, off, a, mm, cc, ys, rfl, hc, hy, hrow⟩ := R1v.out.at hlt
          have hh : holdsF ys len2 z2 = true := by
            have := fst_holds HALL.out hf.out (i := k) (by rw [hz1.out]; exact hlt) (.inr hkr)
            have e : z1.getD k [] = ys := by simp [hy.out]
            rw [e] at this; exact this
          have dr : decide (r < 0) = false := by simpa using hr
          go_wp2_with (go_at_call 14; with_reducible (refine (rholdsL_any _ _ _ ys _ hrow.out _ _ _ z2 R2v.out).mono ?_); rintro e w6 ⟨rfl, rfl⟩)
          go_round
          case rel => exact ⟨k + 1, by omega, by go_num⟩
          case measure => simp only [intOf]; omega
        · have dr : decide (r < 0) = false := by simpa using hr
          have dk : decide ((k : Int) < r) = false := by simpa using hkr
          go_wp2_with (go_at_call 6; with_reducible (refine (awake_any _).mono ?_); rintro e w9 ⟨rfl, b9⟩)
          go_ret
          exact ⟨rfl, Below.next (Below.next b5.out b3.out) b9⟩
    · go_wp2_with (go_at_call 6; with_reducible (refine (awake_any _).mono ?_); rintro e w9 ⟨rfl, b9⟩)
      go_ret
      exact ⟨rfl, Below.next (Below.next b5.out b3.out) b9⟩


set_option maxRecDepth 100000 in
theorem lifted (os : Os) (started : os.Started) (H : Type) (enc : TypeId × Value → H) :
    ReturnsInHanded {} Try.checked os 4 .any (Rows.rupSoundSpec.pre6 enc Try.prog Try.f4 Rows.rupSoundRow.domain false) (Rows.rupSoundSpec.post enc Try.prog Try.f4 false true false false) := by
  refine returnsInHanded_of_change (C := Try.checked) own started (by kernel_rfl) Try.func4
    (ChangeSpec.witness6 (enc := enc) (C := Try.checked) false ⟨#[], #[.slice none 0 0, .slice none 0 0, .slice none 0 0], []⟩ 8 (by kernel_rfl) (by kernel_rfl) (by kernel_rfl) (by kernel_rfl)) ?_
  intro W base args ds gs before hval0 hW hcnd _
  have hval : ∀ (j : Nat) t v, Try.f4.params[j]? = some t → args[j]? = some v → Value.okWide Try.prog W .any base t v := hval0
  have hW' := hW
  obtain ⟨p, q, hA0, hV, rfl, hfz, hnd⟩ := hW
  have hA : DataW.TrodAll enc Try.prog W 0 (fun _ => true) true Try.f4.params.toList args.toList ds p := hA0
  rw [Try.params4] at hA hval
  obtain ⟨v0, vs0, d0, ds0, p0, q0, hargs, rfl, rfl, h0, r0⟩ := trodAll_cons hA
  obtain ⟨v1, vs1, d1, ds1, p1, q1, rfl, rfl, rfl, h1, r1⟩ := trodAll_cons r0
  obtain ⟨v2, vs2, d2, ds2, p2, q2, rfl, rfl, rfl, h2, r2⟩ := trodAll_cons r1
  obtain ⟨rfl, rfl, rfl⟩ := trodAll_nil r2
  obtain rfl : args = #[v0, v1, v2] := by cases args; simp_all
  obtain ⟨rfl, rfl⟩ := trodVars_none hV
  obtain ⟨a0, len0, cap0, rfl⟩ := okWide_slice Try.underlying22 (hval 0 22 v0 rfl rfl)
  have k0 := h0
  have lt0 : ∀ x ∈ p0, x.block < W.heap.size := by obtain ⟨m, hm⟩ := k0; exact DataW.trod_lt m _ _ _ hm
  obtain ⟨z0, w0⟩ : ∃ zs, Grid W a0 len0 cap0 zs := by
    obtain ⟨fuel, hf⟩ := h0
    exact grid_of hf
  obtain ⟨a1, len1, cap1, rfl⟩ := okWide_slice Try.underlying22 (hval 1 22 v1 rfl rfl)
  have k1 := h1
  have lt1 : ∀ x ∈ p1, x.block < W.heap.size := by obtain ⟨m, hm⟩ := k1; exact DataW.trod_lt m _ _ _ hm
  obtain ⟨z1, w1⟩ : ∃ zs, Grid W a1 len1 cap1 zs := by
    obtain ⟨fuel, hf⟩ := h1
    exact grid_of hf
  obtain ⟨a2, len2, cap2, rfl⟩ := okWide_slice Try.underlying29 (hval 2 29 v2 rfl rfl)
  have k2 := h2
  have lt2 : ∀ x ∈ p2, x.block < W.heap.size := by obtain ⟨m, hm⟩ := k2; exact DataW.trod_lt m _ _ _ hm
  obtain ⟨z2, w2⟩ : ∃ zs, IsBools W a2 len2 cap2 zs := by
    obtain ⟨fuel, hf⟩ := h2
    rcases Go.Deep.open_bools Try.underlying29 Try.underlying4 (by kernel_rfl) hf with ⟨hcs, _⟩ | ⟨x, l, c, B, hcs, _, hl, hm, _, hcell⟩
    · simp [Value.cells] at hcs
      obtain ⟨rfl, rfl, rfl⟩ := hcs
      exact ⟨fun _ => false, .inl ⟨rfl, rfl, rfl⟩⟩
    · simp [Value.cells] at hcs
      obtain ⟨rfl, rfl, rfl⟩ := hcs
      exact ⟨B, .inr ⟨_, rfl, hl, hm, fun i hi => hcell i (by omega)⟩⟩
  clear hA0 hval0
  refine (walk a0 len0 cap0 z0 a1 len1 cap1 z1 a2 len2 cap2 z2 W w0 w1 w2).mono fun e W' ⟨he, bel⟩ => ?_
  subst he
  exact ⟨_, rfl, _, _, _, [], _, [], hW', trodAll_mk1 (shut_bool Try.underlying4 _), (trodAll_cons_mk (Below.trod laidOut (by kernel_rfl) (of_decide_eq_true (by kernel_rfl)) k0 bel lt0) (trodAll_cons_mk (Below.trod laidOut (by kernel_rfl) (of_decide_eq_true (by kernel_rfl)) k1 bel lt1) (trodAll_cons_mk (Below.trod laidOut (by kernel_rfl) (of_decide_eq_true (by kernel_rfl)) k2 bel lt2) trodAll_mk0))), rfl, bel.frame _, fun h => by cases h⟩

theorem over : Rows.rupSoundRow.holds Try.pinned (OpenSpec.ofChange Rows.rupSoundSpec) :=
  OpenClaim.holds_of_wide 4 Try.f4 rfl rfl rfl rfl rfl rfl rfl ⟨rfl, rfl, rfl, rfl, rfl⟩ rfl rfl rfl rfl rfl (by kernel_rfl) Try.func4 (by kernel_rfl)
    (of_decide_eq_true (by kernel_rfl)) (by unfold Func.isWrapper; first | (rw [if_pos (by decide +kernel)]; kernel_rfl) | (rw [if_neg (by decide +kernel)]; exact ⟨rfl, rfl⟩))
    (fun os started H enc _ => lifted os started H enc)

theorem proved : Rows.RupSoundSaid := over
#print axioms proved
end Go.Proofs.Ytdkkdfgaponlbaa.rupSound
