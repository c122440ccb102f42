/-
  UnitMore: for every two lists of clauses and every list of literals; no condition.
-/
import Derived.Test.YtfhkbfkdmbadbaaRows
import Derived.Test.YtfhkbfkdmbadbaaFrame
import Derived.WalkKit
import Derived.ProofKit
import Derived.OpenShut
import Derived.ShutString
import Derived.ChangeOld
import Derived.Below
import Derived.Test.YtfhkbfkdmbadbaaMore
namespace Go.Proofs.Ytfhkbfkdmbadbaa.unitMore
open Go.ChangeShapes Go.WideShapes Go.ChangeAt Go.RowKit
open Go.ChangeMaps (open_string shut_string)
set_option linter.unusedVariables false

theorem own : ownKnob Try.prog.godebug = none := by kernel_rfl
theorem laidOut : laidOutB Try.prog = true := by kernel_rfl

set_option maxHeartbeats 4000000 in
theorem walk (a0 : Option Addr) (len0 cap0 : Nat) (z0 : List (List Int)) (a1 : Option Addr) (len1 cap1 : Nat) (z1 : List (List Int)) (a2 : Option Addr) (len2 cap2 : Nat) (z2 : List Int) (w : World) (w0 : Grid w a0 len0 cap0 z0) (w1 : Grid w a1 len1 cap1 z1) (w2 : Row w a2 len2 cap2 z2) :
    Calls Try.prog 5 #[.slice a0 len0 cap0, .slice a1 len1 cap1, .slice a2 len2 cap2] w fun e w' => e = .returned (.bool true) ∧ Below w.heap.size w w' := by
  have R0 : Hid (Grid w a0 len0 cap0 z0) := w0
  have R1 : Hid (Grid w a1 len1 cap1 z1) := w1
  have R2 : Hid (Row w a2 len2 cap2 z2) := w2
  have hN := w0.1
  have hN1 := w1.1
  have hS2 := w2.1
  clear w0 w1 w2
  by_cases h : fewF z0 40 = 0
  · clear hN hN1 hS2
    go_enter Try.func5, Try.ntmps5
    go_wp2_with (first
        | (go_at_call 6; first
          | (with_reducible (refine (few_any a0 len0 cap0 z0 _ _ R0.out).mono ?_); rintro e w8 ⟨rfl, rfl⟩)
          | (with_reducible (refine (few_any a1 len1 cap1 z1 _ _ R1.out).mono ?_); rintro e w7 ⟨rfl, rfl⟩))
        | (go_at_call 7; with_reducible (refine (awake_any _).mono ?_); rintro e w9 ⟨rfl, b9⟩))
    go_ret
    exact ⟨rfl, b9⟩
  have hf : (fewF z0 40 == 0) = false := by simpa using h
  by_cases h' : fewF z1 20 = 0
  · clear hN hN1 hS2
    go_enter Try.func5, Try.ntmps5
    go_wp2_with (first
        | (go_at_call 6; first
          | (with_reducible (refine (few_any a0 len0 cap0 z0 _ _ R0.out).mono ?_); rintro e w8 ⟨rfl, rfl⟩)
          | (with_reducible (refine (few_any a1 len1 cap1 z1 _ _ R1.out).mono ?_); rintro e w7 ⟨rfl, rfl⟩))
        | (go_at_call 7; with_reducible (refine (awake_any _).mono ?_); rintro e w9 ⟨rfl, b9⟩))
    go_ret
    exact ⟨rfl, b9⟩
  have hf' : (fewF z1 20 == 0) = false := by simpa using h'
  have HS : Hid (∀ c ∈ z0, c.length ≤ 1000) := hid (fun c hc => by have := few_short h c hc; omega)
  have HSA : Hid (∀ c ∈ z0 ++ z1, c.length ≤ 1000) := hid (fun c hc => by
    rcases List.mem_append.1 hc with hc | hc
    · have := few_short h c hc; omega
    · have := few_short h' c hc; omega)
  have hL : len0 ≤ 40 := by have := few_len (most := 40) h; omega
  have hL1 : len1 ≤ 20 := by have := few_len (most := 20) h'; omega
  by_cases h1 : (60 : Int) < len2
  · clear hN hN1 hS2
    go_enter Try.func5, Try.ntmps5
    go_wp2_with (first
        | (go_at_call 6; first
          | (with_reducible (refine (few_any a0 len0 cap0 z0 _ _ R0.out).mono ?_); rintro e w8 ⟨rfl, rfl⟩)
          | (with_reducible (refine (few_any a1 len1 cap1 z1 _ _ R1.out).mono ?_); rintro e w7 ⟨rfl, rfl⟩))
        | (go_at_call 7; with_reducible (refine (awake_any _).mono ?_); rintro e w9 ⟨rfl, b9⟩))
    go_ret
    exact ⟨rfl, b9⟩
  have h2 : len2 ≤ 60 := by omega
  have HLL : Hid ((lits z0 z2).length ≤ 10000) := hid (by
    have h5 : ∀ c ∈ z0, c.length ≤ 40 := few_short h
    have h3 : z0.flatten.length ≤ z0.length * 40 := flat_len3 h5
    have h4 : (lits z0 z2).length ≤ z2.length + z0.flatten.length := by
      refine Nat.le_trans (List.length_filter_le _ _) ?_; simp
    omega)
  have q0 : len0 ≤ 100 := by omega
  have q1 : len0 + len1 ≤ 100 := by omega
  have q2 : len2 ≤ 10000 := by omega
  clear hN hN1 hS2 h h'
  have d1 : decide ((60 : Int) < len2) = false := by simpa using h1
  by_cases hB : Bad z0 z2
  · have HB := hid hB
    have HB2 : Hid (Bad (z0 ++ z1) z2) := hid (bad_more hB)
    clear hB
    go_enter Try.func5, Try.ntmps5
    go_wp2_with (first
    | (go_at_call 6; first
      | (with_reducible (refine (few_any a0 len0 cap0 z0 _ _ R0.out).mono ?_); rintro e w8 ⟨rfl, rfl⟩)
      | (with_reducible (refine (few_any a1 len1 cap1 z1 _ _ R1.out).mono ?_); rintro e w7 ⟨rfl, rfl⟩))
    | (go_at_call 8; first
      | (with_reducible (refine (close_bad _ a0 len0 cap0 z0 R0.out a2 len2 cap2 z2 R2.out q0 q2 HS.out HB.out).mono ?_); rintro e w3 ⟨a3, c3, rfl, r3, b3⟩; have R0b := hid (R0.out.keep b3.out); have R1b := hid (R1.out.keep b3.out); have R2b := hid (R2.out.keep b3.out))
      | (with_reducible (refine (close_bad _ ao5 _ cp5 (z0 ++ z1) g5.out a2 len2 cap2 z2 R2b5.out q1 q2 HSA.out HB2.out).mono ?_); rintro e w6 ⟨a6, c6, rfl, r6, b6⟩; have r3b := hid ((r3.out.keep bel5.out).keep b6.out); have R0d := hid ((R0b.out.keep bel5.out).keep b6.out))
      | (with_reducible (refine (close_at _ a0 len0 cap0 z0 R0d.out a3 0 c3 [] r3b.out q0 (by omega) HS.out).mono ?_); rintro e w10 ⟨a10, m10, c10, x10, ok10, rfl, r10, s10, _, b10⟩))
    | (at_builtin; first
      | (refine append_first (w0 := w3) rfl _ _ rfl rfl rfl _ _ _ rfl z0 R0b.out (by omega) ?_; intro us4 v4 w4 hl4 gv4 own4 bel4)
      | (refine append_grid (w0 := w3) rfl _ _ rfl len0 _ us4 rfl own4.out bel4.out _ _ _ rfl z1 R1b.out (by omega) (by omega) ?_; intro us5 v5 w5 hl5 gv5 own5 bel5; obtain ⟨ao5, cp5, rfl, g5⟩ := both_grid hl4.out gv4.out hl5.out gv5.out own5.out bel5.out; have R2b5 := hid (R2b.out.keep bel5.out)))
    | (go_at_call 7; with_reducible (refine (awake_any _).mono ?_); rintro e w9 ⟨rfl, b9⟩))
    go_ret
    exact ⟨rfl, Below.next (Below.next (Below.next (Below.next b3.out bel5.out) b6.out) b10.out) b9⟩
  · have HB := hid hB
    clear hB
    by_cases hB2 : Bad (z0 ++ z1) z2
    · have HB2 := hid hB2
      clear hB2
      go_enter Try.func5, Try.ntmps5
      go_wp2_with (first
    | (go_at_call 6; first
      | (with_reducible (refine (few_any a0 len0 cap0 z0 _ _ R0.out).mono ?_); rintro e w8 ⟨rfl, rfl⟩)
      | (with_reducible (refine (few_any a1 len1 cap1 z1 _ _ R1.out).mono ?_); rintro e w7 ⟨rfl, rfl⟩))
    | (go_at_call 8; first
      | (with_reducible (refine (close_good _ a0 len0 cap0 z0 R0.out a2 len2 cap2 z2 R2.out q0 q2 HS.out HB.out).mono ?_); rintro e w3 ⟨a3, m3, c3, x3, rfl, r3, s3, l3, b3⟩; have R0b := hid (R0.out.keep b3.out); have R1b := hid (R1.out.keep b3.out); have R2b := hid (R2.out.keep b3.out); have q3 := hid (Nat.le_trans l3.out HLL.out))
      | (with_reducible (refine (close_bad _ ao5 _ cp5 (z0 ++ z1) g5.out a2 len2 cap2 z2 R2b5.out q1 q2 HSA.out HB2.out).mono ?_); rintro e w6 ⟨a6, c6, rfl, r6, b6⟩; have r3b := hid ((r3.out.keep bel5.out).keep b6.out); have R0d := hid ((R0b.out.keep bel5.out).keep b6.out))
      | (with_reducible (refine (close_again _ a0 len0 cap0 z0 R0d.out a3 m3 c3 z2 x3 r3b.out q0 q3.out HS.out s3.out).mono ?_); rintro e w10 ⟨a10, m10, c10, rfl, r10, b10⟩; have r3c := hid (r3b.out.keep b10.out); have r6c := hid (r6.out.keep b10.out)))
    | (at_builtin; first
      | (refine append_first (w0 := w3) rfl _ _ rfl rfl rfl _ _ _ rfl z0 R0b.out (by omega) ?_; intro us4 v4 w4 hl4 gv4 own4 bel4)
      | (refine append_grid (w0 := w3) rfl _ _ rfl len0 _ us4 rfl own4.out bel4.out _ _ _ rfl z1 R1b.out (by omega) (by omega) ?_; intro us5 v5 w5 hl5 gv5 own5 bel5; obtain ⟨ao5, cp5, rfl, g5⟩ := both_grid hl4.out gv4.out hl5.out gv5.out own5.out bel5.out; have R2b5 := hid (R2b.out.keep bel5.out)))
    | (go_at_call 10; with_reducible (refine (same_self _ _ _ _ _ _ _ _ r3c.out r10.out).mono ?_); rintro e w11 ⟨rfl, b11⟩)
    | (go_at_call 7; with_reducible (refine (awake_any _).mono ?_); rintro e w9 ⟨rfl, b9⟩))
      go_ret
      exact ⟨rfl, Below.next (Below.next (Below.next (Below.next (Below.next b3.out bel5.out) b6.out) b10.out) b11) b9⟩
    · have HB2 := hid hB2
      clear hB2
      go_enter Try.func5, Try.ntmps5
      go_wp2_with (first
    | (go_at_call 6; first
      | (with_reducible (refine (few_any a0 len0 cap0 z0 _ _ R0.out).mono ?_); rintro e w8 ⟨rfl, rfl⟩)
      | (with_reducible (refine (few_any a1 len1 cap1 z1 _ _ R1.out).mono ?_); rintro e w7 ⟨rfl, rfl⟩))
    | (go_at_call 8; first
      | (with_reducible (refine (close_good _ a0 len0 cap0 z0 R0.out a2 len2 cap2 z2 R2.out q0 q2 HS.out HB.out).mono ?_); rintro e w3 ⟨a3, m3, c3, x3, rfl, r3, s3, l3, b3⟩; have R0b := hid (R0.out.keep b3.out); have R1b := hid (R1.out.keep b3.out); have R2b := hid (R2.out.keep b3.out); have q3 := hid (Nat.le_trans l3.out HLL.out))
      | (with_reducible (refine (close_good _ ao5 _ cp5 (z0 ++ z1) g5.out a2 len2 cap2 z2 R2b5.out q1 q2 HSA.out HB2.out).mono ?_); rintro e w6 ⟨a6, m6, c6, x6, rfl, r6, s6, l6, b6⟩; have r3b := hid ((r3.out.keep bel5.out).keep b6.out); have R0d := hid ((R0b.out.keep bel5.out).keep b6.out); have hwi := res_within s3.out s6.out)
      | (with_reducible (refine (close_again _ a0 len0 cap0 z0 R0d.out a3 m3 c3 z2 x3 r3b.out q0 q3.out HS.out s3.out).mono ?_); rintro e w10 ⟨a10, m10, c10, rfl, r10, b10⟩; have r3c := hid (r3b.out.keep b10.out); have r6c := hid (r6.out.keep b10.out)))
    | (at_builtin; first
      | (refine append_first (w0 := w3) rfl _ _ rfl rfl rfl _ _ _ rfl z0 R0b.out (by omega) ?_; intro us4 v4 w4 hl4 gv4 own4 bel4)
      | (refine append_grid (w0 := w3) rfl _ _ rfl len0 _ us4 rfl own4.out bel4.out _ _ _ rfl z1 R1b.out (by omega) (by omega) ?_; intro us5 v5 w5 hl5 gv5 own5 bel5; obtain ⟨ao5, cp5, rfl, g5⟩ := both_grid hl4.out gv4.out hl5.out gv5.out own5.out bel5.out; have R2b5 := hid (R2b.out.keep bel5.out)))
    | (go_at_call 10; with_reducible (refine (same_self _ _ _ _ _ _ _ _ r3c.out r10.out).mono ?_); rintro e w11 ⟨rfl, b11⟩; have r3d := hid (r3c.out.keep b11); have r6d := hid (r6c.out.keep b11))
    | (go_at_call 15; with_reducible (refine (rwithin_any a3 a6 m3 m6 c3 c6 x3 x6 _ r3d.out r6d.out).mono ?_); rintro e w12 ⟨rfl, rfl⟩)
    | (go_at_call 7; with_reducible (refine (awake_any _).mono ?_); rintro e w9 ⟨rfl, b9⟩))
      go_ret
      exact ⟨rfl, Below.next (Below.next (Below.next (Below.next (Below.next b3.out bel5.out) b6.out) b10.out) b11) b9⟩


set_option maxRecDepth 100000 in
theorem lifted (os : Os) (started : os.Started) (H : Type) (enc : TypeId × Value → H) :
    ReturnsInHanded {} Try.checked os 5 .any (Rows.unitMoreSpec.pre6 enc Try.prog Try.f5 Rows.unitMoreRow.domain false) (Rows.unitMoreSpec.post enc Try.prog Try.f5 false true false false) := by
  refine returnsInHanded_of_change (C := Try.checked) own started (by kernel_rfl) Try.func5
    (ChangeSpec.witness6 (enc := enc) (C := Try.checked) false ⟨#[], #[.slice none 0 0, .slice none 0 0, .slice none 0 0], []⟩ 8 (by kernel_rfl) (by kernel_rfl) (by kernel_rfl) (by kernel_rfl)) ?_
  intro W base args ds gs before hval0 hW hcnd _
  have hval : ∀ (j : Nat) t v, Try.f5.params[j]? = some t → args[j]? = some v → Value.okWide Try.prog W .any base t v := hval0
  have hW' := hW
  obtain ⟨p, q, hA0, hV, rfl, hfz, hnd⟩ := hW
  have hA : DataW.TrodAll enc Try.prog W 0 (fun _ => true) true Try.f5.params.toList args.toList ds p := hA0
  rw [Try.params5] at hA hval
  obtain ⟨v0, vs0, d0, ds0, p0, q0, hargs, rfl, rfl, h0, r0⟩ := trodAll_cons hA
  obtain ⟨v1, vs1, d1, ds1, p1, q1, rfl, rfl, rfl, h1, r1⟩ := trodAll_cons r0
  obtain ⟨v2, vs2, d2, ds2, p2, q2, rfl, rfl, rfl, h2, r2⟩ := trodAll_cons r1
  obtain ⟨rfl, rfl, rfl⟩ := trodAll_nil r2
  obtain rfl : args = #[v0, v1, v2] := by cases args; simp_all
  obtain ⟨rfl, rfl⟩ := trodVars_none hV
  obtain ⟨a0, len0, cap0, rfl⟩ := okWide_slice Try.underlying22 (hval 0 22 v0 rfl rfl)
  have k0 := h0
  have lt0 : ∀ x ∈ p0, x.block < W.heap.size := by obtain ⟨m, hm⟩ := k0; exact DataW.trod_lt m _ _ _ hm
  obtain ⟨z0, w0⟩ : ∃ zs, Grid W a0 len0 cap0 zs := by
    obtain ⟨fuel, hf⟩ := h0
    exact grid_of hf
  obtain ⟨a1, len1, cap1, rfl⟩ := okWide_slice Try.underlying22 (hval 1 22 v1 rfl rfl)
  have k1 := h1
  have lt1 : ∀ x ∈ p1, x.block < W.heap.size := by obtain ⟨m, hm⟩ := k1; exact DataW.trod_lt m _ _ _ hm
  obtain ⟨z1, w1⟩ : ∃ zs, Grid W a1 len1 cap1 zs := by
    obtain ⟨fuel, hf⟩ := h1
    exact grid_of hf
  obtain ⟨a2, len2, cap2, rfl⟩ := okWide_slice Try.underlying23 (hval 2 23 v2 rfl rfl)
  have k2 := h2
  have lt2 : ∀ x ∈ p2, x.block < W.heap.size := by obtain ⟨m, hm⟩ := k2; exact DataW.trod_lt m _ _ _ hm
  obtain ⟨z2, w2⟩ : ∃ zs, Row W a2 len2 cap2 zs := by
    obtain ⟨fuel, hf⟩ := h2
    exact row_of hf
  clear hA0 hval0
  refine (walk a0 len0 cap0 z0 a1 len1 cap1 z1 a2 len2 cap2 z2 W w0 w1 w2).mono fun e W' ⟨he, bel⟩ => ?_
  subst he
  exact ⟨_, rfl, _, _, _, [], _, [], hW', trodAll_mk1 (shut_bool Try.underlying4 _), (trodAll_cons_mk (Below.trod laidOut (by kernel_rfl) (of_decide_eq_true (by kernel_rfl)) k0 bel lt0) (trodAll_cons_mk (Below.trod laidOut (by kernel_rfl) (of_decide_eq_true (by kernel_rfl)) k1 bel lt1) (trodAll_cons_mk (Below.trod laidOut (by kernel_rfl) (of_decide_eq_true (by kernel_rfl)) k2 bel lt2) trodAll_mk0))), rfl, bel.frame _, fun h => by cases h⟩

theorem over : Rows.unitMoreRow.holds Try.pinned (OpenSpec.ofChange Rows.unitMoreSpec) :=
  OpenClaim.holds_of_wide 5 Try.f5 rfl rfl rfl rfl rfl rfl rfl ⟨rfl, rfl, rfl, rfl, rfl⟩ rfl rfl rfl rfl rfl (by kernel_rfl) Try.func5 (by kernel_rfl)
    (of_decide_eq_true (by kernel_rfl)) (by unfold Func.isWrapper; first | (rw [if_pos (by decide +kernel)]; kernel_rfl) | (rw [if_neg (by decide +kernel)]; exact ⟨rfl, rfl⟩))
    (fun os started H enc _ => lifted os started H enc)

theorem proved : Rows.UnitMoreSaid := over
#print axioms proved
end Go.Proofs.Ytfhkbfkdmbadbaa.unitMore
