/-
  ClauseSound: for every two lists of numbers and every list of truths, what the two are Resolved to, by the variable of any literal of the first, holds where both hold; no condition.
-/
import Derived.Test.YtgnoejcekbfkoaaRows
import Derived.Test.YtgnoejcekbfkoaaFrame
import Derived.WalkKit
import Derived.ProofKit
import Derived.OpenShut
import Derived.ShutString
import Derived.ChangeOld
import Derived.Below
namespace Go.Proofs.Ytgnoejcekbfkoaa.clauseSound
open Go.ChangeShapes Go.WideShapes Go.ChangeAt Go.RowKit
open Go.ChangeMaps (open_string shut_string)
set_option linter.unusedVariables false

theorem own : ownKnob Try.prog.godebug = none := by kernel_rfl
theorem laidOut : laidOutB Try.prog = true := by kernel_rfl

theorem walk (a0 : Option Addr) (len0 cap0 : Nat) (z0 : List Int) (a1 : Option Addr) (len1 cap1 : Nat) (z1 : List Int) (a2 : Option Addr) (len2 cap2 : Nat) (z2 : Nat → Bool) (w : World) (w0 : IsRow .i64 w a0 len0 cap0 z0) (w1 : IsRow .i64 w a1 len1 cap1 z1) (w2 : IsBools w a2 len2 cap2 z2) :
    Calls Try.prog 6 #[.slice a0 len0 cap0, .slice a1 len1 cap1, .slice a2 len2 cap2] w fun e w' => e = .returned (.bool true) ∧ Below w.heap.size w w' := by
  have R0 := w0.row
  have R1 := w1.row
  have R2 : Hid (IsBools w a2 len2 cap2 z2) := w2
  clear w0 w1 w2
  by_cases h : (60 : Int) < len0
  · go_enter Try.func6, Try.ntmps6
    go_wp2_with (go_at_call 8; with_reducible (refine (awake_any _).mono ?_); rintro e w9 ⟨rfl, b9⟩)
    go_ret
    exact ⟨rfl, b9⟩
  by_cases h' : (60 : Int) < len1
  · go_enter Try.func6, Try.ntmps6
    go_wp2_with (go_at_call 8; with_reducible (refine (awake_any _).mono ?_); rintro e w9 ⟨rfl, b9⟩)
    go_ret
    exact ⟨rfl, b9⟩
  by_cases h'' : (1000 : Int) < len2
  · go_enter Try.func6, Try.ntmps6
    go_wp2_with (go_at_call 8; with_reducible (refine (awake_any _).mono ?_); rintro e w9 ⟨rfl, b9⟩)
    go_ret
    exact ⟨rfl, b9⟩
  have hn : len0 ≤ 400 := by omega
  have hm : len1 ≤ 400 := by omega
  go_enter Try.func6, Try.ntmps6
  go_wp2
  go_loopw [7, 8, 9] (fun i _ _ wr => ∃ k : Nat, k ≤ len0 ∧ i = .int .i64 k ∧ Below w.heap.size w wr) (fun i _ _ _ => len0 - (intOf i).toNat)
  case atStart => exact ⟨0, Nat.zero_le _, rfl, Below.refl _ _⟩
  case round =>
    obtain ⟨k, hk, rfl, hb⟩ := hrel
    have S0 := keepH R0 hb
    have S1 := keepH R1 hb
    have S2 := keepB R2 hb
    by_cases hlt : k < len0
    · obtain ⟨b, off, y, rfl, hc, hy, y0, y1⟩ := S0.out.at hlt
      by_cases he : resE (z0.take len0) (z1.take len1) (varF y) = 0
      · cases ha : holdsF (z0.take len0) len2 z2
        · skip
          go_wp2_with (first
            | (go_at_call 20; with_reducible (refine (var_any _ _ y1).mono ?_); rintro e w1 ⟨rfl, b1⟩)
            | (go_at_call 18; with_reducible (refine (resolve_any _ _ _ _ _ _ _ _ _ _ (S0.out.keep b1) (S1.out.keep b1) hn hm).mono ?_); rintro e w3 ⟨x1, k1, c1, rfl, r1, b2⟩)
            | (go_at_call 12; with_reducible (refine (holdsC_any _ _ _ _ _ (S0.out.keep (Below.next b1 b2)) _ _ _ z2 (S2.out.keep (Below.next b1 b2))).mono ?_); rintro e w4 ⟨rfl, b3⟩))
          go_roundw
          case rel => exact ⟨k + 1, by omega, by go_num, Below.next hb (Below.next (Below.next b1 b2) b3)⟩
          case measure => simp [intOf]; omega
        · cases hbb : holdsF (z1.take len1) len2 z2
          · skip
            go_wp2_with (first
              | (go_at_call 20; with_reducible (refine (var_any _ _ y1).mono ?_); rintro e w1 ⟨rfl, b1⟩)
              | (go_at_call 18; with_reducible (refine (resolve_any _ _ _ _ _ _ _ _ _ _ (S0.out.keep b1) (S1.out.keep b1) hn hm).mono ?_); rintro e w3 ⟨x1, k1, c1, rfl, r1, b2⟩)
              | (go_at_call 12; with_reducible (refine (holdsC_any _ _ _ _ _ (S0.out.keep (Below.next b1 b2)) _ _ _ z2 (S2.out.keep (Below.next b1 b2))).mono ?_); rintro e w4 ⟨rfl, b3⟩)
              | (go_at_call 12; with_reducible (refine (holdsC_any _ _ _ _ _ (S1.out.keep (Below.next (Below.next b1 b2) b3)) _ _ _ z2 (S2.out.keep (Below.next (Below.next b1 b2) b3))).mono ?_); rintro e w5 ⟨rfl, b4⟩))
            go_roundw
            case rel => exact ⟨k + 1, by omega, by go_num, Below.next hb (Below.next (Below.next (Below.next b1 b2) b3) b4)⟩
            case measure => simp [intOf]; omega
          · have hs := sound he ha hbb
            go_wp2_with (first
              | (go_at_call 20; with_reducible (refine (var_any _ _ y1).mono ?_); rintro e w1 ⟨rfl, b1⟩)
              | (go_at_call 18; with_reducible (refine (resolve_any _ _ _ _ _ _ _ _ _ _ (S0.out.keep b1) (S1.out.keep b1) hn hm).mono ?_); rintro e w3 ⟨x1, k1, c1, rfl, r1, b2⟩)
              | (go_at_call 12; with_reducible (refine (holdsC_any _ _ _ _ _ (S0.out.keep (Below.next b1 b2)) _ _ _ z2 (S2.out.keep (Below.next b1 b2))).mono ?_); rintro e w4 ⟨rfl, b3⟩)
              | (go_at_call 12; with_reducible (refine (holdsC_any _ _ _ _ _ (S1.out.keep (Below.next (Below.next b1 b2) b3)) _ _ _ z2 (S2.out.keep (Below.next (Below.next b1 b2) b3))).mono ?_); rintro e w5 ⟨rfl, b4⟩)
              | (go_at_call 12; with_reducible (refine (holdsC_any _ _ _ _ _ (r1.out.keep (Below.next b3 b4)) _ _ _ z2 (S2.out.keep (Below.next (Below.next (Below.next b1 b2) b3) b4))).mono ?_); rintro e w6 ⟨rfl, b5⟩))
            go_roundw
            case rel => exact ⟨k + 1, by omega, by go_num, Below.next hb (Below.next (Below.next (Below.next (Below.next b1 b2) b3) b4) b5)⟩
            case measure => simp [intOf]; omega
      · have he' : (resE (z0.take len0) (z1.take len1) (varF y) == 0) = false := by simpa using he
        go_wp2_with (first
          | (go_at_call 20; with_reducible (refine (var_any _ _ y1).mono ?_); rintro e w1 ⟨rfl, b1⟩)
          | (go_at_call 18; with_reducible (refine (resolve_any _ _ _ _ _ _ _ _ _ _ (S0.out.keep b1) (S1.out.keep b1) hn hm).mono ?_); rintro e w3 ⟨x1, k1, c1, rfl, r1, b2⟩))
        go_roundw
        case rel => exact ⟨k + 1, by omega, by go_num, Below.next hb (Below.next b1 b2)⟩
        case measure => simp [intOf]; omega
    · go_wp2_with (go_at_call 8; with_reducible (refine (awake_any _).mono ?_); rintro e w9 ⟨rfl, b9⟩)
      go_ret
      exact ⟨rfl, Below.next hb b9⟩

/-! ### THE ROW's STEP: WRITTEN OUT: LEAVE IT -/
set_option maxRecDepth 100000 in
theorem lifted (os : Os) (started : os.Started) (H : Type) (enc : TypeId × Value → H) :
    ReturnsInHanded {} Try.checked os 6 .any (Rows.clauseSoundSpec.pre6 enc Try.prog Try.f6 Rows.clauseSoundRow.domain false) (Rows.clauseSoundSpec.post enc Try.prog Try.f6 false true false false) := by
  refine returnsInHanded_of_change (C := Try.checked) own started (by kernel_rfl) Try.func6
    (ChangeSpec.witness6 (enc := enc) (C := Try.checked) false ⟨#[], #[.slice none 0 0, .slice none 0 0, .slice none 0 0], []⟩ 8 (by kernel_rfl) (by kernel_rfl) (by kernel_rfl) (by kernel_rfl)) ?_
  intro W base args ds gs before hval0 hW hcnd _
  have hval : ∀ (j : Nat) t v, Try.f6.params[j]? = some t → args[j]? = some v → Value.okWide Try.prog W .any base t v := hval0
  have hW' := hW
  obtain ⟨p, q, hA0, hV, rfl, hfz, hnd⟩ := hW
  have hA : DataW.TrodAll enc Try.prog W 0 (fun _ => true) true Try.f6.params.toList args.toList ds p := hA0
  rw [Try.params6] at hA hval
  obtain ⟨v0, vs0, d0, ds0, p0, q0, hargs, rfl, rfl, h0, r0⟩ := trodAll_cons hA
  obtain ⟨v1, vs1, d1, ds1, p1, q1, rfl, rfl, rfl, h1, r1⟩ := trodAll_cons r0
  obtain ⟨v2, vs2, d2, ds2, p2, q2, rfl, rfl, rfl, h2, r2⟩ := trodAll_cons r1
  obtain ⟨rfl, rfl, rfl⟩ := trodAll_nil r2
  obtain rfl : args = #[v0, v1, v2] := by cases args; simp_all
  obtain ⟨rfl, rfl⟩ := trodVars_none hV
  obtain ⟨a0, len0, cap0, rfl⟩ := okWide_slice Try.underlying22 (hval 0 22 v0 rfl rfl)
  have k0 := h0
  have lt0 : ∀ x ∈ p0, x.block < W.heap.size := by obtain ⟨m, hm⟩ := k0; exact DataW.trod_lt m _ _ _ hm
  obtain ⟨z0, w0⟩ : ∃ zs, IsRow .i64 W a0 len0 cap0 zs := by
    obtain ⟨fuel, hf⟩ := h0
    rcases open_ints Try.underlying22 Try.underlying3 (by kernel_rfl) hf with ⟨hcs, _⟩ | ⟨x, l, c, zs, hcs, _, hl, hm, hz, _, hcell, hwz⟩
    · simp [Value.cells] at hcs
      obtain ⟨rfl, rfl, rfl⟩ := hcs
      exact ⟨[], .inl ⟨rfl, rfl, rfl, rfl⟩⟩
    · simp [Value.cells] at hcs
      obtain ⟨rfl, rfl, rfl⟩ := hcs
      exact ⟨zs, .inr ⟨_, rfl, hl, hm, by simpa using hz, hcell, hwz⟩⟩
  obtain ⟨a1, len1, cap1, rfl⟩ := okWide_slice Try.underlying22 (hval 1 22 v1 rfl rfl)
  have k1 := h1
  have lt1 : ∀ x ∈ p1, x.block < W.heap.size := by obtain ⟨m, hm⟩ := k1; exact DataW.trod_lt m _ _ _ hm
  obtain ⟨z1, w1⟩ : ∃ zs, IsRow .i64 W a1 len1 cap1 zs := by
    obtain ⟨fuel, hf⟩ := h1
    rcases open_ints Try.underlying22 Try.underlying3 (by kernel_rfl) hf with ⟨hcs, _⟩ | ⟨x, l, c, zs, hcs, _, hl, hm, hz, _, hcell, hwz⟩
    · simp [Value.cells] at hcs
      obtain ⟨rfl, rfl, rfl⟩ := hcs
      exact ⟨[], .inl ⟨rfl, rfl, rfl, rfl⟩⟩
    · simp [Value.cells] at hcs
      obtain ⟨rfl, rfl, rfl⟩ := hcs
      exact ⟨zs, .inr ⟨_, rfl, hl, hm, by simpa using hz, hcell, hwz⟩⟩
  obtain ⟨a2, len2, cap2, rfl⟩ := okWide_slice Try.underlying31 (hval 2 31 v2 rfl rfl)
  have k2 := h2
  have lt2 : ∀ x ∈ p2, x.block < W.heap.size := by obtain ⟨m, hm⟩ := k2; exact DataW.trod_lt m _ _ _ hm
  obtain ⟨z2, w2⟩ : ∃ zs, IsBools W a2 len2 cap2 zs := by
    obtain ⟨fuel, hf⟩ := h2
    rcases Go.Deep.open_bools Try.underlying31 Try.underlying4 (by kernel_rfl) hf with ⟨hcs, _⟩ | ⟨x, l, c, B, hcs, _, hl, hm, _, hcell⟩
    · simp [Value.cells] at hcs
      obtain ⟨rfl, rfl, rfl⟩ := hcs
      exact ⟨fun _ => false, .inl ⟨rfl, rfl, rfl⟩⟩
    · simp [Value.cells] at hcs
      obtain ⟨rfl, rfl, rfl⟩ := hcs
      exact ⟨B, .inr ⟨_, rfl, hl, hm, fun i hi => hcell i (by omega)⟩⟩
  clear hA0 hval0
  refine (walk a0 len0 cap0 z0 a1 len1 cap1 z1 a2 len2 cap2 z2 W w0 w1 w2).mono fun e W' ⟨he, bel⟩ => ?_
  subst he
  exact ⟨_, rfl, _, _, _, [], _, [], hW', trodAll_mk1 (shut_bool Try.underlying4 _), (trodAll_cons_mk (Below.trod laidOut (by kernel_rfl) (of_decide_eq_true (by kernel_rfl)) k0 bel lt0) (trodAll_cons_mk (Below.trod laidOut (by kernel_rfl) (of_decide_eq_true (by kernel_rfl)) k1 bel lt1) (trodAll_cons_mk (Below.trod laidOut (by kernel_rfl) (of_decide_eq_true (by kernel_rfl)) k2 bel lt2) trodAll_mk0))), rfl, bel.frame _, fun h => by cases h⟩

theorem over : Rows.clauseSoundRow.holds Try.pinned (OpenSpec.ofChange Rows.clauseSoundSpec) :=
  OpenClaim.holds_of_wide 6 Try.f6 rfl rfl rfl rfl rfl rfl rfl ⟨rfl, rfl, rfl, rfl, rfl⟩ rfl rfl rfl rfl rfl (by kernel_rfl) Try.func6 (by kernel_rfl)
    (of_decide_eq_true (by kernel_rfl)) (by unfold Func.isWrapper; first | (rw [if_pos (by decide +kernel)]; kernel_rfl) | (rw [if_neg (by decide +kernel)]; exact ⟨rfl, rfl⟩))
    (fun os started H enc _ => lifted os started H enc)

/-- ████ THE STATEMENT ████ -/
theorem proved : Rows.ClauseSoundSaid := over
#print axioms proved
end Go.Proofs.Ytgnoejcekbfkoaa.clauseSound
