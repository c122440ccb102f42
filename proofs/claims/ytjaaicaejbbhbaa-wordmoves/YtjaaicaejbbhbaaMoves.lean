/- WordMoves: for every width, word and number of bits, a word that is moved up and down again has lost just its highest bits, moved by none it is as it was, with its sign moved down it keeps that; the examples come out; the arguments read as before. No condition beside the parameters' kinds. -/
import Derived.Test.YtjaaicaejbbhbaaRows
import Derived.WalkKit
import Derived.ProofKit
import Derived.OpenShut
import Derived.Test.YtjaaicaejbbhbaaAwake
import Derived.Test.YtjaaicaejbbhbaaAlgebra
namespace Go.Proofs.Ytjaaicaejbbhbaa.wordMoves
open Go.ChangeShapes Go.WideShapes Go.ChangeAt Go.RowKit
set_option linter.unusedVariables false      -- a walk need not use every 'w<i>' (that an integer argument fits its kind)

theorem own : ownKnob Try.prog.godebug = none := by kernel_rfl

/-! ### STEP 1: THE WALK: the Go text returns true. 'Grown w w'': the world has at most new blocks (Derived/RowKit3.lean). Part the cases AHEAD of 'go_enter' where a test parts the walk; take each callee by a contract of your own. -/
theorem walk (a0 : Int) (a1 : Int) (a2 : Int) (w0 : (Lit.int .i64 a0).wf = true) (w1 : (Lit.int .u64 a1).wf = true) (w2 : (Lit.int .u8 a2).wf = true) (w : World) :
    Calls Try.prog 8 #[.int .i64 a0, .int .u64 a1, .int .u8 a2] w fun e w' => e = .returned (.bool true) ∧ Grown w w' := by
  have alo := (bounds_u64 w1).1
  have ahi : a1 < 18446744073709551616 := by have := (bounds_u64 w1).2; omega
  have blo := (bounds_u8 w2).1
  have bhi8 := (bounds_u8 w2).2
  have bhi : a2 < 18446744073709551616 := by omega
  have k0 : (0 : Int) ≤ 0 := by decide
  have k1 : (0 : Int) < 18446744073709551616 := by decide
  clear w0 w1 w2
  by_cases h : 1 ≤ a0 ∧ a0 ≤ 64
  · obtain ⟨n, rfl, hn1, hn2⟩ := width_nat h.1 h.2
    have hm : (mskF n == 0) = false := by
      rw [msk_yes n hn1 hn2]; have := pow_pred n hn1; have := pos2 (n - 1); simp; omega
    have z0a := (bin_bd 9 n a1 a2).1; have z0b := (bin_bd 9 n a1 a2).2
    have z1a := (bin_bd 11 n a1 a2).1; have z1b := (bin_bd 11 n a1 a2).2
    have t2 : (binF 10 n a1 0 == cutF n a1) = true := by rw [move_none n a1 hn1 hn2]; simp
    have t3 : decide (sgnF n (binF 11 n a1 a2) < 0) = decide (sgnF n a1 < 0) := sar_sign n a1 a2 hn1 hn2
    have t4 : (decide (sgnF n (binF 11 n a1 a2) < 0) == decide (sgnF n a1 < 0)) = true := by rw [t3]; simp
    have cb := cut_lt n a2 hn1 hn2
    have cle : cutF n a2 ≤ a2 := by
      rw [cut_yes n a2 hn1 hn2]; have := pos2 n
      by_cases hl : a2 < 2 ^ n
      · rw [Int.emod_eq_of_lt blo hl]; omega
      · have := Int.emod_lt_of_pos a2 (pos2 n); omega
    obtain ⟨B, hB⟩ := Int.eq_ofNat_of_zero_le cb.1
    have hB255 : B ≤ 255 := by omega
    by_cases hlt : B < n
    · have t1 : (binF 10 n (binF 9 n a1 a2) a2 == cutF ((n : Int) - (B : Int)) a1) = true := by rw [move_up_down n B a1 a2 hn1 hn2 hB hlt]; simp
      clear h cb cle t3
      go_enter Try.func8, Try.ntmps8
      go_wp2_with (first | (go_at_call 9; refine (mask_any _ _).mono ?_; rintro e w' ⟨rfl, rfl⟩) | (go_at_call 16; with_reducible (refine (binary_any _ _ _ _ _ ‹_› ‹_› ‹_› ‹_›).mono ?_); rintro e w' ⟨rfl, rfl⟩) | (go_at_call 13; with_reducible (refine (signed_any _ _ _ ‹_› ‹_›).mono ?_); rintro e w' ⟨rfl, rfl⟩) | (go_at_call 11; with_reducible (refine (word_cut_any _ _ _ ‹_› ‹_›).mono ?_); rintro e w' ⟨rfl, rfl⟩) | (go_at_call 15; refine (awake_any _).mono ?_; rintro e w' ⟨rfl, rfl⟩))
      go_ret
      exact ⟨rfl, by repeat (first | exact Grown.refl _ | apply Grown.drew | apply Grown.alloc)⟩
    · have t1 : (binF 10 n (binF 9 n a1 a2) a2 == 0) = true := by rw [move_up_out n B a1 a2 hn1 hn2 hB (by omega)]; rfl
      clear h cb cle t3
      go_enter Try.func8, Try.ntmps8
      go_wp2_with (first | (go_at_call 9; refine (mask_any _ _).mono ?_; rintro e w' ⟨rfl, rfl⟩) | (go_at_call 16; with_reducible (refine (binary_any _ _ _ _ _ ‹_› ‹_› ‹_› ‹_›).mono ?_); rintro e w' ⟨rfl, rfl⟩) | (go_at_call 13; with_reducible (refine (signed_any _ _ _ ‹_› ‹_›).mono ?_); rintro e w' ⟨rfl, rfl⟩) | (go_at_call 11; with_reducible (refine (word_cut_any _ _ _ ‹_› ‹_›).mono ?_); rintro e w' ⟨rfl, rfl⟩) | (go_at_call 15; refine (awake_any _).mono ?_; rintro e w' ⟨rfl, rfl⟩))
      go_ret
      exact ⟨rfl, by repeat (first | exact Grown.refl _ | apply Grown.drew | apply Grown.alloc)⟩
  · have hm : (mskF a0 == 0) = true := by rw [msk_no h]; rfl
    go_enter Try.func8, Try.ntmps8
    go_wp2_with (first | (go_at_call 9; refine (mask_any _ _).mono ?_; rintro e w' ⟨rfl, rfl⟩) | (go_at_call 16; with_reducible (refine (binary_any _ _ _ _ _ ‹_› ‹_› ‹_› ‹_›).mono ?_); rintro e w' ⟨rfl, rfl⟩) | (go_at_call 13; with_reducible (refine (signed_any _ _ _ ‹_› ‹_›).mono ?_); rintro e w' ⟨rfl, rfl⟩) | (go_at_call 11; with_reducible (refine (word_cut_any _ _ _ ‹_› ‹_›).mono ?_); rintro e w' ⟨rfl, rfl⟩) | (go_at_call 15; refine (awake_any _).mono ?_; rintro e w' ⟨rfl, rfl⟩))
    go_ret
    exact ⟨rfl, by repeat (first | exact Grown.refl _ | apply Grown.drew | apply Grown.alloc)⟩

/-! ### THE ROW's STEP: WRITTEN OUT: LEAVE IT -/
set_option maxRecDepth 100000 in
theorem lifted (os : Os) (started : os.Started) (H : Type) (enc : TypeId × Value → H) :
    ReturnsInHanded {} Try.checked os 8 .any (Rows.wordMovesSpec.pre6 enc Try.prog Try.f8 Rows.wordMovesRow.domain false) (Rows.wordMovesSpec.post enc Try.prog Try.f8 false true false false) := by
  refine returnsInHanded_of_change (C := Try.checked) own started (by kernel_rfl) Try.func8
    (ChangeSpec.witness6 (enc := enc) (C := Try.checked) false ⟨#[], #[.int .i64 0, .int .u64 0, .int .u8 0], []⟩ 8 (by kernel_rfl) (by kernel_rfl) (by kernel_rfl) (by kernel_rfl)) ?_
  intro W base args ds gs before hval0 hW hcnd _
  have hval : ∀ (j : Nat) t v, Try.f8.params[j]? = some t → args[j]? = some v → Value.okWide Try.prog W .any base t v := hval0
  have hW' := hW
  obtain ⟨p, q, hA0, hV, rfl, hfz, hnd⟩ := hW
  have hA : DataW.TrodAll enc Try.prog W 0 (fun _ => true) true Try.f8.params.toList args.toList ds p := hA0
  rw [Try.params8] at hA hval
  obtain ⟨v0, vs0, d0, ds0, p0, q0, hargs, rfl, rfl, h0, r0⟩ := trodAll_cons hA
  obtain ⟨v1, vs1, d1, ds1, p1, q1, rfl, rfl, rfl, h1, r1⟩ := trodAll_cons r0
  obtain ⟨v2, vs2, d2, ds2, p2, q2, rfl, rfl, rfl, h2, r2⟩ := trodAll_cons r1
  obtain ⟨rfl, rfl, rfl⟩ := trodAll_nil r2
  obtain rfl : args = #[v0, v1, v2] := by cases args; simp_all
  obtain ⟨rfl, rfl⟩ := trodVars_none hV
  obtain ⟨a0, rfl, rfl, rfl, w0⟩ := open_int Try.underlying3 (hval 0 3 v0 rfl rfl) h0
  obtain ⟨a1, rfl, rfl, rfl, w1⟩ := open_int Try.underlying22 (hval 1 22 v1 rfl rfl) h1
  obtain ⟨a2, rfl, rfl, rfl, w2⟩ := open_int Try.underlying5 (hval 2 5 v2 rfl rfl) h2
  clear hA0 hval0
  simp only [List.append_nil] at hW'
  refine (walk a0 a1 a2 w0 w1 w2 W).mono fun e W' ⟨he, hg⟩ => ?_
  subst he
  exact ⟨_, rfl, post_of_same (pa := []) (pv := []) hW' (fun _ _ _ => (trodAll_cons_mk (shut_bool Try.underlying4 _) trodAll_mk0)) (fun sp _ => (trodAll_cons_mk (shut_int Try.underlying3 w0) (trodAll_cons_mk (shut_int Try.underlying22 w1) (trodAll_cons_mk (shut_int Try.underlying5 w2) trodAll_mk0)))) (fun _ _ => rfl) rfl
    (hg.frame _) hg.2.1 (ok_one (by kernel_rfl) rfl (okWide_bool_mk Try.underlying4 _))⟩

theorem over : Rows.wordMovesRow.holds Try.pinned (OpenSpec.ofChange Rows.wordMovesSpec) :=
  OpenClaim.holds_of_wide 8 Try.f8 rfl rfl rfl rfl rfl rfl rfl ⟨rfl, rfl, rfl, rfl, rfl⟩ rfl rfl rfl rfl rfl (by kernel_rfl) Try.func8 (by kernel_rfl)
    (of_decide_eq_true (by kernel_rfl)) (by unfold Func.isWrapper; first | (rw [if_pos (by decide +kernel)]; kernel_rfl) | (rw [if_neg (by decide +kernel)]; exact ⟨rfl, rfl⟩))
    (fun os started H enc _ => lifted os started H enc)

/-- ████ THE STATEMENT ████ -/
theorem proved : Rows.WordMovesSaid :=
  over
#print axioms proved
end Go.Proofs.Ytjaaicaejbbhbaa.wordMoves
