/- WordDivides: for every width and words a, b, the package word's quotient times b and the rest are a, and the rest is less than b where b, cut, is not 0; its examples come out; the arguments read as before. No condition beside the parameters' kinds. -/
import Derived.Test.YtjaaicaejbbhbaaRows
import Derived.WalkKit
import Derived.ProofKit
import Derived.OpenShut
import Derived.Lib.SmallJoins
import Derived.Test.YtjaaicaejbbhbaaAwake
import Derived.Test.YtjaaicaejbbhbaaAlgebra
namespace Go.Proofs.Ytjaaicaejbbhbaa.wordDivides
open Go.ChangeShapes Go.WideShapes Go.ChangeAt Go.RowKit
set_option linter.unusedVariables false

theorem own : ownKnob Try.prog.godebug = none := by kernel_rfl
theorem cells29 : Try.prog.cellsOf 29 = 2 := by kernel_rfl

theorem walk (a0 : Int) (a1a a1b : Int) (w0 : (Lit.int .i64 a0).wf = true) (w1a : (Lit.int .u64 a1a).wf = true) (w1b : (Lit.int .u64 a1b).wf = true) (w : World) :
    Calls Try.prog 7 #[.int .i64 a0, .agg #[.int .u64 a1a, .int .u64 a1b]] w fun e w' => e = .returned (.bool true) ∧ Grown w w' := by
  obtain ⟨a, ra⟩ : ∃ a, a = a1a := ⟨_, rfl⟩
  obtain ⟨b, rb⟩ : ∃ b, b = a1b := ⟨_, rfl⟩
  subst ra rb
  have alo := (bounds_u64 w1a).1
  have ahi : a < 18446744073709551616 := by have := (bounds_u64 w1a).2; omega
  have blo := (bounds_u64 w1b).1
  have bhi : b < 18446744073709551616 := by have := (bounds_u64 w1b).2; omega
  clear w0 w1a w1b
  by_cases h : 1 ≤ a0 ∧ a0 ≤ 64
  · obtain ⟨n, rfl, hn1, hn2⟩ := width_nat h.1 h.2
    have hm : (mskF n == 0) = false := by
      rw [msk_yes n hn1 hn2]; have := pow_pred n hn1; have := pos2 (n - 1); simp; omega
    have z0a := (bin_bd 4 n a b).1; have z0b := (bin_bd 4 n a b).2
    have z1a := (bin_bd 5 n a b).1; have z1b := (bin_bd 5 n a b).2
    have z2a := (bin_bd 3 n (binF 4 n a b) b).1; have z2b := (bin_bd 3 n (binF 4 n a b) b).2
    have t1 : (binF 1 n (binF 3 n (binF 4 n a b) b) (binF 5 n a b) == cutF n a) = true := by rw [div_back n a b hn1 hn2]; simp
    clear h
    by_cases hB : cutF n b = 0
    · have t2 : (cutF n b == 0) = true := by simp [hB]
      clear hB
      go_enter Try.func7, Try.ntmps7
      go_wp2_with (first | (go_at_call 9; refine (mask_any _ _).mono ?_; rintro e w' ⟨rfl, rfl⟩) | (go_at_call 16; with_reducible (refine (binary_any _ _ _ _ _ ‹_› ‹_› ‹_› ‹_›).mono ?_); rintro e w' ⟨rfl, rfl⟩) | (go_at_call 18; with_reducible (refine (unary_any _ _ _ _ ‹_› ‹_›).mono ?_); rintro e w' ⟨rfl, rfl⟩) | (go_at_call 11; with_reducible (refine (word_cut_any _ _ _ ‹_› ‹_›).mono ?_); rintro e w' ⟨rfl, rfl⟩) | (go_at_call 15; refine (awake_any _).mono ?_; rintro e w' ⟨rfl, rfl⟩))
      go_ret
      exact ⟨rfl, by repeat (first | exact Grown.refl _ | apply Grown.drew | apply Grown.alloc)⟩
    · have t2 : (cutF n b == 0) = false := by simp [hB]
      have t3 : (binF 13 n (binF 5 n a b) b == 1) = true := by rw [rem_less n a b hn1 hn2 hB]; rfl
      clear hB
      go_enter Try.func7, Try.ntmps7
      go_wp2_with (first | (go_at_call 9; refine (mask_any _ _).mono ?_; rintro e w' ⟨rfl, rfl⟩) | (go_at_call 16; with_reducible (refine (binary_any _ _ _ _ _ ‹_› ‹_› ‹_› ‹_›).mono ?_); rintro e w' ⟨rfl, rfl⟩) | (go_at_call 18; with_reducible (refine (unary_any _ _ _ _ ‹_› ‹_›).mono ?_); rintro e w' ⟨rfl, rfl⟩) | (go_at_call 11; with_reducible (refine (word_cut_any _ _ _ ‹_› ‹_›).mono ?_); rintro e w' ⟨rfl, rfl⟩) | (go_at_call 15; refine (awake_any _).mono ?_; rintro e w' ⟨rfl, rfl⟩))
      go_ret
      exact ⟨rfl, by repeat (first | exact Grown.refl _ | apply Grown.drew | apply Grown.alloc)⟩
  · have hm : (mskF a0 == 0) = true := by rw [msk_no h]; rfl
    go_enter Try.func7, Try.ntmps7
    go_wp2_with (first | (go_at_call 9; refine (mask_any _ _).mono ?_; rintro e w' ⟨rfl, rfl⟩) | (go_at_call 16; with_reducible (refine (binary_any _ _ _ _ _ ‹_› ‹_› ‹_› ‹_›).mono ?_); rintro e w' ⟨rfl, rfl⟩) | (go_at_call 18; with_reducible (refine (unary_any _ _ _ _ ‹_› ‹_›).mono ?_); rintro e w' ⟨rfl, rfl⟩) | (go_at_call 11; with_reducible (refine (word_cut_any _ _ _ ‹_› ‹_›).mono ?_); rintro e w' ⟨rfl, rfl⟩) | (go_at_call 15; refine (awake_any _).mono ?_; rintro e w' ⟨rfl, rfl⟩))
    go_ret
    exact ⟨rfl, by repeat (first | exact Grown.refl _ | apply Grown.drew | apply Grown.alloc)⟩

set_option maxRecDepth 100000 in
theorem lifted (os : Os) (started : os.Started) (H : Type) (enc : TypeId × Value → H) :
    ReturnsInHanded {} Try.checked os 7 .any (Rows.wordDividesSpec.pre6 enc Try.prog Try.f7 Rows.wordDividesRow.domain false) (Rows.wordDividesSpec.post enc Try.prog Try.f7 false true false false) := by
  refine returnsInHanded_of_change (C := Try.checked) own started (by kernel_rfl) Try.func7
    (ChangeSpec.witness6 (enc := enc) (C := Try.checked) false ⟨#[], #[.int .i64 0, .agg #[.int .u64 0, .int .u64 0]], []⟩ 8 (by kernel_rfl) (by kernel_rfl) (by kernel_rfl) (by kernel_rfl)) ?_
  intro W base args ds gs before hval0 hW hcnd _
  have hval : ∀ (j : Nat) t v, Try.f7.params[j]? = some t → args[j]? = some v → Value.okWide Try.prog W .any base t v := hval0
  have hW' := hW
  obtain ⟨p, q, hA0, hV, rfl, hfz, hnd⟩ := hW
  have hA : DataW.TrodAll enc Try.prog W 0 (fun _ => true) true Try.f7.params.toList args.toList ds p := hA0
  rw [Try.params7] at hA hval
  obtain ⟨v0, vs0, d0, ds0, p0, q0, hargs, rfl, rfl, h0, r0⟩ := trodAll_cons hA
  obtain ⟨v1, vs1, d1, ds1, p1, q1, rfl, rfl, rfl, h1, r1⟩ := trodAll_cons r0
  obtain ⟨rfl, rfl, rfl⟩ := trodAll_nil r1
  obtain rfl : args = #[v0, v1] := by cases args; simp_all
  obtain ⟨rfl, rfl⟩ := trodVars_none hV
  obtain ⟨a0, rfl, rfl, rfl, w0⟩ := open_int Try.underlying3 (hval 0 3 v0 rfl rfl) h0
  obtain ⟨c0, c1, y0, y1, m, rfl, rfl, rfl, hy0, hy1⟩ := Go.Joins.open_agg2 Try.underlying29 (by kernel_rfl) cells29 (hval 1 29 v1 rfl rfl) h1
  obtain ⟨a1a, e0, rfl, w1a⟩ := DataW.trod_int Try.underlying22 hy0
  obtain ⟨a1b, e1, rfl, w1b⟩ := DataW.trod_int Try.underlying22 hy1
  simp at e0 e1
  subst e0 e1
  clear hA0 hval0
  simp only [List.append_nil] at hW'
  have structReads : ∀ (W' : World) (sp : Nat → Bool), DataW.Trod enc Try.prog W' 0 sp true 29 (.agg #[.int .u64 a1a, .int .u64 a1b]) (.agg [.lit (.int .u64 a1a), .lit (.int .u64 a1b)]) [] := fun W' sp =>
    Go.Joins.shut_agg2 (y0 := (.lit (.int .u64 a1a), [])) (y1 := (.lit (.int .u64 a1b), [])) Try.underlying29 (by kernel_rfl) cells29 ⟨1, by simp [DataW.trod, Try.underlying22, w1a]⟩ ⟨1, by simp [DataW.trod, Try.underlying22, w1b]⟩
  refine (walk a0 a1a a1b w0 w1a w1b W).mono fun e W' ⟨he, hg⟩ => ?_
  subst he
  exact ⟨_, rfl, post_of_same (pa := []) (pv := []) hW' (fun _ _ _ => (trodAll_cons_mk (shut_bool Try.underlying4 _) trodAll_mk0)) (fun sp _ => (trodAll_cons_mk (shut_int Try.underlying3 w0) (trodAll_cons_mk (structReads _ sp) trodAll_mk0))) (fun _ _ => rfl) rfl
    (hg.frame _) hg.2.1 (ok_one (by kernel_rfl) rfl (okWide_bool_mk Try.underlying4 _))⟩

theorem over : Rows.wordDividesRow.holds Try.pinned (OpenSpec.ofChange Rows.wordDividesSpec) :=
  OpenClaim.holds_of_wide 7 Try.f7 rfl rfl rfl rfl rfl rfl rfl ⟨rfl, rfl, rfl, rfl, rfl⟩ rfl rfl rfl rfl rfl (by kernel_rfl) Try.func7 (by kernel_rfl)
    (of_decide_eq_true (by kernel_rfl)) (by unfold Func.isWrapper; first | (rw [if_pos (by decide +kernel)]; kernel_rfl) | (rw [if_neg (by decide +kernel)]; exact ⟨rfl, rfl⟩))
    (fun os started H enc _ => lifted os started H enc)

theorem proved : Rows.WordDividesSaid :=
  over
#print axioms proved
end Go.Proofs.Ytjaaicaejbbhbaa.wordDivides
