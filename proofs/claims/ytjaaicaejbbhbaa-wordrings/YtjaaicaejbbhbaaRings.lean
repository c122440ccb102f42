/- WordRings: for every width and words a, b, c, the package word's sums, differences and products are those of a ring (a sum in either order, a difference that undoes a sum, products over sums, a negation as a difference from 0), and its examples come out; the arguments read as before. No condition beside the parameters' kinds. -/
import Derived.Test.YtjaaicaejbbhbaaRows
import Derived.WalkKit
import Derived.ProofKit
import Derived.OpenShut
import Derived.Lib.SmallJoins
import Derived.Test.YtjaaicaejbbhbaaAwake
import Derived.Test.YtjaaicaejbbhbaaAlgebra
namespace Go.Proofs.Ytjaaicaejbbhbaa.wordRings
open Go.ChangeShapes Go.WideShapes Go.ChangeAt Go.RowKit
set_option linter.unusedVariables false

theorem own : ownKnob Try.prog.godebug = none := by kernel_rfl
theorem cells29 : Try.prog.cellsOf 29 = 2 := by kernel_rfl

theorem walk (a0 : Int) (a1a a1b : Int) (a2 : Int) (w0 : (Lit.int .i64 a0).wf = true) (w1a : (Lit.int .u64 a1a).wf = true) (w1b : (Lit.int .u64 a1b).wf = true) (w2 : (Lit.int .u64 a2).wf = true) (w : World) :
    Calls Try.prog 6 #[.int .i64 a0, .agg #[.int .u64 a1a, .int .u64 a1b], .int .u64 a2] w fun e w' => e = .returned (.bool true) ∧ Grown w w' := by
  obtain ⟨a, ra⟩ : ∃ a, a = a1a := ⟨_, rfl⟩
  obtain ⟨b, rb⟩ : ∃ b, b = a1b := ⟨_, rfl⟩
  obtain ⟨c, rc⟩ : ∃ c, c = a2 := ⟨_, rfl⟩
  subst ra rb rc
  have alo := (bounds_u64 w1a).1
  have ahi : a < 18446744073709551616 := by have := (bounds_u64 w1a).2; omega
  have blo := (bounds_u64 w1b).1
  have bhi : b < 18446744073709551616 := by have := (bounds_u64 w1b).2; omega
  have clo := (bounds_u64 w2).1
  have chi : c < 18446744073709551616 := by have := (bounds_u64 w2).2; omega
  have k0 : (0 : Int) ≤ 0 := by decide
  have k1 : (0 : Int) < 18446744073709551616 := by decide
  clear w0 w1a w1b w2
  by_cases h : 1 ≤ a0 ∧ a0 ≤ 64
  · obtain ⟨n, rfl, hn1, hn2⟩ := width_nat h.1 h.2
    have hm : (mskF n == 0) = false := by
      rw [msk_yes n hn1 hn2]; have := pow_pred n hn1; have := pos2 (n - 1); simp; omega
    have z0a := (bin_bd 1 n a b).1; have z0b := (bin_bd 1 n a b).2
    have z1a := (bin_bd 3 n a c).1; have z1b := (bin_bd 3 n a c).2
    have z2a := (bin_bd 3 n c b).1; have z2b := (bin_bd 3 n c b).2
    have t1 : (binF 1 n a b == binF 1 n b a) = true := by rw [ring_comm n a b]; simp
    have t2 : (binF 2 n (binF 1 n a b) b == cutF n a) = true := by rw [ring_back]; simp
    have t3 : (binF 3 n (binF 1 n a b) c == binF 1 n (binF 3 n a c) (binF 3 n c b)) = true := by rw [ring_over]; simp
    have t4 : (unF 16 n a == binF 2 n 0 a) = true := by rw [ring_neg]; simp
    clear h
    go_enter Try.func6, Try.ntmps6
    go_wp2_with (first | (go_at_call 9; refine (mask_any _ _).mono ?_; rintro e w' ⟨rfl, rfl⟩) | (go_at_call 16; with_reducible (refine (binary_any _ _ _ _ _ ‹_› ‹_› ‹_› ‹_›).mono ?_); rintro e w' ⟨rfl, rfl⟩) | (go_at_call 18; with_reducible (refine (unary_any _ _ _ _ ‹_› ‹_›).mono ?_); rintro e w' ⟨rfl, rfl⟩) | (go_at_call 11; with_reducible (refine (word_cut_any _ _ _ ‹_› ‹_›).mono ?_); rintro e w' ⟨rfl, rfl⟩) | (go_at_call 15; refine (awake_any _).mono ?_; rintro e w' ⟨rfl, rfl⟩))
    go_region
    go_wp2_with (first | (go_at_call 9; refine (mask_any _ _).mono ?_; rintro e w' ⟨rfl, rfl⟩) | (go_at_call 16; with_reducible (refine (binary_any _ _ _ _ _ ‹_› ‹_› ‹_› ‹_›).mono ?_); rintro e w' ⟨rfl, rfl⟩) | (go_at_call 18; with_reducible (refine (unary_any _ _ _ _ ‹_› ‹_›).mono ?_); rintro e w' ⟨rfl, rfl⟩) | (go_at_call 11; with_reducible (refine (word_cut_any _ _ _ ‹_› ‹_›).mono ?_); rintro e w' ⟨rfl, rfl⟩) | (go_at_call 15; refine (awake_any _).mono ?_; rintro e w' ⟨rfl, rfl⟩))
    go_ret
    exact ⟨rfl, by repeat (first | exact Grown.refl _ | apply Grown.drew | apply Grown.alloc)⟩
  · have hm : (mskF a0 == 0) = true := by rw [msk_no h]; rfl
    go_enter Try.func6, Try.ntmps6
    go_wp2_with (first | (go_at_call 9; refine (mask_any _ _).mono ?_; rintro e w' ⟨rfl, rfl⟩) | (go_at_call 16; with_reducible (refine (binary_any _ _ _ _ _ ‹_› ‹_› ‹_› ‹_›).mono ?_); rintro e w' ⟨rfl, rfl⟩) | (go_at_call 18; with_reducible (refine (unary_any _ _ _ _ ‹_› ‹_›).mono ?_); rintro e w' ⟨rfl, rfl⟩) | (go_at_call 11; with_reducible (refine (word_cut_any _ _ _ ‹_› ‹_›).mono ?_); rintro e w' ⟨rfl, rfl⟩) | (go_at_call 15; refine (awake_any _).mono ?_; rintro e w' ⟨rfl, rfl⟩))
    go_ret
    exact ⟨rfl, by repeat (first | exact Grown.refl _ | apply Grown.drew | apply Grown.alloc)⟩

set_option maxRecDepth 100000 in
theorem lifted (os : Os) (started : os.Started) (H : Type) (enc : TypeId × Value → H) :
    ReturnsInHanded {} Try.checked os 6 .any (Rows.wordRingsSpec.pre6 enc Try.prog Try.f6 Rows.wordRingsRow.domain false) (Rows.wordRingsSpec.post enc Try.prog Try.f6 false true false false) := by
  refine returnsInHanded_of_change (C := Try.checked) own started (by kernel_rfl) Try.func6
    (ChangeSpec.witness6 (enc := enc) (C := Try.checked) false ⟨#[], #[.int .i64 0, .agg #[.int .u64 0, .int .u64 0], .int .u64 0], []⟩ 8 (by kernel_rfl) (by kernel_rfl) (by kernel_rfl) (by kernel_rfl)) ?_
  intro W base args ds gs before hval0 hW hcnd _
  have hval : ∀ (j : Nat) t v, Try.f6.params[j]? = some t → args[j]? = some v → Value.okWide Try.prog W .any base t v := hval0
  have hW' := hW
  obtain ⟨p, q, hA0, hV, rfl, hfz, hnd⟩ := hW
  have hA : DataW.TrodAll enc Try.prog W 0 (fun _ => true) true Try.f6.params.toList args.toList ds p := hA0
  rw [Try.params6] at hA hval
  obtain ⟨v0, vs0, d0, ds0, p0, q0, hargs, rfl, rfl, h0, r0⟩ := trodAll_cons hA
  obtain ⟨v1, vs1, d1, ds1, p1, q1, rfl, rfl, rfl, h1, r1⟩ := trodAll_cons r0
  obtain ⟨v2, vs2, d2, ds2, p2, q2, rfl, rfl, rfl, h2, r2⟩ := trodAll_cons r1
  obtain ⟨rfl, rfl, rfl⟩ := trodAll_nil r2
  obtain rfl : args = #[v0, v1, v2] := by cases args; simp_all
  obtain ⟨rfl, rfl⟩ := trodVars_none hV
  obtain ⟨a0, rfl, rfl, rfl, w0⟩ := open_int Try.underlying3 (hval 0 3 v0 rfl rfl) h0
  obtain ⟨c0, c1, y0, y1, m, rfl, rfl, rfl, hy0, hy1⟩ := Go.Joins.open_agg2 Try.underlying29 (by kernel_rfl) cells29 (hval 1 29 v1 rfl rfl) h1
  obtain ⟨a1a, e0, rfl, w1a⟩ := DataW.trod_int Try.underlying22 hy0
  obtain ⟨a1b, e1, rfl, w1b⟩ := DataW.trod_int Try.underlying22 hy1
  simp at e0 e1
  subst e0 e1
  obtain ⟨a2, rfl, rfl, rfl, w2⟩ := open_int Try.underlying22 (hval 2 22 v2 rfl rfl) h2
  clear hA0 hval0
  simp only [List.append_nil] at hW'
  have structReads : ∀ (W' : World) (sp : Nat → Bool), DataW.Trod enc Try.prog W' 0 sp true 29 (.agg #[.int .u64 a1a, .int .u64 a1b]) (.agg [.lit (.int .u64 a1a), .lit (.int .u64 a1b)]) [] := fun W' sp =>
    Go.Joins.shut_agg2 (y0 := (.lit (.int .u64 a1a), [])) (y1 := (.lit (.int .u64 a1b), [])) Try.underlying29 (by kernel_rfl) cells29 ⟨1, by simp [DataW.trod, Try.underlying22, w1a]⟩ ⟨1, by simp [DataW.trod, Try.underlying22, w1b]⟩
  refine (walk a0 a1a a1b a2 w0 w1a w1b w2 W).mono fun e W' ⟨he, hg⟩ => ?_
  subst he
  exact ⟨_, rfl, post_of_same (pa := []) (pv := []) hW' (fun _ _ _ => (trodAll_cons_mk (shut_bool Try.underlying4 _) trodAll_mk0)) (fun sp _ => (trodAll_cons_mk (shut_int Try.underlying3 w0) (trodAll_cons_mk (structReads _ sp) (trodAll_cons_mk (shut_int Try.underlying22 w2) trodAll_mk0)))) (fun _ _ => rfl) rfl
    (hg.frame _) hg.2.1 (ok_one (by kernel_rfl) rfl (okWide_bool_mk Try.underlying4 _))⟩

theorem over : Rows.wordRingsRow.holds Try.pinned (OpenSpec.ofChange Rows.wordRingsSpec) :=
  OpenClaim.holds_of_wide 6 Try.f6 rfl rfl rfl rfl rfl rfl rfl ⟨rfl, rfl, rfl, rfl, rfl⟩ rfl rfl rfl rfl rfl (by kernel_rfl) Try.func6 (by kernel_rfl)
    (of_decide_eq_true (by kernel_rfl)) (by unfold Func.isWrapper; first | (rw [if_pos (by decide +kernel)]; kernel_rfl) | (rw [if_neg (by decide +kernel)]; exact ⟨rfl, rfl⟩))
    (fun os started H enc _ => lifted os started H enc)

theorem proved : Rows.WordRingsSaid :=
  over
#print axioms proved
end Go.Proofs.Ytjaaicaejbbhbaa.wordRings
