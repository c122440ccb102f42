/-
  LitBack, on the frame that the guide's program writes.
-/
import Derived.Test.YtdbgkoncbkbkfaaRows
import Derived.Test.YtdbgkoncbkbkfaaAwake
import Derived.Deep.Grids
import Derived.WalkKit
import Derived.ProofKit
import Derived.OpenShut
import Derived.ShutString
import Derived.ChangeOld
import Derived.Below
namespace Go.Proofs.Ytdbgkoncbkbkfaa.litBack
open Go.ChangeShapes Go.WideShapes Go.ChangeAt Go.RowKit
open Go.ChangeMaps (open_string shut_string)
set_option linter.unusedVariables false

theorem own : ownKnob Try.prog.godebug = none := by kernel_rfl
theorem laidOut : laidOutB Try.prog = true := by kernel_rfl

/-- A variable that Make has; the literal L, its number N, the other one M; whether L holds: t. -/
theorem back (v L N M : Int) (n t : Bool) (a : Option Addr) (len cap : Nat) (B : Nat → Bool) (w : World) (hB0 : IsBools w a len cap B) (hlen : ¬ (1000 : Int) < len) (hM : (M != L) = true)
    (c1 : ∀ w, Calls Try.prog 6 #[.int .i64 v, .bool n] w fun e w' => e = .returned (.tuple #[.int .i64 L, .int .i64 0]) ∧ Below w.heap.size w w')
    (c2 : ∀ w, Calls Try.prog 17 #[.int .i64 L] w fun e w' => e = .returned (.int .i64 N) ∧ Below w.heap.size w w')
    (c3 : ∀ w, Calls Try.prog 8 #[.int .i64 N] w fun e w' => e = .returned (.tuple #[.int .i64 L, .int .i64 0]) ∧ Below w.heap.size w w')
    (c4 : ∀ w, Calls Try.prog 11 #[.int .i64 L] w fun e w' => e = .returned (.int .i64 v) ∧ Below w.heap.size w w')
    (c5 : ∀ w, Calls Try.prog 13 #[.int .i64 L] w fun e w' => e = .returned (.bool n) ∧ Below w.heap.size w w')
    (c6 : ∀ w, Calls Try.prog 15 #[.int .i64 L] w fun e w' => e = .returned (.int .i64 M) ∧ Below w.heap.size w w')
    (c7 : ∀ w, Calls Try.prog 15 #[.int .i64 M] w fun e w' => e = .returned (.int .i64 L) ∧ Below w.heap.size w w')
    (c8 : ∀ w, IsBools w a len cap B → Calls Try.prog 19 #[.int .i64 L, .slice a len cap] w fun e w' => e = .returned (.bool t) ∧ Below w.heap.size w w')
    (c9 : ∀ w, IsBools w a len cap B → Calls Try.prog 19 #[.int .i64 M, .slice a len cap] w fun e w' => e = .returned (.bool (!t)) ∧ Below w.heap.size w w') :
    Calls Try.prog 5 #[.int .i64 v, .bool n, .slice a len cap] w fun e w' => e = .returned (.bool true) ∧ Below w.heap.size w w' := by
  have hb := Below.refl w.heap.size w
  have hB : Hid (IsBools w a len cap B) := hB0
  have d1 : Hid _ := c1
  clear c1
  have d2 : Hid _ := c2
  clear c2
  have d3 : Hid _ := c3
  clear c3
  have d4 : Hid _ := c4
  clear c4
  have d5 : Hid _ := c5
  clear c5
  have d6 : Hid _ := c6
  clear c6
  have d7 : Hid _ := c7
  clear c7
  have d8 : Hid _ := c8
  clear c8
  have d9 : Hid _ := c9
  clear c9
  clear hB0
  go_enter Try.func5, Try.ntmps5
  go_wp2_with (
    first
    | (go_at_call 6; with_reducible (refine (d1.out _).mono ?_); rintro e w1 ⟨rfl, hc⟩; replace hb := Below.next hb hc; replace hB := keepB hB hc; clear hc)
    | (go_at_call 17; with_reducible (refine (d2.out _).mono ?_); rintro e w1 ⟨rfl, hc⟩; replace hb := Below.next hb hc; replace hB := keepB hB hc; clear hc)
    | (go_at_call 8; with_reducible (refine (d3.out _).mono ?_); rintro e w1 ⟨rfl, hc⟩; replace hb := Below.next hb hc; replace hB := keepB hB hc; clear hc)
    | (go_at_call 11; with_reducible (refine (d4.out _).mono ?_); rintro e w1 ⟨rfl, hc⟩; replace hb := Below.next hb hc; replace hB := keepB hB hc; clear hc)
    | (go_at_call 13; with_reducible (refine (d5.out _).mono ?_); rintro e w1 ⟨rfl, hc⟩; replace hb := Below.next hb hc; replace hB := keepB hB hc; clear hc)
    | (go_at_call 15; with_reducible (refine (d6.out _).mono ?_); rintro e w1 ⟨rfl, hc⟩; replace hb := Below.next hb hc; replace hB := keepB hB hc; clear hc)
    | (go_at_call 15; with_reducible (refine (d7.out _).mono ?_); rintro e w1 ⟨rfl, hc⟩; replace hb := Below.next hb hc; replace hB := keepB hB hc; clear hc)
    | (go_at_call 19; with_reducible (refine (d8.out _ hB.out).mono ?_); rintro e w1 ⟨rfl, hc⟩; replace hb := Below.next hb hc; replace hB := keepB hB hc; clear hc)
    | (go_at_call 19; with_reducible (refine (d9.out _ hB.out).mono ?_); rintro e w1 ⟨rfl, hc⟩; replace hb := Below.next hb hc; replace hB := keepB hB hc; clear hc)
    | (go_at_call 10; with_reducible (refine (awake_any _).mono ?_); rintro e w1 ⟨rfl, hc⟩; replace hb := Below.next hb hc; replace hB := keepB hB hc; clear hc))
  go_ret
  exact ⟨rfl, hb⟩

theorem walk (a0 : Int) (a1 : Bool) (a2 : Option Addr) (len2 cap2 : Nat) (z2 : Nat → Bool) (w : World) (w0 : (Lit.int .i64 a0).wf = true) (w2 : IsBools w a2 len2 cap2 z2) :
    Calls Try.prog 5 #[.int .i64 a0, .bool a1, .slice a2 len2 cap2] w fun e w' => e = .returned (.bool true) ∧ Below w.heap.size w w' := by
  by_cases h : (1000 : Int) < len2
  · have hb := Below.refl w.heap.size w
    clear w2
    go_enter Try.func5, Try.ntmps5
    go_wp2_with (first | (go_at_call 6; with_reducible (refine (make_any _ _ _).mono ?_); rintro e w1 ⟨rfl, hc⟩; replace hb := Below.next hb hc; clear hc) | (go_at_call 10; with_reducible (refine (awake_any _).mono ?_); rintro e w1 ⟨rfl, hc⟩; replace hb := Below.next hb hc; clear hc))
    go_ret
    exact ⟨rfl, hb⟩
  by_cases hbad : badF a0
  · have hb := Below.refl w.heap.size w
    have he : errF a0 = 10 := by simp [errF, hbad]
    clear w2 hbad
    go_enter Try.func5, Try.ntmps5
    go_wp2_with (first | (go_at_call 6; with_reducible (refine (make_any _ _ _).mono ?_); rintro e w1 ⟨rfl, hc⟩; replace hb := Below.next hb hc; clear hc) | (go_at_call 10; with_reducible (refine (awake_any _).mono ?_); rintro e w1 ⟨rfl, hc⟩; replace hb := Below.next hb hc; clear hc))
    go_ret
    exact ⟨rfl, hb⟩
  obtain ⟨f1, f2, f3, f4, f5, f6, f7, f8, f9, f10, f11, f12, f13, f14⟩ := back_facts a0 a1 hbad len2 z2
  have c1 := make_any a0 a1
  rw [f3] at c1
  have c2 := fun w => number_any (makF a0 a1) w (by omega)
  have c3 := fun w => of_any (numF (makF a0 a1)) w (by omega) (by omega)
  rw [f6, f7] at c3
  have c4 := fun w => var_any (makF a0 a1) w (by omega)
  rw [f8] at c4
  have c5 := fun w => neg_any (makF a0 a1) w (by omega)
  rw [f9] at c5
  have c6 := fun w => not_any (makF a0 a1) w (by omega)
  have c7 := fun w => not_any (notF (makF a0 a1)) w (by omega)
  rw [f12] at c7
  have c8 := fun w hw => holds_any (makF a0 a1) w a2 len2 cap2 z2 hw (by omega)
  have c9 := fun w hw => holds_any (notF (makF a0 a1)) w a2 len2 cap2 z2 hw (by omega)
  rw [f14] at c9
  exact back a0 (makF a0 a1) (numF (makF a0 a1)) (notF (makF a0 a1)) a1 (holF (makF a0 a1) len2 z2) a2 len2 cap2 z2 w w2 h (by simpa using f13) c1 c2 c3 c4 c5 c6 c7 c8 c9

/-! ### THE ROW's STEP: WRITTEN OUT: LEAVE IT -/
set_option maxRecDepth 100000 in
theorem lifted (os : Os) (started : os.Started) (H : Type) (enc : TypeId × Value → H) :
    ReturnsInHanded {} Try.checked os 5 .any (Rows.litBackSpec.pre6 enc Try.prog Try.f5 Rows.litBackRow.domain false) (Rows.litBackSpec.post enc Try.prog Try.f5 false true false false) := by
  refine returnsInHanded_of_change (C := Try.checked) own started (by kernel_rfl) Try.func5
    (ChangeSpec.witness6 (enc := enc) (C := Try.checked) false ⟨#[], #[.int .i64 0, .bool false, .slice none 0 0], []⟩ 8 (by kernel_rfl) (by kernel_rfl) (by kernel_rfl) (by kernel_rfl)) ?_
  intro W base args ds gs before hval0 hW hcnd _
  have hval : ∀ (j : Nat) t v, Try.f5.params[j]? = some t → args[j]? = some v → Value.okWide Try.prog W .any base t v := hval0
  have hW' := hW
  obtain ⟨p, q, hA0, hV, rfl, hfz, hnd⟩ := hW
  have hA : DataW.TrodAll enc Try.prog W 0 (fun _ => true) true Try.f5.params.toList args.toList ds p := hA0
  rw [Try.params5] at hA hval
  obtain ⟨v0, vs0, d0, ds0, p0, q0, hargs, rfl, rfl, h0, r0⟩ := trodAll_cons hA
  obtain ⟨v1, vs1, d1, ds1, p1, q1, rfl, rfl, rfl, h1, r1⟩ := trodAll_cons r0
  obtain ⟨v2, vs2, d2, ds2, p2, q2, rfl, rfl, rfl, h2, r2⟩ := trodAll_cons r1
  obtain ⟨rfl, rfl, rfl⟩ := trodAll_nil r2
  obtain rfl : args = #[v0, v1, v2] := by cases args; simp_all
  obtain ⟨rfl, rfl⟩ := trodVars_none hV
  obtain ⟨a0, rfl, rfl, rfl, w0⟩ := open_int Try.underlying3 (hval 0 3 v0 rfl rfl) h0
  obtain ⟨a1, rfl, rfl, rfl⟩ := open_bool Try.underlying4 (hval 1 4 v1 rfl rfl) h1
  obtain ⟨a2, len2, cap2, rfl⟩ := okWide_slice Try.underlying31 (hval 2 31 v2 rfl rfl)
  have k2 := h2
  have lt2 : ∀ x ∈ p2, x.block < W.heap.size := by obtain ⟨m, hm⟩ := k2; exact DataW.trod_lt m _ _ _ hm
  obtain ⟨z2, w2⟩ : ∃ zs, IsBools W a2 len2 cap2 zs := by
    obtain ⟨fuel, hf⟩ := h2
    rcases Go.Deep.open_bools Try.underlying31 Try.underlying4 (by kernel_rfl) hf with ⟨hcs, _⟩ | ⟨x, l, c, B, hcs, _, hl, hm, _, hcell⟩
    · simp [Value.cells] at hcs
      obtain ⟨rfl, rfl, rfl⟩ := hcs
      exact ⟨fun _ => false, .inl ⟨rfl, rfl, rfl⟩⟩
    · simp [Value.cells] at hcs
      obtain ⟨rfl, rfl, rfl⟩ := hcs
      exact ⟨B, .inr ⟨_, rfl, hl, hm, fun i hi => hcell i (by omega)⟩⟩
  clear hA0 hval0
  refine (walk a0 a1 a2 len2 cap2 z2 W w0 w2).mono fun e W' ⟨he, bel⟩ => ?_
  subst he
  exact ⟨_, rfl, _, _, _, [], _, [], hW', trodAll_mk1 (shut_bool Try.underlying4 _), (trodAll_cons_mk (shut_int Try.underlying3 w0) (trodAll_cons_mk (shut_bool Try.underlying4 _) (trodAll_cons_mk (Below.trod laidOut (by kernel_rfl) (of_decide_eq_true (by kernel_rfl)) k2 bel lt2) trodAll_mk0))), rfl, bel.frame _, fun h => by cases h⟩

theorem over : Rows.litBackRow.holds Try.pinned (OpenSpec.ofChange Rows.litBackSpec) :=
  OpenClaim.holds_of_wide 5 Try.f5 rfl rfl rfl rfl rfl rfl rfl ⟨rfl, rfl, rfl, rfl, rfl⟩ rfl rfl rfl rfl rfl (by kernel_rfl) Try.func5 (by kernel_rfl)
    (of_decide_eq_true (by kernel_rfl)) (by unfold Func.isWrapper; first | (rw [if_pos (by decide +kernel)]; kernel_rfl) | (rw [if_neg (by decide +kernel)]; exact ⟨rfl, rfl⟩))
    (fun os started H enc _ => lifted os started H enc)

/-- ████ THE STATEMENT ████ -/
theorem proved : Rows.LitBackSaid := over
#print axioms proved
end Go.Proofs.Ytdbgkoncbkbkfaa.litBack
