/-
  All that wait are taken, each once, their activities falling, those that are alike by rising numbers.
-/
import Derived.Test.YtbddhjohlpblaaaRows
import Derived.Test.YtbddhjohlpblaaaFrame
import Derived.WalkKit
import Derived.ProofKit
import Derived.OpenShut
import Derived.ShutString
import Derived.ChangeOld
import Derived.Below
import Derived.Test.YtbddhjohlpblaaaFall
namespace Go.Proofs.Ytbddhjohlpblaaa.orderFalls
open Go.ChangeShapes Go.WideShapes Go.ChangeAt Go.RowKit
open Go.ChangeMaps (open_string shut_string)
set_option linter.unusedVariables false

theorem own : ownKnob Try.prog.godebug = none := by kernel_rfl
theorem laidOut : laidOutB Try.prog = true := by kernel_rfl

set_option maxRecDepth 20000 in
set_option maxHeartbeats 4000000 in
theorem walk (a0 : Int) (a1 : Option Addr) (len1 cap1 : Nat) (D1 : Nat → Dd) (w : World) (w0 : (Lit.int .i64 a0).wf = true) (w1 : Deeds w a1 len1 D1) :
    Calls Try.prog 4 #[.int .i64 a0, .slice a1 len1 cap1] w fun e w' => e = .returned (.bool true) ∧ Below w.heap.size w w' := by
  have HD := hid w1
  clear w0 w1
  by_cases h1 : 150 < len1
  · have h1' : (150 : Int) < len1 := by omega
    go_enter Try.func4, Try.ntmps4
    go_wp2_with (go_at_call 6; with_reducible (refine (awake_any _).mono ?_); rintro e w1 ⟨rfl, b1⟩)
    go_ret
    exact ⟨rfl, b1⟩
  · have h1' : decide ((150 : Int) < len1) = false := by simp; omega
    by_cases h2 : 200 < a0
    · go_enter Try.func4, Try.ntmps4
      go_wp2_with (go_at_call 6; with_reducible (refine (awake_any _).mono ?_); rintro e w1 ⟨rfl, b1⟩)
      go_ret
      exact ⟨rfl, b1⟩
    · go_enter Try.func4, Try.ntmps4
      go_wp2_with (go_at_call 7; with_reducible (refine (new_at a0 _).mono ?_); rintro e w1 ⟨k, rfl, o1, hn, hB, b1⟩)
      have S0 : Hid (Fd k w (zeros (cntF a0)) (nones (cntF a0)) (.slice none 0 0) w1) := hid ⟨o1.out, b1.out, hB.out⟩
      go_loopw [6] (fun i wr => ∃ (q : Nat) (A : List Int) (W : List Bool) (wv : Value), q ≤ len1 ∧ i = .int .i64 q ∧ Hid (Fd k w A W wv wr)) (fun i _ => len1 - (intOf i).toNat)
      case atStart => exact ⟨0, _, _, _, Nat.zero_le _, rfl, S0⟩
      case round =>
        clear S0 o1 hB b1
        obtain ⟨q, A, W, wv, hq, rfl, hs⟩ := hrel
        by_cases hlt : q < len1
        · have hlt' : (q : Int) < len1 := by omega
          obtain ⟨db, off, rfl, e0, e1, e2⟩ := (HD.out.below hs.out.be).at hlt
          go_wp2
          go_region_with (first
            | (go_at_call 8; with_reducible (refine (rnew_at a0 _).mono ?_); rintro e w2 ⟨a, b, rfl, r2⟩; have b2 := hid (RnEnd.be r2.out); have q2 := (b2.out.cell (cell_lt e0)).trans e0; have q3 := (b2.out.cell (cell_lt e1)).trans e1; have q4 := (b2.out.cell (cell_lt e2)).trans e2)
            | (go_at_call 9; with_reducible (refine (do_any ((hs.out.below (below_drew wr)).doin hn.out r2.out) _ _ _).mono ?_); rintro e w5 ⟨ao5, c5, bo5, d5, rfl, h5⟩))
          all_goals go_wp2
          all_goals go_roundw
          all_goals first
            | (obtain ⟨A', W', wv', f'⟩ := hs.out.after r2.out h5.out
               exact ⟨q + 1, A', W', wv', by omega, by go_num, f'⟩)
            | (simp only [intOf]; omega)
        · obtain ⟨m, hm⟩ : ∃ m : Nat, W.count true = m := ⟨_, rfl⟩
          have hmm : m ≤ 1048576 := by
            obtain ⟨_, l2, l3⟩ := hs.out.o.la
            have := List.count_le_length (a := true) (l := W)
            omega
          have HM : Hid ((W.count true : Int) = m) := hid (by rw [hm])
          have F0 := hid hs.out.start
          rw [hm] at F0
          clear hm HD
          go_wp2_with (go_at_call 11; with_reducible (refine (len_is hs.out.o HM.out).mono ?_); rintro e wr ⟨rfl, rfl⟩)
          go_loopw [8, 9] (fun last i wr => ∃ (q : Nat) (z : Int) (W' : List Bool) (wv' : Value), q ≤ m ∧ last = .int .i64 z ∧ i = .int .i64 q ∧ Hid (Fl k w m q A W' wv' z wr)) (fun _ i _ => m - (intOf i).toNat)
          case atStart => exact ⟨0, -1, _, _, Nat.zero_le _, rfl, rfl, F0⟩
          case round =>
            clear F0 HM hs
            obtain ⟨q2, z, W2, wv2, hq2, rfl, rfl, hf⟩ := hrel
            by_cases hlt2 : q2 < m
            · have hlt2' : (q2 : Int) < m := by omega
              obtain ⟨x, hx⟩ := hf.out.first hlt2
              have HX := hid hx
              have hxn : x < k.n := by have := hx.1; rw [hf.out.la] at this; exact this
              have PV := hid (popV_first hx)
              have PA := hid (popA_first hx)
              have PW := hid (popW_first hx)
              have HH : Hid (hasF k.n (W2.set x false) x = false) := hid (by
                have hxl : x < W2.length := by rw [hf.out.lw]; exact hxn
                simp only [hasF]; rw [wt_set hxl]; simp)
              have HAX : Hid (actF k.n A x = fn A x) := hid (by simp [actF, isF_nat hxn, ac])
              rcases hf.out.ls.cases with rfl | ⟨u, rfl, hu⟩
              · clear hx
                go_wp2_with (first
                  | (go_at_call 15; with_reducible (refine (pop_is hf.out.o PV.out PA.out PW.out).mono ?_); rintro e w3 ⟨wv3, rfl, o3, f3⟩)
                  | (go_at_call 13; with_reducible (refine (has_is o3.out _ HH.out).mono ?_); rintro e w3 ⟨rfl, rfl⟩))
                go_roundw
                case rel => exact ⟨q2 + 1, x, _, _, by omega, rfl, by go_num, hf.out.next HX.out o3.out f3.out⟩
                case measure => simp only [intOf]; omega
              · have HAU : Hid (actF k.n A u = fn A u) := hid (by simp [actF, isF_nat (show u < k.n by rw [← hf.out.la]; exact hu), ac])
                have hfall := hf.out.ls.falls hx
                have hg : decide (fn A u < fn A x) = false := by simp; omega
                by_cases heq : fn A x = fn A u
                · have hle : decide (x ≤ u) = false := by simp; omega
                  have hle2 : ¬ x ≤ u := by omega
                  rw [heq] at HAX
                  clear hx hfall heq hg
                  go_wp2_with (first
                    | (go_at_call 15; with_reducible (refine (pop_is hf.out.o PV.out PA.out PW.out).mono ?_); rintro e w3 ⟨wv3, rfl, o3, f3⟩)
                    | (go_at_call 13; with_reducible (refine (has_is o3.out _ HH.out).mono ?_); rintro e w3 ⟨rfl, rfl⟩)
                    | (go_at_call 14; with_reducible (refine (act_is o3.out (x : Int) HAX.out).mono ?_); rintro e w3 ⟨rfl, rfl⟩)
                    | (go_at_call 14; with_reducible (refine (act_is o3.out (u : Int) HAU.out).mono ?_); rintro e w3 ⟨rfl, rfl⟩))
                  go_roundw
                  case rel => exact ⟨q2 + 1, x, _, _, by omega, rfl, by go_num, hf.out.next HX.out o3.out f3.out⟩
                  case measure => simp only [intOf]; omega
                · have hne : (fn A x == fn A u) = false := by simpa using heq
                  clear hx hfall heq
                  go_wp2_with (first
                    | (go_at_call 15; with_reducible (refine (pop_is hf.out.o PV.out PA.out PW.out).mono ?_); rintro e w3 ⟨wv3, rfl, o3, f3⟩)
                    | (go_at_call 13; with_reducible (refine (has_is o3.out _ HH.out).mono ?_); rintro e w3 ⟨rfl, rfl⟩)
                    | (go_at_call 14; with_reducible (refine (act_is o3.out (x : Int) HAX.out).mono ?_); rintro e w3 ⟨rfl, rfl⟩)
                    | (go_at_call 14; with_reducible (refine (act_is o3.out (u : Int) HAU.out).mono ?_); rintro e w3 ⟨rfl, rfl⟩))
                  go_roundw
                  case rel => exact ⟨q2 + 1, x, _, _, by omega, rfl, by go_num, hf.out.next HX.out o3.out f3.out⟩
                  case measure => simp only [intOf]; omega
            · have hz : W2.count true = 0 := by have := hf.out.cn; omega
              have hno := none_of (A := A) (W := W2) (by rw [hf.out.la, hf.out.lw]) hz
              have PV := hid (popV_none hno)
              have PA := hid (popA_none hno)
              have PW := hid (popW_none hno)
              clear hno hz
              go_wp2_with (first
                | (go_at_call 15; with_reducible (refine (pop_is hf.out.o PV.out PA.out PW.out).mono ?_); rintro e w3 ⟨wv3, rfl, o3, f3⟩)
                | (go_at_call 6; with_reducible (refine (awake_any _).mono ?_); rintro e w4 ⟨rfl, b4⟩))
              go_ret
              exact ⟨rfl, Below.next (hf.out.o.be f3.out hf.out.kb hf.out.be) b4⟩


set_option maxRecDepth 100000 in
theorem lifted (os : Os) (started : os.Started) (H : Type) (enc : TypeId × Value → H) :
    ReturnsInHanded {} Try.checked os 4 .any (Rows.orderFallsSpec.pre6 enc Try.prog Try.f4 Rows.orderFallsRow.domain false) (Rows.orderFallsSpec.post enc Try.prog Try.f4 false true false false) := by
  refine returnsInHanded_of_change (C := Try.checked) own started (by kernel_rfl) Try.func4
    (ChangeSpec.witness6 (enc := enc) (C := Try.checked) false ⟨#[], #[.int .i64 0, .slice none 0 0], []⟩ 8 (by kernel_rfl) (by kernel_rfl) (by kernel_rfl) (by kernel_rfl)) ?_
  intro W base args ds gs before hval0 hW hcnd _
  have hval : ∀ (j : Nat) t v, Try.f4.params[j]? = some t → args[j]? = some v → Value.okWide Try.prog W .any base t v := hval0
  have hW' := hW
  obtain ⟨p, q, hA0, hV, rfl, hfz, hnd⟩ := hW
  have hA : DataW.TrodAll enc Try.prog W 0 (fun _ => true) true Try.f4.params.toList args.toList ds p := hA0
  rw [Try.params4] at hA hval
  obtain ⟨v0, vs0, d0, ds0, p0, q0, hargs, rfl, rfl, h0, r0⟩ := trodAll_cons hA
  obtain ⟨v1, vs1, d1, ds1, p1, q1, rfl, rfl, rfl, h1, r1⟩ := trodAll_cons r0
  obtain ⟨rfl, rfl, rfl⟩ := trodAll_nil r1
  obtain rfl : args = #[v0, v1] := by cases args; simp_all
  obtain ⟨rfl, rfl⟩ := trodVars_none hV
  obtain ⟨a0, rfl, rfl, rfl, w0⟩ := open_int Try.underlying3 (hval 0 3 v0 rfl rfl) h0
  obtain ⟨a1, len1, cap1, rfl⟩ := okWide_slice Try.underlying22 (hval 1 22 v1 rfl rfl)
  have z1 := h1
  have lt1 : ∀ x ∈ p1, x.block < W.heap.size := by obtain ⟨m, hm⟩ := z1; exact DataW.trod_lt m _ _ _ hm
  obtain ⟨D1, w1⟩ : ∃ D, Deeds W a1 len1 D := by
    obtain ⟨fuel, hf⟩ := h1
    exact deeds_of hf
  clear hA0 hval0
  refine (walk a0 a1 len1 cap1 D1 W w0 w1).mono fun e W' ⟨he, bel⟩ => ?_
  subst he
  exact ⟨_, rfl, _, _, _, [], _, [], hW', trodAll_mk1 (shut_bool Try.underlying4 _), (trodAll_cons_mk (shut_int Try.underlying3 w0) (trodAll_cons_mk (Below.trod laidOut (by kernel_rfl) (of_decide_eq_true (by kernel_rfl)) z1 bel lt1) trodAll_mk0)), rfl, bel.frame _, fun h => by cases h⟩

theorem over : Rows.orderFallsRow.holds Try.pinned (OpenSpec.ofChange Rows.orderFallsSpec) :=
  OpenClaim.holds_of_wide 4 Try.f4 rfl rfl rfl rfl rfl rfl rfl ⟨rfl, rfl, rfl, rfl, rfl⟩ rfl rfl rfl rfl rfl (by kernel_rfl) Try.func4 (by kernel_rfl)
    (of_decide_eq_true (by kernel_rfl)) (by unfold Func.isWrapper; first | (rw [if_pos (by decide +kernel)]; kernel_rfl) | (rw [if_neg (by decide +kernel)]; exact ⟨rfl, rfl⟩))
    (fun os started H enc _ => lifted os started H enc)

theorem proved : Rows.OrderFallsSaid := over
#print axioms proved
end Go.Proofs.Ytbddhjohlpblaaa.orderFalls
