/-
  Whatever is done to an order: each answer, who waits, and any activity are the document's.
-/
import Derived.Test.YtbddhjohlpblaaaRows
import Derived.Test.YtbddhjohlpblaaaFrame
import Derived.WalkKit
import Derived.ProofKit
import Derived.OpenShut
import Derived.ShutString
import Derived.ChangeOld
import Derived.Below
import Derived.Test.YtbddhjohlpblaaaPlay
namespace Go.Proofs.Ytbddhjohlpblaaa.orderPlays
open Go.ChangeShapes Go.WideShapes Go.ChangeAt Go.RowKit
open Go.ChangeMaps (open_string shut_string)
set_option linter.unusedVariables false

theorem own : ownKnob Try.prog.godebug = none := by kernel_rfl
theorem laidOut : laidOutB Try.prog = true := by kernel_rfl

set_option maxRecDepth 20000 in
set_option maxHeartbeats 4000000 in
theorem walk (a0 : Int) (a1 : Option Addr) (len1 cap1 : Nat) (D1 : Nat → Dd) (w : World) (w0 : (Lit.int .i64 a0).wf = true) (w1 : Deeds w a1 len1 D1) :
    Calls Try.prog 3 #[.int .i64 a0, .slice a1 len1 cap1] w fun e w' => e = .returned (.bool true) ∧ Below w.heap.size w w' := by
  have HD := hid w1
  clear w0 w1
  by_cases h1 : 150 < len1
  · have h1' : (150 : Int) < len1 := by omega
    go_enter Try.func3, Try.ntmps3
    go_wp2_with (go_at_call 6; with_reducible (refine (awake_any _).mono ?_); rintro e w1 ⟨rfl, b1⟩)
    go_ret
    exact ⟨rfl, b1⟩
  · have h1' : decide ((150 : Int) < len1) = false := by simp; omega
    by_cases h2 : 200 < a0
    · go_enter Try.func3, Try.ntmps3
      go_wp2_with (go_at_call 6; with_reducible (refine (awake_any _).mono ?_); rintro e w1 ⟨rfl, b1⟩)
      go_ret
      exact ⟨rfl, b1⟩
    · go_enter Try.func3, Try.ntmps3
      go_wp2_with (first
        | (go_at_call 7; with_reducible (refine (new_at a0 _).mono ?_); rintro e w1 ⟨k, rfl, o1, hn, hB, b1⟩)
        | (go_at_call 8; with_reducible (refine (rnew_at a0 _).mono ?_); rintro e w2 ⟨a, b, rfl, r2⟩))
      have S0 := hid (Side.start o1.out hn.out hB.out b1.out (cntF_le a0) r2.out)
      go_loopw [7] (fun i wr => ∃ (q : Nat) (ao bo : Option Addr) (c d : Nat) (A : List Int) (W : List Bool) (wv : Value), q ≤ len1 ∧ i = .int .i64 q ∧ Hid (Side k w w2.heap.size (.slice ao k.n c) (.slice bo k.n d) A W wv wr)) (fun i _ => len1 - (intOf i).toNat)
      case atStart => exact ⟨0, _, _, _, _, _, _, _, Nat.zero_le _, rfl, by rw [hn.out]; exact S0⟩
      case round =>
        clear S0 o1 hB b1 r2
        obtain ⟨q, ao, bo, c, d, A, W, wv, hq, rfl, hs⟩ := hrel
        by_cases hlt : q < len1
        · have hlt' : (q : Int) < len1 := by omega
          obtain ⟨db, off, rfl, e0, e1, e2⟩ := (HD.out.below hs.out.be).at hlt
          have e1b := (HD.out).at hlt
          obtain ⟨db', off', e3, e4, e5, e6⟩ := e1b
          cases e3
          obtain ⟨x1, x2, x3, x4⟩ := hs.out.cells
          have hdb := cell_lt e0
          have hxb := cell_lt x1
          simp only [] at hdb hxb
          have hne1 : ¬ db = wr.heap.size := by omega
          have hne2 : ¬ w2.heap.size = wr.heap.size := by omega
          go_upto_region 9 with fail
          go_cut [8, 9] from 27 to 89 (fun y ok wx => ∃ (yb : Nat) (ao5 bo5 : Option Addr) (c5 d5 : Nat), y = .pointer (some ⟨yb, 0, none⟩) ∧ ok = .bool true ∧ Hid (Half k w w2.heap.size (.slice ao k.n c) (.slice bo k.n d) (doA A (D1 q).kd (D1 q).v (D1 q).t) (doW A W (D1 q).kd (D1 q).v) yb (.slice ao5 k.n c5) (.slice bo5 k.n d5) wx))
          case first =>
            go_region_with (first
              | (go_at_call 9; with_reducible (refine (do_any (hs.out.d.below (below_drew wr)) _ _ _).mono ?_); rintro e w5 ⟨ao5, c5, bo5, d5, rfl, h5⟩; have h6 := hid (h5.out.from (below_drew wr)))
              | (go_at_call 9; with_reducible (refine (do_any (w := (wr.alloc (.cells #[.slice none 0 0, .slice none 0 0] 29)).drew) (hs.out.d.below (by go_grown)) _ _ _).mono ?_); rintro e w5 ⟨ao5, c5, bo5, d5, rfl, h5⟩; have h6 := h5.out.put hs.out.d.o; obtain ⟨y5, h7⟩ := h6; have y6 := box_cells y5; obtain ⟨z1, z2, z3, z4⟩ := y6; have h8 := hid h7))
            all_goals go_wp2_with fail
            all_goals go_meet
            all_goals first
              | exact ⟨_, _, _, _, _, rfl, by rw [doOk_same], half_a hs.out h6.out⟩
              | exact ⟨_, _, _, _, _, rfl, by rw [doOk_same], half_b hs.out y5 h8.out⟩
          case rest =>
            clear e0 e1 e2 x1 x2 x3 x4 hdb hxb hne1 hne2 hs e4 e5 e6
            obtain ⟨yb, ao5, bo5, c5, d5, rfl, rfl, hm⟩ := hcut
            obtain ⟨y5, x5, wv5, s5⟩ := hm.out
            obtain ⟨f1, f2, f3, f4⟩ := box_cells y5
            obtain ⟨g1, g2, g3, g4⟩ := box_cells x5
            obtain ⟨A5, hA5⟩ : ∃ A5, A5 = doA A (D1 q).kd (D1 q).v (D1 q).t := ⟨_, rfl⟩
            obtain ⟨W5, hW5⟩ : ∃ W5, W5 = doW A W (D1 q).kd (D1 q).v := ⟨_, rfl⟩
            rw [← hA5, ← hW5] at s5
            clear hm hA5 hW5 y5 x5
            have S5 := hid s5
            obtain ⟨db2, off2, e7, -, e8, -⟩ := (HD.out.below s5.be).at hlt
            cases e7
            obtain ⟨g5, g6, -, -⟩ := s5.cells
            obtain ⟨C, hC⟩ : ∃ C : Int, (W5.count true : Int) = C := ⟨_, rfl⟩
            have HC := hid hC
            obtain ⟨v, hv⟩ : ∃ v, v = (D1 q).v := ⟨_, rfl⟩
            rw [← hv] at e8
            obtain ⟨tt, htt⟩ : ∃ tt, hasF k.n W5 v = tt := ⟨_, rfl⟩
            obtain ⟨xx, hxx⟩ : ∃ xx, actF k.n A5 v = xx := ⟨_, rfl⟩
            have HH := hid htt
            have HA := hid hxx
            clear s5 hC hv htt hxx
            go_upto_region 12 with fail
            go_cut [11] from 27 to 89 (fun h wx => h = .bool tt ∧ Hid (Side k w w2.heap.size (.slice ao5 k.n c5) (.slice bo5 k.n d5) A5 W5 wv5 wx))
            case first =>
              cases hi : isF k.n v
              · have HI := hid hi
                have HF : Hid (tt = false) := hid (by rw [← HH.out]; simp [hasF, hi])
                clear hi
                go_wp2_with (go_at_call 10; with_reducible (refine (ris_in S5.out.d _ HI.out).mono ?_); rintro e w8 ⟨rfl, b8⟩; have s8 := hid (S5.out.below b8.out))
                go_meet
                exact ⟨by rw [HF.out], s8⟩
              · obtain ⟨u, rfl, hu⟩ := isF_yes hi
                have hu' : (u : Int) < k.n := by omega
                have HI := hid hi
                have HF : Hid (tt = wt W5 u) := hid (by rw [← HH.out]; simp [hasF, hi])
                clear hi
                go_wp2_with (go_at_call 10; with_reducible (refine (ris_in S5.out.d _ HI.out).mono ?_); rintro e w8 ⟨rfl, b8⟩; have s8 := hid (S5.out.below b8.out); have x8 := s8.out.cells; obtain ⟨h5, h6, -, -⟩ := x8; have q8 := s8.out.d.r.ib s8.out.d.lw.symm hu; obtain ⟨gb, rfl, cb⟩ := q8)
                go_meet
                exact ⟨by rw [HF.out], s8⟩
            case rest =>
              clear f1 f2 f3 f4 g1 g2 g3 g4 g5 g6 e8 S5
              obtain ⟨rfl, s8⟩ := hcut
              obtain ⟨x1, x2, -, -⟩ := s8.out.cells
              obtain ⟨bi, hbi⟩ : ∃ bi, isF k.n v = bi := ⟨_, rfl⟩
              have HI := hid hbi
              clear hbi
              go_upto_if 61 with (go_at_call 10; with_reducible (refine (ris_in s8.out.d _ HI.out).mono ?_); rintro e w9 ⟨rfl, b9⟩; have s9 := hid (s8.out.below b9.out); have x9 := s9.out.cells; obtain ⟨h7, h8, -, -⟩ := x9)
              go_cut [12] from 27 to 89 (fun h wx => h = .int .i64 xx ∧ wx = w9)
              case first =>
                cases bi
                · have HF : Hid (xx = 0) := hid (by rw [← HA.out]; simp [actF, HI.out])
                  go_wp2
                  go_meet
                  exact ⟨by rw [HF.out], rfl⟩
                · obtain ⟨u, rfl, hu⟩ := isF_yes HI.out
                  have hu' : (u : Int) < k.n := by omega
                  have HF : Hid (xx = fn A5 u) := hid (by rw [← HA.out]; simp [actF, HI.out, ac])
                  obtain ⟨ga, rfl, ca⟩ := s9.out.d.r.ia s9.out.d.l2.symm hu
                  go_wp2
                  go_meet
                  exact ⟨by rw [HF.out], rfl⟩
              case rest =>
                clear x1 x2 b9 s8
                obtain ⟨rfl, rfl⟩ := hcut
                go_upto_region 16 with fail
                go_cut [89] from 27 to 89 (fun h wx => h = .bool false ∧ Hid (Side k w w2.heap.size (.slice ao5 k.n c5) (.slice bo5 k.n d5) A5 W5 wv5 wx))
                case first =>
                  go_region_with (first
                    | (go_at_call 11; with_reducible (refine (len_is (s9.out.below (below_drew _)).d.o HC.out).mono ?_); rintro e w10 ⟨rfl, rfl⟩)
                    | (go_at_call 12; with_reducible (refine (rlen_in (s9.out.below (below_drew _)).d HC.out).mono ?_); rintro e w10 ⟨rfl, b10⟩; have s10 := hid ((s9.out.below (below_drew _)).below b10.out))
                    | (go_at_call 13; with_reducible (refine (has_is s10.out.d.o _ HH.out).mono ?_); rintro e w11 ⟨rfl, rfl⟩)
                    | (go_at_call 14; with_reducible (refine (act_is s10.out.d.o _ HA.out).mono ?_); rintro e w11 ⟨rfl, rfl⟩))
                  all_goals go_wp2_with fail
                  all_goals go_meet
                  all_goals exact ⟨by simp, s10⟩
                case rest =>
                  obtain ⟨rfl, s10⟩ := hcut
                  go_wp2
                  go_roundw
                  case rel => exact ⟨q + 1, _, _, _, _, _, _, _, by omega, by go_num, s10⟩
                  case measure => simp only [intOf]; omega
        · have HS := hs
          go_wp2_with (go_at_call 6; with_reducible (refine (awake_any _).mono ?_); rintro e w9 ⟨rfl, b9⟩)
          go_ret
          exact ⟨rfl, Below.next hs.out.be b9⟩


set_option maxRecDepth 100000 in
theorem lifted (os : Os) (started : os.Started) (H : Type) (enc : TypeId × Value → H) :
    ReturnsInHanded {} Try.checked os 3 .any (Rows.orderPlaysSpec.pre6 enc Try.prog Try.f3 Rows.orderPlaysRow.domain false) (Rows.orderPlaysSpec.post enc Try.prog Try.f3 false true false false) := by
  refine returnsInHanded_of_change (C := Try.checked) own started (by kernel_rfl) Try.func3
    (ChangeSpec.witness6 (enc := enc) (C := Try.checked) false ⟨#[], #[.int .i64 0, .slice none 0 0], []⟩ 8 (by kernel_rfl) (by kernel_rfl) (by kernel_rfl) (by kernel_rfl)) ?_
  intro W base args ds gs before hval0 hW hcnd _
  have hval : ∀ (j : Nat) t v, Try.f3.params[j]? = some t → args[j]? = some v → Value.okWide Try.prog W .any base t v := hval0
  have hW' := hW
  obtain ⟨p, q, hA0, hV, rfl, hfz, hnd⟩ := hW
  have hA : DataW.TrodAll enc Try.prog W 0 (fun _ => true) true Try.f3.params.toList args.toList ds p := hA0
  rw [Try.params3] at hA hval
  obtain ⟨v0, vs0, d0, ds0, p0, q0, hargs, rfl, rfl, h0, r0⟩ := trodAll_cons hA
  obtain ⟨v1, vs1, d1, ds1, p1, q1, rfl, rfl, rfl, h1, r1⟩ := trodAll_cons r0
  obtain ⟨rfl, rfl, rfl⟩ := trodAll_nil r1
  obtain rfl : args = #[v0, v1] := by cases args; simp_all
  obtain ⟨rfl, rfl⟩ := trodVars_none hV
  obtain ⟨a0, rfl, rfl, rfl, w0⟩ := open_int Try.underlying3 (hval 0 3 v0 rfl rfl) h0
  obtain ⟨a1, len1, cap1, rfl⟩ := okWide_slice Try.underlying22 (hval 1 22 v1 rfl rfl)
  have z1 := h1
  have lt1 : ∀ x ∈ p1, x.block < W.heap.size := by obtain ⟨m, hm⟩ := z1; exact DataW.trod_lt m _ _ _ hm
  obtain ⟨D1, w1⟩ : ∃ D, Deeds W a1 len1 D := by
    obtain ⟨fuel, hf⟩ := h1
    exact deeds_of hf
  clear hA0 hval0
  refine (walk a0 a1 len1 cap1 D1 W w0 w1).mono fun e W' ⟨he, bel⟩ => ?_
  subst he
  exact ⟨_, rfl, _, _, _, [], _, [], hW', trodAll_mk1 (shut_bool Try.underlying4 _), (trodAll_cons_mk (shut_int Try.underlying3 w0) (trodAll_cons_mk (Below.trod laidOut (by kernel_rfl) (of_decide_eq_true (by kernel_rfl)) z1 bel lt1) trodAll_mk0)), rfl, bel.frame _, fun h => by cases h⟩

theorem over : Rows.orderPlaysRow.holds Try.pinned (OpenSpec.ofChange Rows.orderPlaysSpec) :=
  OpenClaim.holds_of_wide 3 Try.f3 rfl rfl rfl rfl rfl rfl rfl ⟨rfl, rfl, rfl, rfl, rfl⟩ rfl rfl rfl rfl rfl (by kernel_rfl) Try.func3 (by kernel_rfl)
    (of_decide_eq_true (by kernel_rfl)) (by unfold Func.isWrapper; first | (rw [if_pos (by decide +kernel)]; kernel_rfl) | (rw [if_neg (by decide +kernel)]; exact ⟨rfl, rfl⟩))
    (fun os started H enc _ => lifted os started H enc)

theorem proved : Rows.OrderPlaysSaid := over
#print axioms proved
end Go.Proofs.Ytbddhjohlpblaaa.orderPlays
