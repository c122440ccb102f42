/-
  Whatever is assigned, decided, and gone back: each answer; values, levels and reasons of any; all that hold.
-/
import Derived.Test.YtimpoagdidnpiaaRows
import Derived.Test.YtimpoagdidnpiaaFrame
import Derived.WalkKit
import Derived.ProofKit
import Derived.OpenShut
import Derived.ShutString
import Derived.ChangeOld
import Derived.Below
import Derived.Test.YtimpoagdidnpiaaOps
import Derived.RangeFuncLeaves
namespace Go.Proofs.Ytimpoagdidnpiaa.trailPlays
open Go.ChangeShapes Go.WideShapes Go.ChangeAt Go.RowKit
open Go.ChangeMaps (open_string shut_string)
set_option linter.unusedVariables false

theorem own : ownKnob Try.prog.godebug = none := by kernel_rfl
theorem laidOut : laidOutB Try.prog = true := by kernel_rfl

set_option maxRecDepth 20000 in
set_option maxHeartbeats 4000000 in
theorem walk (a0 : Int) (a1 : Option Addr) (len1 cap1 : Nat) (D1 : Nat → Dd) (a2 : Int) (w : World) (w0 : (Lit.int .i64 a0).wf = true) (w1 : Deeds w a1 len1 D1) (w2 : (Lit.int .i64 a2).wf = true) :
    Calls Try.prog 3 #[.int .i64 a0, .slice a1 len1 cap1, .int .i64 a2] w fun e w' => e = .returned (.bool true) ∧ Below w.heap.size w w' := by
  have HD := hid w1
  have ha2 : a2 ≤ 9223372036854775807 := wf_le w2
  clear w0 w1 w2
  by_cases h1 : 120 < len1
  · have h1' : (120 : Int) < len1 := by omega
    go_enter Try.func3, Try.ntmps3
    go_wp2_with (go_at_call 6; with_reducible (refine (awake_any _).mono ?_); rintro e w1 ⟨rfl, b1⟩)
    go_ret
    exact ⟨rfl, b1.out⟩
  · have h1' : decide ((120 : Int) < len1) = false := by simp; omega
    by_cases h2 : 1000 < a0
    · go_enter Try.func3, Try.ntmps3
      go_wp2_with (go_at_call 6; with_reducible (refine (awake_any _).mono ?_); rintro e w1 ⟨rfl, b1⟩)
      go_ret
      exact ⟨rfl, b1.out⟩
    · go_enter Try.func3, Try.ntmps3
      go_wp2_with (first
        | (go_at_call 7; with_reducible (refine (new_is a0 _).mono ?_); rintro e w1 ⟨k, rfl, o1, hn, hB, b1⟩)
        | (go_at_call 8; with_reducible (refine (rnew_any a0 _).mono ?_); rintro e w2 ⟨rfl, b2⟩))
      have S0 := hid (Side.start o1.out hn.out hB.out b1.out b2.out)
      go_loopw [9] (fun i wr => ∃ (q : Nat) (ao : Option Addr) (c : Nat) (L : List E) (lev : Nat) (p : V), q ≤ len1 ∧ i = .int .i64 q ∧ Hid (Side k w w2.heap.size (.slice ao L.length c) L lev p wr)) (fun i _ => len1 - (intOf i).toNat)
      case atStart => exact ⟨0, none, 0, [], 0, noV, Nat.zero_le _, rfl, S0⟩
      case round =>
        clear S0 o1 hB b1 b2
        obtain ⟨q, ao, c, L, lev, p, hq, rfl, hs⟩ := hrel
        by_cases hlt : q < len1
        · have hlt' : (q : Int) < len1 := by omega
          obtain ⟨db, off, rfl, e0, e1, e2, e9⟩ := (HD.out.below hs.out.be).at hlt
          obtain ⟨⟨x1, x2, x3⟩, x4, x5, x6⟩ := hs.out.cells
          have hdb := cell_lt e0
          have hxb := cell_lt x1
          simp only [] at hdb hxb
          have hne1 : ¬ db = wr.heap.size := by omega
          have hne2 : ¬ w2.heap.size = wr.heap.size := by omega
          obtain ⟨L', hL'⟩ : ∃ L', doL k.n L lev (D1 q).kd (D1 q).v (D1 q).t = L' := ⟨_, rfl⟩
          obtain ⟨lev', hv'⟩ : ∃ v', doV k.n L lev (D1 q).kd (D1 q).v (D1 q).t = v' := ⟨_, rfl⟩
          have HL := hid hL'
          have HV := hid hv'
          have HBB := hid (doB_same k.n L lev (D1 q).kd (D1 q).v (D1 q).t)
          clear hL' hv'
          go_upto_region 9 with fail
          go_cut [10, 11] from 26 to 95 (fun y ok wx => ∃ (yb : Nat) (ao5 : Option Addr) (c5 : Nat), y = .pointer (some ⟨yb, 0, none⟩) ∧ ok = .int .i64 1 ∧ Hid (Half k w w2.heap.size (.slice ao L.length c) lev L' lev' yb (.slice ao5 L'.length c5) wx))
          case first =>
            go_region_with (first
              | (go_at_call 9; with_reducible (refine (do_any (hs.out.below (below_drew wr)).doin _ _ _ e9 HL.out HL.out HV.out HV.out HBB.out).mono ?_); rintro e w5 ⟨ao5, c5, rfl, h5⟩; have h6 := hid (half_a hs.out (h5.out.from (below_drew wr))))
              | (go_at_call 9; with_reducible (refine (do_any (w := (wr.alloc (.cells #[.int .i64 0, .slice none 0 0, .int .i64 0] 28)).drew) (hs.out.below (by go_grown)).doin _ _ _ e9 HL.out HL.out HV.out HV.out HBB.out).mono ?_); rintro e w5 ⟨ao5, c5, rfl, h5⟩; have h7 := half_b hs.out h5.out; obtain ⟨y5, h8⟩ := h7; have y6 := box_cells y5; obtain ⟨⟨z1, z2, z3⟩, z4, z5, z6⟩ := y6; have h9 := hid h8))
            all_goals go_wp2_with fail
            all_goals go_meet
            all_goals first
              | exact ⟨_, _, _, rfl, rfl, h6⟩
              | exact ⟨_, _, _, rfl, rfl, h9⟩
          case rest =>
            obtain ⟨v, hv⟩ : ∃ v, v = (D1 q).v := ⟨_, rfl⟩
            rw [← hv] at e9
            clear e0 e1 e2 x1 x2 x3 x4 x5 x6 hdb hxb hne1 hne2 hs HL HV HBB
            obtain ⟨yb, ao5, c5, rfl, rfl, hm⟩ := hcut
            obtain ⟨y5, x5, p5, s5⟩ := hm.out
            obtain ⟨⟨f1, f2, f3⟩, f4, f5, f6⟩ := box_cells y5
            obtain ⟨⟨g1, g2, g3⟩, g4, g5, g6⟩ := box_cells x5
            have S5 := hid s5
            clear hm y5 x5
            obtain ⟨db2, off2, e7, -, e8, -, -⟩ := (HD.out.below s5.be).at hlt
            cases e7
            rw [← hv] at e8
            obtain ⟨⟨j1, j2, j3⟩, -, -, -⟩ := s5.cells
            obtain ⟨y1, hy1⟩ : ∃ y1, valueF L' v = y1 := ⟨_, rfl⟩
            obtain ⟨y2, hy2⟩ : ∃ y2, valueF L' a2 = y2 := ⟨_, rfl⟩
            obtain ⟨y3, hy3⟩ : ∃ y3, levelF L' a2 = y3 := ⟨_, rfl⟩
            obtain ⟨y4, hy4⟩ : ∃ y4, reasonF L' a2 = y4 := ⟨_, rfl⟩
            have Y1 := hid hy1
            have Y2 := hid hy2
            have Y3 := hid hy3
            have Y4 := hid hy4
            have HVV := hid hv
            clear s5 hv hy1 hy2 hy3 hy4
            go_upto_region 11 with fail
            revert S5 e8 j1 j2 j3
            generalize ((wc.setCell ⟨w2.heap.size, 0, none⟩ (.int .i64 k.n)).setCell ⟨w2.heap.size, 1, none⟩ (.slice ao5 L'.length c5)).setCell ⟨w2.heap.size, 2, none⟩ (.int .i64 lev') = w9
            intro S5 e8 j1 j2 j3
            clear f1 f2 f3 f4 f5 f6 g1 g2 g3 g4 g5 g6
            have DC : ∀ wv, Below w.heap.size w wv → wv.cell? ⟨db, off + q * 3 + 1, none⟩ = some (.int .i64 v) := fun wv hb => by
              obtain ⟨b', f', e7, -, e8', -, -⟩ := (HD.out.below hb).at hlt
              cases e7
              rw [HVV.out]; exact e8'
            have hlt0 : q < len1 := hlt
            obtain ⟨vals, hvals⟩ : ∃ vals : List Value, vals = [.int .i64 1, .bool false, .bool false, .pointer (some ⟨k.OB, 0, none⟩), .int .i64 lev', .pointer (some ⟨w2.heap.size, 2, none⟩), .int .i64 lev', .bool false, .bool false, .bool false, .pointer (some ⟨k.OB, 0, none⟩), .slice (some ⟨db, off, none⟩) len1 cap1, .int .i64 q, .pointer (some ⟨db, off + q * 3, none⟩), .pointer (some ⟨db, off + q * 3 + 1, none⟩), .int .i64 v, .int .i64 y1, .agg #[.int .i64 k.n, .slice ao5 L'.length c5, .int .i64 lev'], .slice (some ⟨db, off, none⟩) len1 cap1, .int .i64 q, .pointer (some ⟨db, off + q * 3, none⟩), .pointer (some ⟨db, off + q * 3 + 1, none⟩), .int .i64 v, .int .i64 y1, .bool false, .bool false, .bool false, .pointer (some ⟨k.OB, 0, none⟩), .int .i64 a2, .int .i64 y2, .agg #[.int .i64 k.n, .slice ao5 L'.length c5, .int .i64 lev'], .int .i64 a2, .int .i64 y2, .bool false, .bool false, .bool false, .pointer (some ⟨k.OB, 0, none⟩), .int .i64 a2, .int .i64 y3, .agg #[.int .i64 k.n, .slice ao5 L'.length c5, .int .i64 lev'], .int .i64 a2, .int .i64 y3, .bool false, .bool false, .bool false, .pointer (some ⟨k.OB, 0, none⟩), .int .i64 a2, .int .i64 y4, .agg #[.int .i64 k.n, .slice ao5 L'.length c5, .int .i64 lev'], .int .i64 a2, .int .i64 y4, .bool false, .bool false] := ⟨_, rfl⟩
            have hinj := ownAt_inj 43 vals
            have o43 : ownAt 43 vals 43 = some (0, .int .i64 1) := by rw [hvals]; rfl
            have o44 : ownAt 43 vals 44 = some (1, .bool false) := by rw [hvals]; rfl
            have o45 : ownAt 43 vals 45 = some (2, .bool false) := by rw [hvals]; rfl
            have o46 : ownAt 43 vals 46 = some (3, .pointer (some ⟨k.OB, 0, none⟩)) := by rw [hvals]; rfl
            have o47 : ownAt 43 vals 47 = some (4, .int .i64 lev') := by rw [hvals]; rfl
            have o48 : ownAt 43 vals 48 = some (5, .pointer (some ⟨w2.heap.size, 2, none⟩)) := by rw [hvals]; rfl
            have o49 : ownAt 43 vals 49 = some (6, .int .i64 lev') := by rw [hvals]; rfl
            have o50 : ownAt 43 vals 50 = some (7, .bool false) := by rw [hvals]; rfl
            have o51 : ownAt 43 vals 51 = some (8, .bool false) := by rw [hvals]; rfl
            have o52 : ownAt 43 vals 52 = some (9, .bool false) := by rw [hvals]; rfl
            have o53 : ownAt 43 vals 53 = some (10, .pointer (some ⟨k.OB, 0, none⟩)) := by rw [hvals]; rfl
            have o54 : ownAt 43 vals 54 = some (11, .slice (some ⟨db, off, none⟩) len1 cap1) := by rw [hvals]; rfl
            have o55 : ownAt 43 vals 55 = some (12, .int .i64 q) := by rw [hvals]; rfl
            have o56 : ownAt 43 vals 56 = some (13, .pointer (some ⟨db, off + q * 3, none⟩)) := by rw [hvals]; rfl
            have o57 : ownAt 43 vals 57 = some (14, .pointer (some ⟨db, off + q * 3 + 1, none⟩)) := by rw [hvals]; rfl
            have o58 : ownAt 43 vals 58 = some (15, .int .i64 v) := by rw [hvals]; rfl
            have o59 : ownAt 43 vals 59 = some (16, .int .i64 y1) := by rw [hvals]; rfl
            have o60 : ownAt 43 vals 60 = some (17, (.agg #[.int .i64 k.n, .slice ao5 L'.length c5, .int .i64 lev'])) := by rw [hvals]; rfl
            have o61 : ownAt 43 vals 61 = some (18, .slice (some ⟨db, off, none⟩) len1 cap1) := by rw [hvals]; rfl
            have o62 : ownAt 43 vals 62 = some (19, .int .i64 q) := by rw [hvals]; rfl
            have o63 : ownAt 43 vals 63 = some (20, .pointer (some ⟨db, off + q * 3, none⟩)) := by rw [hvals]; rfl
            have o64 : ownAt 43 vals 64 = some (21, .pointer (some ⟨db, off + q * 3 + 1, none⟩)) := by rw [hvals]; rfl
            have o65 : ownAt 43 vals 65 = some (22, .int .i64 v) := by rw [hvals]; rfl
            have o66 : ownAt 43 vals 66 = some (23, .int .i64 y1) := by rw [hvals]; rfl
            have o67 : ownAt 43 vals 67 = some (24, .bool false) := by rw [hvals]; rfl
            have o68 : ownAt 43 vals 68 = some (25, .bool false) := by rw [hvals]; rfl
            have o69 : ownAt 43 vals 69 = some (26, .bool false) := by rw [hvals]; rfl
            have o70 : ownAt 43 vals 70 = some (27, .pointer (some ⟨k.OB, 0, none⟩)) := by rw [hvals]; rfl
            have o71 : ownAt 43 vals 71 = some (28, .int .i64 a2) := by rw [hvals]; rfl
            have o72 : ownAt 43 vals 72 = some (29, .int .i64 y2) := by rw [hvals]; rfl
            have o73 : ownAt 43 vals 73 = some (30, (.agg #[.int .i64 k.n, .slice ao5 L'.length c5, .int .i64 lev'])) := by rw [hvals]; rfl
            have o74 : ownAt 43 vals 74 = some (31, .int .i64 a2) := by rw [hvals]; rfl
            have o75 : ownAt 43 vals 75 = some (32, .int .i64 y2) := by rw [hvals]; rfl
            have o76 : ownAt 43 vals 76 = some (33, .bool false) := by rw [hvals]; rfl
            have o77 : ownAt 43 vals 77 = some (34, .bool false) := by rw [hvals]; rfl
            have o78 : ownAt 43 vals 78 = some (35, .bool false) := by rw [hvals]; rfl
            have o79 : ownAt 43 vals 79 = some (36, .pointer (some ⟨k.OB, 0, none⟩)) := by rw [hvals]; rfl
            have o80 : ownAt 43 vals 80 = some (37, .int .i64 a2) := by rw [hvals]; rfl
            have o81 : ownAt 43 vals 81 = some (38, .int .i64 y3) := by rw [hvals]; rfl
            have o82 : ownAt 43 vals 82 = some (39, (.agg #[.int .i64 k.n, .slice ao5 L'.length c5, .int .i64 lev'])) := by rw [hvals]; rfl
            have o83 : ownAt 43 vals 83 = some (40, .int .i64 a2) := by rw [hvals]; rfl
            have o84 : ownAt 43 vals 84 = some (41, .int .i64 y3) := by rw [hvals]; rfl
            have o85 : ownAt 43 vals 85 = some (42, .bool false) := by rw [hvals]; rfl
            have o86 : ownAt 43 vals 86 = some (43, .bool false) := by rw [hvals]; rfl
            have o87 : ownAt 43 vals 87 = some (44, .bool false) := by rw [hvals]; rfl
            have o88 : ownAt 43 vals 88 = some (45, .pointer (some ⟨k.OB, 0, none⟩)) := by rw [hvals]; rfl
            have o89 : ownAt 43 vals 89 = some (46, .int .i64 a2) := by rw [hvals]; rfl
            have o90 : ownAt 43 vals 90 = some (47, .int .i64 y4) := by rw [hvals]; rfl
            have o91 : ownAt 43 vals 91 = some (48, (.agg #[.int .i64 k.n, .slice ao5 L'.length c5, .int .i64 lev'])) := by rw [hvals]; rfl
            have o92 : ownAt 43 vals 92 = some (49, .int .i64 a2) := by rw [hvals]; rfl
            have o93 : ownAt 43 vals 93 = some (50, .int .i64 y4) := by rw [hvals]; rfl
            have o94 : ownAt 43 vals 94 = some (51, .bool false) := by rw [hvals]; rfl
            have o95 : ownAt 43 vals 95 = some (52, .bool false) := by rw [hvals]; rfl
            have n1 : ownAt 43 vals 1 = none := by rw [hvals]; rfl
            have n2 : ownAt 43 vals 2 = none := by rw [hvals]; rfl
            have n7 : ownAt 43 vals 7 = none := by rw [hvals]; rfl
            have n8 : ownAt 43 vals 8 = none := by rw [hvals]; rfl
            have n9 : ownAt 43 vals 9 = none := by rw [hvals]; rfl
            have n11 : ownAt 43 vals 11 = none := by rw [hvals]; rfl
            refine region_by (fun w' => Hid (Side k w w2.heap.size (.slice ao5 L'.length c5) L' lev' p5 w')) (by kernel_rfl) (by kernel_rfl) (ownAt 43 vals) { tmps := #[.int .i64 a0, .slice (some ⟨db, off, none⟩) len1 cap1, .int .i64 a2, undef, undef, undef, u6, .pointer (some ⟨k.OB, 0, none⟩), .pointer (some ⟨w2.heap.size, 0, none⟩), .int .i64 q, .pointer (some ⟨yb, 0, none⟩), .int .i64 1, .slice (some ⟨db, off, none⟩) len1 cap1, .int .i64 len1, .bool false, .bool false, .int .i64 a0, .bool false, .bool false, undef, .int .i64 a0, .pointer (some ⟨k.OB, 0, none⟩), .int .i64 a0, .agg #[.int .i64 (cntF a0), .slice none 0 0, .int .i64 0], .pointer (some ⟨k.OB, 0, none⟩), .bool false, u26, u27, u28, u29, u30, u31, u32, u33, u34, u35, u36, u37, u38, u39, u40, u41, .agg #[.int .i64 k.n, .slice ao5 L'.length c5, .int .i64 lev'], .int .i64 1, .bool false, .bool false, .pointer (some ⟨k.OB, 0, none⟩), .int .i64 lev', .pointer (some ⟨w2.heap.size, 2, none⟩), .int .i64 lev', .bool false, .bool false, .bool false, .pointer (some ⟨k.OB, 0, none⟩), .slice (some ⟨db, off, none⟩) len1 cap1, .int .i64 q, .pointer (some ⟨db, off + q * 3, none⟩), .pointer (some ⟨db, off + q * 3 + 1, none⟩), .int .i64 v, .int .i64 y1, .agg #[.int .i64 k.n, .slice ao5 L'.length c5, .int .i64 lev'], .slice (some ⟨db, off, none⟩) len1 cap1, .int .i64 q, .pointer (some ⟨db, off + q * 3, none⟩), .pointer (some ⟨db, off + q * 3 + 1, none⟩), .int .i64 v, .int .i64 y1, .bool false, .bool false, .bool false, .pointer (some ⟨k.OB, 0, none⟩), .int .i64 a2, .int .i64 y2, .agg #[.int .i64 k.n, .slice ao5 L'.length c5, .int .i64 lev'], .int .i64 a2, .int .i64 y2, .bool false, .bool false, .bool false, .pointer (some ⟨k.OB, 0, none⟩), .int .i64 a2, .int .i64 y3, .agg #[.int .i64 k.n, .slice ao5 L'.length c5, .int .i64 lev'], .int .i64 a2, .int .i64 y3, .bool false, .bool false, .bool false, .pointer (some ⟨k.OB, 0, none⟩), .int .i64 a2, .int .i64 y4, .agg #[.int .i64 k.n, .slice ao5 L'.length c5, .int .i64 lev'], .int .i64 a2, .int .i64 y4, .bool false, .bool false, undef, undef, undef, undef, undef, undef, undef, undef], defers := [] } (by rw [hvals]; kernel_rfl) (hid (S5.out.below (below_drew w9))) ?_ ?_
            · intro ops Q' A hops hA
              have s104 : ∀ s, s < 104 → s < A.tmps.size := fun s h => by rw [hA]; exact h
              have av1 : A.eval (.tmp 1) = .slice (some ⟨db, off, none⟩) len1 cap1 := by rw [hA]; rfl
              have av2 : A.eval (.tmp 2) = .int .i64 a2 := by rw [hA]; rfl
              have av7 : A.eval (.tmp 7) = .pointer (some ⟨k.OB, 0, none⟩) := by rw [hA]; rfl
              have av8 : A.eval (.tmp 8) = .pointer (some ⟨w2.heap.size, 0, none⟩) := by rw [hA]; rfl
              have av9 : A.eval (.tmp 9) = .int .i64 q := by rw [hA]; rfl
              have av11 : A.eval (.tmp 11) = .int .i64 1 := by rw [hA]; rfl
              have d2 : (ops[2]?).bind (·.dst) = some 45 := by rw [hops 2 _ rfl]; rfl
              have d9 : (ops[9]?).bind (·.dst) = some 52 := by rw [hops 9 _ rfl]; rfl
              have d26 : (ops[26]?).bind (·.dst) = some 69 := by rw [hops 26 _ rfl]; rfl
              have d35 : (ops[35]?).bind (·.dst) = some 78 := by rw [hops 35 _ rfl]; rfl
              have d44 : (ops[44]?).bind (·.dst) = some 87 := by rw [hops 44 _ rfl]; rfl
              clear hA hops
              refine (AllFrom.cons (m := 1) rfl ?_ (AllFrom.cons (m := 2) rfl ?_ (AllFrom.cons (m := 3) rfl ?_ (AllFrom.cons (m := 4) rfl ?_ (AllFrom.cons (m := 5) rfl ?_ (AllFrom.cons (m := 6) rfl ?_ (AllFrom.cons (m := 7) rfl ?_ (AllFrom.cons (m := 8) rfl ?_ (AllFrom.cons (m := 9) rfl ?_ (AllFrom.cons (m := 10) rfl ?_ (AllFrom.cons (m := 11) rfl ?_ (AllFrom.cons (m := 12) rfl ?_ (AllFrom.cons (m := 13) rfl ?_ (AllFrom.cons (m := 14) rfl ?_ (AllFrom.cons (m := 15) rfl ?_ (AllFrom.cons (m := 16) rfl ?_ (AllFrom.cons (m := 17) rfl ?_ (AllFrom.cons (m := 18) rfl ?_ (AllFrom.cons (m := 19) rfl ?_ (AllFrom.cons (m := 20) rfl ?_ (AllFrom.cons (m := 21) rfl ?_ (AllFrom.cons (m := 22) rfl ?_ (AllFrom.cons (m := 23) rfl ?_ (AllFrom.cons (m := 24) rfl ?_ (AllFrom.cons (m := 25) rfl ?_ (AllFrom.cons (m := 26) rfl ?_ (AllFrom.cons (m := 27) rfl ?_ (AllFrom.cons (m := 28) rfl ?_ (AllFrom.cons (m := 29) rfl ?_ (AllFrom.cons (m := 30) rfl ?_ (AllFrom.cons (m := 31) rfl ?_ (AllFrom.cons (m := 32) rfl ?_ (AllFrom.cons (m := 33) rfl ?_ (AllFrom.cons (m := 34) rfl ?_ (AllFrom.cons (m := 35) rfl ?_ (AllFrom.cons (m := 36) rfl ?_ (AllFrom.cons (m := 37) rfl ?_ (AllFrom.cons (m := 38) rfl ?_ (AllFrom.cons (m := 39) rfl ?_ (AllFrom.cons (m := 40) rfl ?_ (AllFrom.cons (m := 41) rfl ?_ (AllFrom.cons (m := 42) rfl ?_ (AllFrom.cons (m := 43) rfl ?_ (AllFrom.cons (m := 44) rfl ?_ (AllFrom.cons (m := 45) rfl ?_ (AllFrom.cons (m := 46) rfl ?_ (AllFrom.cons (m := 47) rfl ?_ (AllFrom.cons (m := 48) rfl ?_ (AllFrom.cons (m := 49) rfl ?_ (AllFrom.cons (m := 50) rfl ?_ (AllFrom.cons (m := 51) rfl ?_ (AllFrom.cons (m := 52) rfl ?_ (AllFrom.cons (m := 53) rfl ?_ AllFrom.nil)))))))))))))))))))))))))))))))))))))))))))))))))))))
              · intro ho listed wv hlt hdep hR
                exact step_value hinj ho (wanted_none rfl) rfl o43 hlt (op_move rfl ((mk_base n11).trans av11)) hR
              · intro ho listed wv hlt hdep hR
                exact step_value hinj ho (wanted_none rfl) rfl o44 hlt (op_eql rfl (mk_dep o43 (hdep ⟨0, .data⟩ (Array.mem_of_getElem? (i := 0) rfl) rfl) (s104 43 (by decide))) rfl (by decide)) hR
              · intro ho listed wv hlt hdep hR
                exact step_value hinj ho (wanted_none rfl) rfl o45 hlt (op_move rfl (mk_dep o44 (hdep ⟨1, .data⟩ (Array.mem_of_getElem? (i := 0) rfl) rfl) (s104 44 (by decide)))) hR
              · intro ho listed wv hlt hdep hR
                exact step_value hinj ho (wanted_of rfl (mk_yields d2 o45 (hdep ⟨2, .guard⟩ (Array.mem_of_getElem? (i := 0) rfl) rfl) (s104 45 (by decide)))) rfl o46 hlt (op_move rfl ((mk_base n7).trans av7)) hR
              · intro ho listed wv hlt hdep hR
                exact step_call hinj ho (wanted_of rfl (mk_yields d2 o45 (hdep ⟨2, .chain⟩ (Array.mem_of_getElem? (i := 1) rfl) rfl) (s104 45 (by decide)))) rfl o47 hlt (op_call rfl rfl (args1 (mk_dep o46 (hdep ⟨3, .data⟩ (Array.mem_of_getElem? (i := 0) rfl) rfl) (s104 46 (by decide)))) (enters_of Try.func10 (by kernel_rfl) rfl)) ((levels_is hR.out.t).mono fun e w' h => ⟨h.1, h.2 ▸ hR⟩)
              · intro ho listed wv hlt hdep hR
                exact step_value hinj ho (wanted_of rfl (mk_yields d2 o45 (hdep ⟨2, .guard⟩ (Array.mem_of_getElem? (i := 0) rfl) rfl) (s104 45 (by decide)))) rfl o48 hlt (op_field28 rfl ((mk_base n8).trans av8)) hR
              · intro ho listed wv hlt hdep hR
                exact step_value hinj ho (wanted_of rfl (mk_yields d2 o45 (hdep ⟨2, .guard⟩ (Array.mem_of_getElem? (i := 1) rfl) rfl) (s104 45 (by decide)))) rfl o49 hlt (op_load3 rfl (mk_dep o48 (hdep ⟨5, .data⟩ (Array.mem_of_getElem? (i := 0) rfl) rfl) (s104 48 (by decide))) hR.out.cells.1.2.2) hR
              · intro ho listed wv hlt hdep hR
                exact step_value hinj ho (wanted_of rfl (mk_yields d2 o45 (hdep ⟨2, .guard⟩ (Array.mem_of_getElem? (i := 2) rfl) rfl) (s104 45 (by decide)))) rfl o50 hlt (op_neq rfl (mk_dep o47 (hdep ⟨4, .data⟩ (Array.mem_of_getElem? (i := 0) rfl) rfl) (s104 47 (by decide))) (mk_dep o49 (hdep ⟨6, .data⟩ (Array.mem_of_getElem? (i := 1) rfl) rfl) (s104 49 (by decide)))) hR
              · intro ho listed wv hlt hdep hR
                exact step_value hinj ho (wanted_none rfl) rfl o51 hlt (op_pickF rfl (mk_dep o45 (hdep ⟨2, .data⟩ (Array.mem_of_getElem? (i := 0) rfl) rfl) (s104 45 (by decide))) (mk_dep o50 (hdep ⟨7, .data⟩ (Array.mem_of_getElem? (i := 1) rfl) rfl) (s104 50 (by decide)))) hR
              · intro ho listed wv hlt hdep hR
                exact step_value hinj ho (wanted_none rfl) rfl o52 hlt (op_move rfl (mk_dep o51 (hdep ⟨8, .data⟩ (Array.mem_of_getElem? (i := 0) rfl) rfl) (s104 51 (by decide)))) hR
              · intro ho listed wv hlt hdep hR
                exact step_value hinj ho (wanted_of rfl (mk_yields d9 o52 (hdep ⟨9, .guard⟩ (Array.mem_of_getElem? (i := 0) rfl) rfl) (s104 52 (by decide)))) rfl o53 hlt (op_move rfl ((mk_base n7).trans av7)) hR
              · intro ho listed wv hlt hdep hR
                exact step_value hinj ho (wanted_of rfl (mk_yields d9 o52 (hdep ⟨9, .guard⟩ (Array.mem_of_getElem? (i := 0) rfl) rfl) (s104 52 (by decide)))) rfl o54 hlt (op_move rfl ((mk_base n1).trans av1)) hR
              · intro ho listed wv hlt hdep hR
                exact step_value hinj ho (wanted_of rfl (mk_yields d9 o52 (hdep ⟨9, .guard⟩ (Array.mem_of_getElem? (i := 0) rfl) rfl) (s104 52 (by decide)))) rfl o55 hlt (op_move rfl ((mk_base n9).trans av9)) hR
              · intro ho listed wv hlt hdep hR
                exact step_value hinj ho (wanted_of rfl (mk_yields d9 o52 (hdep ⟨9, .guard⟩ (Array.mem_of_getElem? (i := 2) rfl) rfl) (s104 52 (by decide)))) rfl o56 hlt (op_index22 rfl (mk_dep o54 (hdep ⟨11, .data⟩ (Array.mem_of_getElem? (i := 0) rfl) rfl) (s104 54 (by decide))) (mk_dep o55 (hdep ⟨12, .data⟩ (Array.mem_of_getElem? (i := 1) rfl) rfl) (s104 55 (by decide))) hlt0) hR
              · intro ho listed wv hlt hdep hR
                exact step_value hinj ho (wanted_of rfl (mk_yields d9 o52 (hdep ⟨9, .guard⟩ (Array.mem_of_getElem? (i := 1) rfl) rfl) (s104 52 (by decide)))) rfl o57 hlt (op_field33 rfl (mk_dep o56 (hdep ⟨13, .data⟩ (Array.mem_of_getElem? (i := 0) rfl) rfl) (s104 56 (by decide)))) hR
              · intro ho listed wv hlt hdep hR
                exact step_value hinj ho (wanted_of rfl (mk_yields d9 o52 (hdep ⟨9, .guard⟩ (Array.mem_of_getElem? (i := 1) rfl) rfl) (s104 52 (by decide)))) rfl o58 hlt (op_load3 rfl (mk_dep o57 (hdep ⟨14, .data⟩ (Array.mem_of_getElem? (i := 0) rfl) rfl) (s104 57 (by decide))) (DC _ hR.out.be)) hR
              · intro ho listed wv hlt hdep hR
                exact step_call hinj ho (wanted_of rfl (mk_yields d9 o52 (hdep ⟨9, .chain⟩ (Array.mem_of_getElem? (i := 2) rfl) rfl) (s104 52 (by decide)))) rfl o59 hlt (op_call rfl rfl (args2 (mk_dep o53 (hdep ⟨10, .data⟩ (Array.mem_of_getElem? (i := 0) rfl) rfl) (s104 53 (by decide))) (mk_dep o58 (hdep ⟨15, .data⟩ (Array.mem_of_getElem? (i := 1) rfl) rfl) (s104 58 (by decide)))) (enters_of Try.func11 (by kernel_rfl) rfl)) ((value_is hR.out.t v e9 Y1.out).mono fun e w' h => ⟨h.1, hid (hR.out.below h.2.out)⟩)
              · intro ho listed wv hlt hdep hR
                exact step_value hinj ho (wanted_of rfl (mk_yields d9 o52 (hdep ⟨9, .guard⟩ (Array.mem_of_getElem? (i := 0) rfl) rfl) (s104 52 (by decide)))) rfl o60 hlt (op_load28 rfl ((mk_base n8).trans av8) hR.out.cells.1.1 hR.out.cells.1.2.1 hR.out.cells.1.2.2) hR
              · intro ho listed wv hlt hdep hR
                exact step_value hinj ho (wanted_of rfl (mk_yields d9 o52 (hdep ⟨9, .guard⟩ (Array.mem_of_getElem? (i := 0) rfl) rfl) (s104 52 (by decide)))) rfl o61 hlt (op_move rfl ((mk_base n1).trans av1)) hR
              · intro ho listed wv hlt hdep hR
                exact step_value hinj ho (wanted_of rfl (mk_yields d9 o52 (hdep ⟨9, .guard⟩ (Array.mem_of_getElem? (i := 0) rfl) rfl) (s104 52 (by decide)))) rfl o62 hlt (op_move rfl ((mk_base n9).trans av9)) hR
              · intro ho listed wv hlt hdep hR
                exact step_value hinj ho (wanted_of rfl (mk_yields d9 o52 (hdep ⟨9, .guard⟩ (Array.mem_of_getElem? (i := 2) rfl) rfl) (s104 52 (by decide)))) rfl o63 hlt (op_index22 rfl (mk_dep o61 (hdep ⟨18, .data⟩ (Array.mem_of_getElem? (i := 0) rfl) rfl) (s104 61 (by decide))) (mk_dep o62 (hdep ⟨19, .data⟩ (Array.mem_of_getElem? (i := 1) rfl) rfl) (s104 62 (by decide))) hlt0) hR
              · intro ho listed wv hlt hdep hR
                exact step_value hinj ho (wanted_of rfl (mk_yields d9 o52 (hdep ⟨9, .guard⟩ (Array.mem_of_getElem? (i := 1) rfl) rfl) (s104 52 (by decide)))) rfl o64 hlt (op_field33 rfl (mk_dep o63 (hdep ⟨20, .data⟩ (Array.mem_of_getElem? (i := 0) rfl) rfl) (s104 63 (by decide)))) hR
              · intro ho listed wv hlt hdep hR
                exact step_value hinj ho (wanted_of rfl (mk_yields d9 o52 (hdep ⟨9, .guard⟩ (Array.mem_of_getElem? (i := 1) rfl) rfl) (s104 52 (by decide)))) rfl o65 hlt (op_load3 rfl (mk_dep o64 (hdep ⟨21, .data⟩ (Array.mem_of_getElem? (i := 0) rfl) rfl) (s104 64 (by decide))) (DC _ hR.out.be)) hR
              · intro ho listed wv hlt hdep hR
                exact step_call hinj ho (wanted_of rfl (mk_yields d9 o52 (hdep ⟨9, .guard⟩ (Array.mem_of_getElem? (i := 3) rfl) rfl) (s104 52 (by decide)))) rfl o66 hlt (op_call rfl rfl (args2 (mk_dep o60 (hdep ⟨17, .data⟩ (Array.mem_of_getElem? (i := 0) rfl) rfl) (s104 60 (by decide))) (mk_dep o65 (hdep ⟨22, .data⟩ (Array.mem_of_getElem? (i := 1) rfl) rfl) (s104 65 (by decide)))) (enters_of Try.func12 (by kernel_rfl) rfl)) ((rvalue_any hR.out.rs v e9 _ _ Y1.out).mono fun e w' h => ⟨h.1, hid (hR.out.below h.2.out)⟩)
              · intro ho listed wv hlt hdep hR
                exact step_value hinj ho (wanted_of rfl (mk_yields d9 o52 (hdep ⟨9, .guard⟩ (Array.mem_of_getElem? (i := 2) rfl) rfl) (s104 52 (by decide)))) rfl o67 hlt (op_neq rfl (mk_dep o59 (hdep ⟨16, .data⟩ (Array.mem_of_getElem? (i := 0) rfl) rfl) (s104 59 (by decide))) (mk_dep o66 (hdep ⟨23, .data⟩ (Array.mem_of_getElem? (i := 1) rfl) rfl) (s104 66 (by decide)))) hR
              · intro ho listed wv hlt hdep hR
                exact step_value hinj ho (wanted_none rfl) rfl o68 hlt (op_pickF rfl (mk_dep o52 (hdep ⟨9, .data⟩ (Array.mem_of_getElem? (i := 0) rfl) rfl) (s104 52 (by decide))) (mk_dep o67 (hdep ⟨24, .data⟩ (Array.mem_of_getElem? (i := 1) rfl) rfl) (s104 67 (by decide)))) hR
              · intro ho listed wv hlt hdep hR
                exact step_value hinj ho (wanted_none rfl) rfl o69 hlt (op_move rfl (mk_dep o68 (hdep ⟨25, .data⟩ (Array.mem_of_getElem? (i := 0) rfl) rfl) (s104 68 (by decide)))) hR
              · intro ho listed wv hlt hdep hR
                exact step_value hinj ho (wanted_of rfl (mk_yields d26 o69 (hdep ⟨26, .guard⟩ (Array.mem_of_getElem? (i := 0) rfl) rfl) (s104 69 (by decide)))) rfl o70 hlt (op_move rfl ((mk_base n7).trans av7)) hR
              · intro ho listed wv hlt hdep hR
                exact step_value hinj ho (wanted_of rfl (mk_yields d26 o69 (hdep ⟨26, .guard⟩ (Array.mem_of_getElem? (i := 0) rfl) rfl) (s104 69 (by decide)))) rfl o71 hlt (op_move rfl ((mk_base n2).trans av2)) hR
              · intro ho listed wv hlt hdep hR
                exact step_call hinj ho (wanted_of rfl (mk_yields d26 o69 (hdep ⟨26, .chain⟩ (Array.mem_of_getElem? (i := 2) rfl) rfl) (s104 69 (by decide)))) rfl o72 hlt (op_call rfl rfl (args2 (mk_dep o70 (hdep ⟨27, .data⟩ (Array.mem_of_getElem? (i := 0) rfl) rfl) (s104 70 (by decide))) (mk_dep o71 (hdep ⟨28, .data⟩ (Array.mem_of_getElem? (i := 1) rfl) rfl) (s104 71 (by decide)))) (enters_of Try.func11 (by kernel_rfl) rfl)) ((value_is hR.out.t a2 ha2 Y2.out).mono fun e w' h => ⟨h.1, hid (hR.out.below h.2.out)⟩)
              · intro ho listed wv hlt hdep hR
                exact step_value hinj ho (wanted_of rfl (mk_yields d26 o69 (hdep ⟨26, .guard⟩ (Array.mem_of_getElem? (i := 0) rfl) rfl) (s104 69 (by decide)))) rfl o73 hlt (op_load28 rfl ((mk_base n8).trans av8) hR.out.cells.1.1 hR.out.cells.1.2.1 hR.out.cells.1.2.2) hR
              · intro ho listed wv hlt hdep hR
                exact step_value hinj ho (wanted_of rfl (mk_yields d26 o69 (hdep ⟨26, .guard⟩ (Array.mem_of_getElem? (i := 0) rfl) rfl) (s104 69 (by decide)))) rfl o74 hlt (op_move rfl ((mk_base n2).trans av2)) hR
              · intro ho listed wv hlt hdep hR
                exact step_call hinj ho (wanted_of rfl (mk_yields d26 o69 (hdep ⟨26, .guard⟩ (Array.mem_of_getElem? (i := 3) rfl) rfl) (s104 69 (by decide)))) rfl o75 hlt (op_call rfl rfl (args2 (mk_dep o73 (hdep ⟨30, .data⟩ (Array.mem_of_getElem? (i := 0) rfl) rfl) (s104 73 (by decide))) (mk_dep o74 (hdep ⟨31, .data⟩ (Array.mem_of_getElem? (i := 1) rfl) rfl) (s104 74 (by decide)))) (enters_of Try.func12 (by kernel_rfl) rfl)) ((rvalue_any hR.out.rs a2 ha2 _ _ Y2.out).mono fun e w' h => ⟨h.1, hid (hR.out.below h.2.out)⟩)
              · intro ho listed wv hlt hdep hR
                exact step_value hinj ho (wanted_of rfl (mk_yields d26 o69 (hdep ⟨26, .guard⟩ (Array.mem_of_getElem? (i := 2) rfl) rfl) (s104 69 (by decide)))) rfl o76 hlt (op_neq rfl (mk_dep o72 (hdep ⟨29, .data⟩ (Array.mem_of_getElem? (i := 0) rfl) rfl) (s104 72 (by decide))) (mk_dep o75 (hdep ⟨32, .data⟩ (Array.mem_of_getElem? (i := 1) rfl) rfl) (s104 75 (by decide)))) hR
              · intro ho listed wv hlt hdep hR
                exact step_value hinj ho (wanted_none rfl) rfl o77 hlt (op_pickF rfl (mk_dep o69 (hdep ⟨26, .data⟩ (Array.mem_of_getElem? (i := 0) rfl) rfl) (s104 69 (by decide))) (mk_dep o76 (hdep ⟨33, .data⟩ (Array.mem_of_getElem? (i := 1) rfl) rfl) (s104 76 (by decide)))) hR
              · intro ho listed wv hlt hdep hR
                exact step_value hinj ho (wanted_none rfl) rfl o78 hlt (op_move rfl (mk_dep o77 (hdep ⟨34, .data⟩ (Array.mem_of_getElem? (i := 0) rfl) rfl) (s104 77 (by decide)))) hR
              · intro ho listed wv hlt hdep hR
                exact step_value hinj ho (wanted_of rfl (mk_yields d35 o78 (hdep ⟨35, .guard⟩ (Array.mem_of_getElem? (i := 0) rfl) rfl) (s104 78 (by decide)))) rfl o79 hlt (op_move rfl ((mk_base n7).trans av7)) hR
              · intro ho listed wv hlt hdep hR
                exact step_value hinj ho (wanted_of rfl (mk_yields d35 o78 (hdep ⟨35, .guard⟩ (Array.mem_of_getElem? (i := 0) rfl) rfl) (s104 78 (by decide)))) rfl o80 hlt (op_move rfl ((mk_base n2).trans av2)) hR
              · intro ho listed wv hlt hdep hR
                exact step_call hinj ho (wanted_of rfl (mk_yields d35 o78 (hdep ⟨35, .chain⟩ (Array.mem_of_getElem? (i := 2) rfl) rfl) (s104 78 (by decide)))) rfl o81 hlt (op_call rfl rfl (args2 (mk_dep o79 (hdep ⟨36, .data⟩ (Array.mem_of_getElem? (i := 0) rfl) rfl) (s104 79 (by decide))) (mk_dep o80 (hdep ⟨37, .data⟩ (Array.mem_of_getElem? (i := 1) rfl) rfl) (s104 80 (by decide)))) (enters_of Try.func13 (by kernel_rfl) rfl)) ((level_is hR.out.t a2 Y3.out).mono fun e w' h => ⟨h.1, h.2 ▸ hR⟩)
              · intro ho listed wv hlt hdep hR
                exact step_value hinj ho (wanted_of rfl (mk_yields d35 o78 (hdep ⟨35, .guard⟩ (Array.mem_of_getElem? (i := 0) rfl) rfl) (s104 78 (by decide)))) rfl o82 hlt (op_load28 rfl ((mk_base n8).trans av8) hR.out.cells.1.1 hR.out.cells.1.2.1 hR.out.cells.1.2.2) hR
              · intro ho listed wv hlt hdep hR
                exact step_value hinj ho (wanted_of rfl (mk_yields d35 o78 (hdep ⟨35, .guard⟩ (Array.mem_of_getElem? (i := 0) rfl) rfl) (s104 78 (by decide)))) rfl o83 hlt (op_move rfl ((mk_base n2).trans av2)) hR
              · intro ho listed wv hlt hdep hR
                exact step_call hinj ho (wanted_of rfl (mk_yields d35 o78 (hdep ⟨35, .guard⟩ (Array.mem_of_getElem? (i := 3) rfl) rfl) (s104 78 (by decide)))) rfl o84 hlt (op_call rfl rfl (args2 (mk_dep o82 (hdep ⟨39, .data⟩ (Array.mem_of_getElem? (i := 0) rfl) rfl) (s104 82 (by decide))) (mk_dep o83 (hdep ⟨40, .data⟩ (Array.mem_of_getElem? (i := 1) rfl) rfl) (s104 83 (by decide)))) (enters_of Try.func14 (by kernel_rfl) rfl)) ((rlevel_any hR.out.rs a2 _ _ Y3.out).mono fun e w' h => ⟨h.1, hid (hR.out.below h.2.out)⟩)
              · intro ho listed wv hlt hdep hR
                exact step_value hinj ho (wanted_of rfl (mk_yields d35 o78 (hdep ⟨35, .guard⟩ (Array.mem_of_getElem? (i := 2) rfl) rfl) (s104 78 (by decide)))) rfl o85 hlt (op_neq rfl (mk_dep o81 (hdep ⟨38, .data⟩ (Array.mem_of_getElem? (i := 0) rfl) rfl) (s104 81 (by decide))) (mk_dep o84 (hdep ⟨41, .data⟩ (Array.mem_of_getElem? (i := 1) rfl) rfl) (s104 84 (by decide)))) hR
              · intro ho listed wv hlt hdep hR
                exact step_value hinj ho (wanted_none rfl) rfl o86 hlt (op_pickF rfl (mk_dep o78 (hdep ⟨35, .data⟩ (Array.mem_of_getElem? (i := 0) rfl) rfl) (s104 78 (by decide))) (mk_dep o85 (hdep ⟨42, .data⟩ (Array.mem_of_getElem? (i := 1) rfl) rfl) (s104 85 (by decide)))) hR
              · intro ho listed wv hlt hdep hR
                exact step_value hinj ho (wanted_none rfl) rfl o87 hlt (op_move rfl (mk_dep o86 (hdep ⟨43, .data⟩ (Array.mem_of_getElem? (i := 0) rfl) rfl) (s104 86 (by decide)))) hR
              · intro ho listed wv hlt hdep hR
                exact step_value hinj ho (wanted_of rfl (mk_yields d44 o87 (hdep ⟨44, .guard⟩ (Array.mem_of_getElem? (i := 0) rfl) rfl) (s104 87 (by decide)))) rfl o88 hlt (op_move rfl ((mk_base n7).trans av7)) hR
              · intro ho listed wv hlt hdep hR
                exact step_value hinj ho (wanted_of rfl (mk_yields d44 o87 (hdep ⟨44, .guard⟩ (Array.mem_of_getElem? (i := 0) rfl) rfl) (s104 87 (by decide)))) rfl o89 hlt (op_move rfl ((mk_base n2).trans av2)) hR
              · intro ho listed wv hlt hdep hR
                exact step_call hinj ho (wanted_of rfl (mk_yields d44 o87 (hdep ⟨44, .chain⟩ (Array.mem_of_getElem? (i := 2) rfl) rfl) (s104 87 (by decide)))) rfl o90 hlt (op_call rfl rfl (args2 (mk_dep o88 (hdep ⟨45, .data⟩ (Array.mem_of_getElem? (i := 0) rfl) rfl) (s104 88 (by decide))) (mk_dep o89 (hdep ⟨46, .data⟩ (Array.mem_of_getElem? (i := 1) rfl) rfl) (s104 89 (by decide)))) (enters_of Try.func15 (by kernel_rfl) rfl)) ((reason_is hR.out.t a2 Y4.out).mono fun e w' h => ⟨h.1, h.2 ▸ hR⟩)
              · intro ho listed wv hlt hdep hR
                exact step_value hinj ho (wanted_of rfl (mk_yields d44 o87 (hdep ⟨44, .guard⟩ (Array.mem_of_getElem? (i := 0) rfl) rfl) (s104 87 (by decide)))) rfl o91 hlt (op_load28 rfl ((mk_base n8).trans av8) hR.out.cells.1.1 hR.out.cells.1.2.1 hR.out.cells.1.2.2) hR
              · intro ho listed wv hlt hdep hR
                exact step_value hinj ho (wanted_of rfl (mk_yields d44 o87 (hdep ⟨44, .guard⟩ (Array.mem_of_getElem? (i := 0) rfl) rfl) (s104 87 (by decide)))) rfl o92 hlt (op_move rfl ((mk_base n2).trans av2)) hR
              · intro ho listed wv hlt hdep hR
                exact step_call hinj ho (wanted_of rfl (mk_yields d44 o87 (hdep ⟨44, .guard⟩ (Array.mem_of_getElem? (i := 3) rfl) rfl) (s104 87 (by decide)))) rfl o93 hlt (op_call rfl rfl (args2 (mk_dep o91 (hdep ⟨48, .data⟩ (Array.mem_of_getElem? (i := 0) rfl) rfl) (s104 91 (by decide))) (mk_dep o92 (hdep ⟨49, .data⟩ (Array.mem_of_getElem? (i := 1) rfl) rfl) (s104 92 (by decide)))) (enters_of Try.func16 (by kernel_rfl) rfl)) ((rreason_any hR.out.rs a2 _ _ Y4.out).mono fun e w' h => ⟨h.1, hid (hR.out.below h.2.out)⟩)
              · intro ho listed wv hlt hdep hR
                exact step_value hinj ho (wanted_of rfl (mk_yields d44 o87 (hdep ⟨44, .guard⟩ (Array.mem_of_getElem? (i := 2) rfl) rfl) (s104 87 (by decide)))) rfl o94 hlt (op_neq rfl (mk_dep o90 (hdep ⟨47, .data⟩ (Array.mem_of_getElem? (i := 0) rfl) rfl) (s104 90 (by decide))) (mk_dep o93 (hdep ⟨50, .data⟩ (Array.mem_of_getElem? (i := 1) rfl) rfl) (s104 93 (by decide)))) hR
              · intro ho listed wv hlt hdep hR
                exact step_value hinj ho (wanted_none rfl) rfl o95 hlt (op_pickF rfl (mk_dep o87 (hdep ⟨44, .data⟩ (Array.mem_of_getElem? (i := 0) rfl) rfl) (s104 87 (by decide))) (mk_dep o94 (hdep ⟨51, .data⟩ (Array.mem_of_getElem? (i := 1) rfl) rfl) (s104 94 (by decide)))) hR
            · intro wv hR
              go_wp2
              go_roundw
              case rel => exact ⟨q + 1, _, _, _, _, _, by omega, by go_num, hR⟩
              case measure => simp only [intOf]; omega
        · have hLL : L.length ≤ 1048576 := by have := hs.out.t.len; omega
          have HSM : Hid (sameF (litsF L) (litsF L) = true) := hid (by simp [sameF])
          obtain ⟨⟨x1, x2, x3⟩, -, -, -⟩ := hs.out.cells
          have S1 := hid (hs.out.below (below_drew wr))
          go_wp2
          go_region_with (first
            | (go_at_call 18; with_reducible (refine (lits_at S1.out.t rfl).mono ?_); rintro e w9 ⟨ao9, rfl, h9, rfl⟩)
            | (go_at_call 19; with_reducible (refine (rlits_any S1.out.rs _ _).mono ?_); rintro e w10 ⟨ao10, m10, c10, rfl, o10, b10⟩; have R10 := hid (Row.of (LRow.of_own o10.out)); have hm10 := lits_bound R10.out hLL)
            | (go_at_call 17; with_reducible (refine (same_any _ _ _ _ _ _ _ _ _ (h9.out.1.below b10.out) R10.out hLL hm10 HSM.out).mono ?_); rintro e w11 ⟨rfl, b11⟩)
            | (go_at_call 6; with_reducible (refine (awake_any _).mono ?_); rintro e w12 ⟨rfl, b12⟩))
          all_goals go_wp2
          all_goals go_ret
          all_goals exact ⟨rfl, Below.next (Below.next (Below.next S1.out.be b10.out) b11.out) b12.out⟩


set_option maxRecDepth 100000 in
theorem lifted (os : Os) (started : os.Started) (H : Type) (enc : TypeId × Value → H) :
    ReturnsInHanded {} Try.checked os 3 .any (Rows.trailPlaysSpec.pre6 enc Try.prog Try.f3 Rows.trailPlaysRow.domain false) (Rows.trailPlaysSpec.post enc Try.prog Try.f3 false true false false) := by
  refine returnsInHanded_of_change (C := Try.checked) own started (by kernel_rfl) Try.func3
    (ChangeSpec.witness6 (enc := enc) (C := Try.checked) false ⟨#[], #[.int .i64 0, .slice none 0 0, .int .i64 0], []⟩ 8 (by kernel_rfl) (by kernel_rfl) (by kernel_rfl) (by kernel_rfl)) ?_
  intro W base args ds gs before hval0 hW hcnd _
  have hval : ∀ (j : Nat) t v, Try.f3.params[j]? = some t → args[j]? = some v → Value.okWide Try.prog W .any base t v := hval0
  have hW' := hW
  obtain ⟨p, q, hA0, hV, rfl, hfz, hnd⟩ := hW
  have hA : DataW.TrodAll enc Try.prog W 0 (fun _ => true) true Try.f3.params.toList args.toList ds p := hA0
  rw [Try.params3] at hA hval
  obtain ⟨v0, vs0, d0, ds0, p0, q0, hargs, rfl, rfl, h0, r0⟩ := trodAll_cons hA
  obtain ⟨v1, vs1, d1, ds1, p1, q1, rfl, rfl, rfl, h1, r1⟩ := trodAll_cons r0
  obtain ⟨v2, vs2, d2, ds2, p2, q2, rfl, rfl, rfl, h2, r2⟩ := trodAll_cons r1
  obtain ⟨rfl, rfl, rfl⟩ := trodAll_nil r2
  obtain rfl : args = #[v0, v1, v2] := by cases args; simp_all
  obtain ⟨rfl, rfl⟩ := trodVars_none hV
  obtain ⟨a0, rfl, rfl, rfl, w0⟩ := open_int Try.underlying3 (hval 0 3 v0 rfl rfl) h0
  obtain ⟨a1, len1, cap1, rfl⟩ := okWide_slice Try.underlying22 (hval 1 22 v1 rfl rfl)
  have z1 := h1
  have lt1 : ∀ x ∈ p1, x.block < W.heap.size := by obtain ⟨m, hm⟩ := z1; exact DataW.trod_lt m _ _ _ hm
  obtain ⟨D1, w1⟩ : ∃ D, Deeds W a1 len1 D := by
    obtain ⟨fuel, hf⟩ := h1
    exact deeds_of hf
  obtain ⟨a2, rfl, rfl, rfl, w2⟩ := open_int Try.underlying3 (hval 2 3 v2 rfl rfl) h2
  clear hA0 hval0
  refine (walk a0 a1 len1 cap1 D1 a2 W w0 w1 w2).mono fun e W' ⟨he, bel⟩ => ?_
  subst he
  exact ⟨_, rfl, _, _, _, [], _, [], hW', trodAll_mk1 (shut_bool Try.underlying4 _), (trodAll_cons_mk (shut_int Try.underlying3 w0) (trodAll_cons_mk (Below.trod laidOut (by kernel_rfl) (of_decide_eq_true (by kernel_rfl)) z1 bel lt1) (trodAll_cons_mk (shut_int Try.underlying3 w2) trodAll_mk0))), rfl, bel.frame _, fun h => by cases h⟩

theorem over : Rows.trailPlaysRow.holds Try.pinned (OpenSpec.ofChange Rows.trailPlaysSpec) :=
  OpenClaim.holds_of_wide 3 Try.f3 rfl rfl rfl rfl rfl rfl rfl ⟨rfl, rfl, rfl, rfl, rfl⟩ rfl rfl rfl rfl rfl (by kernel_rfl) Try.func3 (by kernel_rfl)
    (of_decide_eq_true (by kernel_rfl)) (by unfold Func.isWrapper; first | (rw [if_pos (by decide +kernel)]; kernel_rfl) | (rw [if_neg (by decide +kernel)]; exact ⟨rfl, rfl⟩))
    (fun os started H enc _ => lifted os started H enc)

theorem proved : Rows.TrailPlaysSaid := over
#print axioms proved
end Go.Proofs.Ytimpoagdidnpiaa.trailPlays
