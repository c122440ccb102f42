/-
  What was assigned above a level is gone behind Back, and all else as it was; each variable is assigned once at most; levels never fall along the trail.
-/
import Derived.Test.YtimpoagdidnpiaaRows
import Derived.Test.YtimpoagdidnpiaaFrame
import Derived.WalkKit
import Derived.ProofKit
import Derived.OpenShut
import Derived.ShutString
import Derived.ChangeOld
import Derived.Below
import Derived.Test.YtimpoagdidnpiaaGone
import Derived.RangeFuncLeaves
namespace Go.Proofs.Ytimpoagdidnpiaa.trailBack
open Go.ChangeShapes Go.WideShapes Go.ChangeAt Go.RowKit
open Go.ChangeMaps (open_string shut_string)
set_option linter.unusedVariables false

theorem own : ownKnob Try.prog.godebug = none := by kernel_rfl
theorem laidOut : laidOutB Try.prog = true := by kernel_rfl

set_option maxRecDepth 20000 in
set_option maxHeartbeats 4000000 in
theorem walk (a0 : Int) (a1 : Option Addr) (len1 cap1 : Nat) (D1 : Nat → Dd) (a2 : Int) (w : World) (w0 : (Lit.int .i64 a0).wf = true) (w1 : Deeds w a1 len1 D1) (w2 : (Lit.int .i64 a2).wf = true) :
    Calls Try.prog 4 #[.int .i64 a0, .slice a1 len1 cap1, .int .i64 a2] w fun e w' => e = .returned (.bool true) ∧ Below w.heap.size w w' := by
  have HD := hid w1
  clear w0 w1
  by_cases h1 : 120 < len1
  · have h1' : (120 : Int) < len1 := by omega
    go_enter Try.func4, Try.ntmps4
    go_wp2_with (go_at_call 6; with_reducible (refine (awake_any _).mono ?_); rintro e w1 ⟨rfl, b1⟩)
    go_ret
    exact ⟨rfl, b1.out⟩
  · have h1' : decide ((120 : Int) < len1) = false := by simp; omega
    by_cases h2 : 1000 < a0
    · go_enter Try.func4, Try.ntmps4
      go_wp2_with (go_at_call 6; with_reducible (refine (awake_any _).mono ?_); rintro e w1 ⟨rfl, b1⟩)
      go_ret
      exact ⟨rfl, b1.out⟩
    · have hcn := cntF_le a0
      go_enter Try.func4, Try.ntmps4
      go_wp2_with (go_at_call 7; with_reducible (refine (new_is a0 _).mono ?_); rintro e w1 ⟨k, rfl, o1, hn, hB, b1⟩)
      have S0 : Hid (Fd k w [] 0 noV w1) := hid ⟨o1.out, b1.out, hB.out⟩
      go_loopw [8] (fun i wr => ∃ (q : Nat) (L : List E) (lev : Nat) (p : V), q ≤ len1 ∧ i = .int .i64 q ∧ Hid (Fd k w L lev p wr)) (fun i _ => len1 - (intOf i).toNat)
      case atStart => exact ⟨0, _, _, _, Nat.zero_le _, rfl, S0⟩
      case round =>
        clear S0 o1 hB b1
        obtain ⟨q, L, lev, p, hq, rfl, hs⟩ := hrel
        by_cases hlt : q < len1
        · have hlt' : (q : Int) < len1 := by omega
          obtain ⟨db, off, rfl, e0, e1, e2, e9⟩ := (HD.out.below hs.out.be).at hlt
          go_wp2
          go_region_with (first
            | (go_at_call 8; with_reducible (refine (rnew_any a0 _).mono ?_); rintro e w2 ⟨rfl, r2⟩; have b2 := hid (Below.next (below_drew wr) r2.out); have q2 := (b2.out.cell (cell_lt e0)).trans e0; have q3 := (b2.out.cell (cell_lt e1)).trans e1; have q4 := (b2.out.cell (cell_lt e2)).trans e2)
            | (go_at_call 9; with_reducible (refine (do_fresh (hs.out.below b2.out) _ hcn _ _ _ e9).mono ?_); rintro e w5 ⟨ao5, m5, c5, v5, x5, L5, lev5, p5, rfl, h5⟩))
          all_goals go_wp2
          all_goals go_roundw
          all_goals first
            | exact ⟨q + 1, _, _, _, by omega, by go_num, h5⟩
            | (simp only [intOf]; omega)
        · obtain ⟨M, hM⟩ : ∃ M : Nat, L.length = M := ⟨_, rfl⟩
          have HM := hid hM
          have hMM : M ≤ 1048576 := by have := hs.out.t.len; omega
          have hlM : lev ≤ M := by have := hs.out.t.len; omega
          clear hM HD
          go_wp2_with (go_at_call 18; with_reducible (refine (lits_at hs.out.t HM.out).mono ?_); rintro e wr ⟨ao, rfl, hr, rfl⟩)
          have R0 : Hid (Row wr ao M (litsF L)) := hid hr.out.1
          have OB := hid hr.out.2
          clear hr
          go_loopw [10, 11, 12] (fun last keep i wq => ∃ (q : Nat) (z : Nat), q ≤ M ∧ last = .int .i64 z ∧ keep = .int .i64 (cntK L a2 q) ∧ i = .int .i64 q ∧ Hid (∀ (j : Nat) (e : E), q ≤ j → L[j]? = some e → z ≤ e.g) ∧ Hid (Below wr.heap.size wr wq)) (fun _ _ i _ => M - (intOf i).toNat)
          case atStart => exact ⟨0, 0, Nat.zero_le _, rfl, rfl, rfl, hid (fun _ _ _ _ => Nat.zero_le _), hid (Below.refl _ _)⟩
          case round =>
            obtain ⟨q2, z, hq2, rfl, rfl, rfl, hz, hb⟩ := hrel
            have F2 := hid (hs.out.below hb.out)
            have R2 := hid (R0.out.below hb.out)
            by_cases hlt2 : q2 < M
            · have hlt2' : (q2 : Int) < M := by omega
              obtain ⟨e, he⟩ : ∃ e, L[q2]? = some e := ⟨_, List.getElem?_eq_getElem (by rw [HM.out]; exact hlt2)⟩
              obtain ⟨bb, rfl, cb⟩ := R2.out.2 q2 (e.l : Int) (by simp [litsF, he])
              obtain ⟨t1, t2, t3, t4, t5⟩ := F2.out.t.one he
              have hze := hz.out q2 e (Nat.le_refl _) he
              have HZ2 : Hid (∀ (j : Nat) (e' : E), q2 + 1 ≤ j → L[j]? = some e' → e.g ≤ e'.g) := hid (fun j e' hj he' => F2.out.t.mono he he' (by omega))
              have HE := hid he
              obtain ⟨m, hm⟩ : ∃ m : Nat, e.l = m := ⟨_, rfl⟩
              obtain ⟨g, hg⟩ : ∃ g : Nat, e.g = g := ⟨_, rfl⟩
              rw [hm] at cb t1 t2 t3 t5
              rw [hg] at t1 t4 hze
              have T1 := hid t1
              have T2 := hid t2
              have T3 := hid t3
              have HG := hid hg
              clear t1 t2 t3 he hm hg
              have hm0 : ¬ ((m : Int) < 0) := by omega
              have hmd : decide ((m : Int) < 0) = false := by simp
              have hgz : decide (g < z) = false := by simp; omega
              have hgl : decide (lev < g) = false := by simp; omega
              have hmu : (m : Int) ≤ 9223372036854775807 := by omega
              obtain ⟨x, hx, X1, hxu⟩ := other t5 T3.out
              obtain ⟨c, hc⟩ : ∃ c : Nat, cntK L a2 q2 = c := ⟨_, rfl⟩
              have hcb : c ≤ 1048576 := by have := cnt_le L a2 q2; omega
              have HC := hid hc
              rw [hc]
              clear hc T3
              by_cases hgk : (g : Int) ≤ a2
              · have HN : Hid (cntK L a2 (q2 + 1) = c + 1) := hid (by rw [cnt_yes HE.out (by rw [HG.out]; exact hgk), HC.out])
                go_wp2_with (first
                  | (go_at_call 13; with_reducible (refine (level_is F2.out.t _ T1.out).mono ?_); rintro e wq ⟨rfl, rfl⟩)
                  | (go_at_call 10; with_reducible (refine (levels_is F2.out.t).mono ?_); rintro e wq ⟨rfl, rfl⟩)
                  | (go_at_call 11; with_reducible (refine (value_is F2.out.t (m : Int) hmu T2.out).mono ?_); rintro e w5 ⟨rfl, b5⟩; have f5 := hid (F2.out.below b5.out); have cb5 := (b5.out.cell (cell_lt cb)).trans cb)
                  | (go_at_call 11; with_reducible (refine (value_is f5.out.t (x : Int) hxu X1.out).mono ?_); rintro e w6 ⟨rfl, b6⟩))
                go_roundw
                case rel => exact ⟨q2 + 1, g, by omega, rfl, by rw [HN.out]; go_num, by go_num, hid (by rw [← HG.out]; exact HZ2.out), hid (hb.out.trans ((Below.next b5.out b6.out).mono hb.out.size))⟩
                case measure => simp only [intOf]; omega
              · have HN : Hid (cntK L a2 (q2 + 1) = c) := hid (by rw [cnt_no HE.out (by rw [HG.out]; exact hgk), HC.out])
                go_wp2_with (first
                  | (go_at_call 13; with_reducible (refine (level_is F2.out.t _ T1.out).mono ?_); rintro e wq ⟨rfl, rfl⟩)
                  | (go_at_call 10; with_reducible (refine (levels_is F2.out.t).mono ?_); rintro e wq ⟨rfl, rfl⟩)
                  | (go_at_call 11; with_reducible (refine (value_is F2.out.t (m : Int) hmu T2.out).mono ?_); rintro e w5 ⟨rfl, b5⟩; have f5 := hid (F2.out.below b5.out); have cb5 := (b5.out.cell (cell_lt cb)).trans cb)
                  | (go_at_call 11; with_reducible (refine (value_is f5.out.t (x : Int) hxu X1.out).mono ?_); rintro e w6 ⟨rfl, b6⟩))
                go_roundw
                case rel => exact ⟨q2 + 1, g, by omega, rfl, by rw [HN.out], by go_num, hid (by rw [← HG.out]; exact HZ2.out), hid (hb.out.trans ((Below.next b5.out b6.out).mono hb.out.size))⟩
                case measure => simp only [intOf]; omega
            · obtain rfl : q2 = M := by omega
              cases hok : backOk lev a2
              · obtain ⟨k1, k2, k3⟩ := back_no (L := L) hok
                have K1 := hid k1
                have K2 := hid k2
                have K3 := hid k3
                have KS : Hid (sameF (litsF L) (litsF L) = true) := hid (by simp [sameF])
                clear k1 k2 k3
                by_cases hneg : a2 < 0
                · clear hok
                  go_wp2_with (first
                    | (go_at_call 20; with_reducible (refine (back_at F2.out.t a2 K1.out K2.out K3.out rfl).mono ?_); rintro e w8 ⟨ao8, c8, p8, rfl, r8, t8, l8, fr8⟩; have f8 := hid (F2.out.step t8.out fr8.out); have R8 := hid (F2.out.t.told R2.out OB.out l8.out))
                    | (go_at_call 18; with_reducible (refine (lits_at f8.out.t HM.out).mono ?_); rintro e w9 ⟨ao9, rfl, h9, rfl⟩; have f9 := f8)
                    | (go_at_call 17; with_reducible (refine (same_any _ _ _ _ _ _ _ _ _ h9.out.1 R8.out hMM hMM KS.out).mono ?_); rintro e w10 ⟨rfl, b10⟩)
                    | (go_at_call 6; with_reducible (refine (awake_any _).mono ?_); rintro e w11 ⟨rfl, b11⟩))
                  go_ret
                  exact ⟨rfl, Below.next (Below.next f8.out.be b10.out) b11.out⟩
                · have hge : (lev : Int) ≤ a2 := by simp [backOk] at hok; omega
                  clear hok
                  go_wp2_with (first
                    | (go_at_call 10; with_reducible (refine (levels_is F2.out.t).mono ?_); rintro e wq ⟨rfl, rfl⟩)
                    | (go_at_call 20; with_reducible (refine (back_at F2.out.t a2 K1.out K2.out K3.out rfl).mono ?_); rintro e w8 ⟨ao8, c8, p8, rfl, r8, t8, l8, fr8⟩; have f8 := hid (F2.out.step t8.out fr8.out); have R8 := hid (F2.out.t.told R2.out OB.out l8.out))
                    | (go_at_call 18; with_reducible (refine (lits_at f8.out.t HM.out).mono ?_); rintro e w9 ⟨ao9, rfl, h9, rfl⟩; have f9 := f8)
                    | (go_at_call 17; with_reducible (refine (same_any _ _ _ _ _ _ _ _ _ h9.out.1 R8.out hMM hMM KS.out).mono ?_); rintro e w10 ⟨rfl, b10⟩)
                    | (go_at_call 6; with_reducible (refine (awake_any _).mono ?_); rintro e w11 ⟨rfl, b11⟩))
                  go_ret
                  exact ⟨rfl, Below.next (Below.next f8.out.be b10.out) b11.out⟩
              · obtain ⟨i, rfl, hi⟩ := backOk_yes hok
                obtain ⟨s, s1, s2, s3, s4, s5⟩ := F2.out.t.part hi
                rw [HM.out] at s1 s4 s5
                rw [s5]
                obtain ⟨d, rfl⟩ : ∃ d, q2 = s + d := ⟨q2 - s, by omega⟩
                obtain ⟨bb, rfl⟩ : ∃ b, ao = some ⟨b, 0, none⟩ := by
                  obtain ⟨b, e, _⟩ := R2.out.2 0 ((litsF L)[0]'(by rw [litsF_len, HM.out]; omega)) (List.getElem?_eq_getElem _)
                  exact ⟨b, e⟩
                have B1 := hid s2
                have B2 := hid s3
                have BG : Hid ((backG L lev i).length = d) := hid (by rw [s4]; omega)
                have LS : Hid ((L.take s).length = s) := hid (by rw [List.length_take, HM.out]; omega)
                have KS : Hid (sameF (litsF (L.take s)) ((litsF L).take s) = true) := hid (by simp [sameF, litsF, List.map_take])
                have hi' : ¬ ((lev : Int) ≤ i) := by omega
                have hid' : decide (lev ≤ i) = false := by simp; omega
                have hi0 : ¬ ((i : Int) < 0) := by omega
                have hsm : s ≤ 1048576 := by omega
                have hsd : (s : Int) ≤ ((s + d : Nat) : Int) := by omega
                clear hok s2 s3 s4 s5
                go_wp2_with (first
                  | (go_at_call 10; with_reducible (refine (levels_is F2.out.t).mono ?_); rintro e wq ⟨rfl, rfl⟩)
                  | (go_at_call 20; with_reducible (refine (back_at F2.out.t i B1.out B2.out rfl BG.out).mono ?_); rintro e w8 ⟨ao8, c8, p8, rfl, r8, t8, l8, fr8⟩; have f8 := hid (F2.out.step t8.out fr8.out); have R8 := hid (F2.out.t.told R2.out OB.out l8.out)))
                have f9 := hid (f8.out.below (below_drew w8))
                have R9 := hid ((R8.out.below (below_drew w8)).take (m := s) (by omega))
                clear hz hs R0 R2 OB HM r8 t8 l8 fr8 B1 B2 BG
                obtain ⟨vals, hvals⟩ : ∃ vals : List Value, vals = [.slice ao8 d c8, .int .i64 d, .slice (some ⟨bb, 0, none⟩) (s + d) (s + d), .int .i64 ((s + d : Nat) : Int), .int .i64 s, .int .i64 d, .bool true, .bool true, .pointer (some ⟨k.OB, 0, none⟩), .slice (litA p8) s s, .slice (some ⟨bb, 0, none⟩) (s + d) (s + d), .int .i64 s, .slice (some ⟨bb, 0, none⟩) s (s + d), .bool true, .bool true, .bool true, .pointer (some ⟨k.OB, 0, none⟩), .int .i64 i, .int .i64 i, .bool true, .bool true, .bool true, .bool true, .bool true] := ⟨_, rfl⟩
                have hinj := ownTwo_inj 122 vals 6 (.bool true)
                have o122 : ownTwo 122 vals 6 (.bool true) 122 = some (0, .slice ao8 d c8) := by rw [hvals]; rfl
                have o123 : ownTwo 122 vals 6 (.bool true) 123 = some (1, .int .i64 d) := by rw [hvals]; rfl
                have o124 : ownTwo 122 vals 6 (.bool true) 124 = some (2, .slice (some ⟨bb, 0, none⟩) (s + d) (s + d)) := by rw [hvals]; rfl
                have o125 : ownTwo 122 vals 6 (.bool true) 125 = some (3, .int .i64 ((s + d : Nat) : Int)) := by rw [hvals]; rfl
                have o126 : ownTwo 122 vals 6 (.bool true) 126 = some (4, .int .i64 s) := by rw [hvals]; rfl
                have o127 : ownTwo 122 vals 6 (.bool true) 127 = some (5, .int .i64 d) := by rw [hvals]; rfl
                have o128 : ownTwo 122 vals 6 (.bool true) 128 = some (6, .bool true) := by rw [hvals]; rfl
                have o129 : ownTwo 122 vals 6 (.bool true) 129 = some (7, .bool true) := by rw [hvals]; rfl
                have o130 : ownTwo 122 vals 6 (.bool true) 130 = some (8, .pointer (some ⟨k.OB, 0, none⟩)) := by rw [hvals]; rfl
                have o131 : ownTwo 122 vals 6 (.bool true) 131 = some (9, .slice (litA p8) s s) := by rw [hvals]; rfl
                have o132 : ownTwo 122 vals 6 (.bool true) 132 = some (10, .slice (some ⟨bb, 0, none⟩) (s + d) (s + d)) := by rw [hvals]; rfl
                have o133 : ownTwo 122 vals 6 (.bool true) 133 = some (11, .int .i64 s) := by rw [hvals]; rfl
                have o134 : ownTwo 122 vals 6 (.bool true) 134 = some (12, .slice (some ⟨bb, 0, none⟩) s (s + d)) := by rw [hvals]; rfl
                have o135 : ownTwo 122 vals 6 (.bool true) 135 = some (13, .bool true) := by rw [hvals]; rfl
                have o136 : ownTwo 122 vals 6 (.bool true) 136 = some (14, .bool true) := by rw [hvals]; rfl
                have o137 : ownTwo 122 vals 6 (.bool true) 137 = some (15, .bool true) := by rw [hvals]; rfl
                have o138 : ownTwo 122 vals 6 (.bool true) 138 = some (16, .pointer (some ⟨k.OB, 0, none⟩)) := by rw [hvals]; rfl
                have o139 : ownTwo 122 vals 6 (.bool true) 139 = some (17, .int .i64 i) := by rw [hvals]; rfl
                have o140 : ownTwo 122 vals 6 (.bool true) 140 = some (18, .int .i64 i) := by rw [hvals]; rfl
                have o141 : ownTwo 122 vals 6 (.bool true) 141 = some (19, .bool true) := by rw [hvals]; rfl
                have o142 : ownTwo 122 vals 6 (.bool true) 142 = some (20, .bool true) := by rw [hvals]; rfl
                have o143 : ownTwo 122 vals 6 (.bool true) 143 = some (21, .bool true) := by rw [hvals]; rfl
                have o144 : ownTwo 122 vals 6 (.bool true) 144 = some (22, .bool true) := by rw [hvals]; rfl
                have o145 : ownTwo 122 vals 6 (.bool true) 145 = some (23, .bool true) := by rw [hvals]; rfl
                have o6 : ownTwo 122 vals 6 (.bool true) 6 = some (24, .bool true) := by rw [hvals]; rfl
                have n2 : ownTwo 122 vals 6 (.bool true) 2 = none := by rw [hvals]; rfl
                have n7 : ownTwo 122 vals 6 (.bool true) 7 = none := by rw [hvals]; rfl
                have n9 : ownTwo 122 vals 6 (.bool true) 9 = none := by rw [hvals]; rfl
                have n11 : ownTwo 122 vals 6 (.bool true) 11 = none := by rw [hvals]; rfl
                have n14 : ownTwo 122 vals 6 (.bool true) 14 = none := by rw [hvals]; rfl
                have TR : ∀ wv, Trl k wv (L.take s) i p8 → Row wv (litA p8) s (litsF (L.take s)) := fun wv h => by
                  have := h.row
                  rw [LS.out] at this
                  exact this
                refine region_by (fun w' => Hid (Fd k w (L.take s) i p8 w' ∧ Row w' (some ⟨bb, 0, none⟩) s ((litsF L).take s))) (by kernel_rfl) (by kernel_rfl) (ownTwo 122 vals 6 (.bool true)) { tmps := #[.int .i64 a0, .slice a1 len1 cap1, .int .i64 i, undef, undef, undef, .bool true, .pointer (some ⟨k.OB, 0, none⟩), .int .i64 q, .slice (some ⟨bb, 0, none⟩) (s + d) (s + d), .int .i64 z, .int .i64 s, .int .i64 ((s : Int) + d), u13, .slice ao8 d c8, .slice a1 len1 cap1, .int .i64 len1, .bool false, .bool false, .int .i64 a0, .bool false, .bool false, undef, .int .i64 a0, .pointer (some ⟨k.OB, 0, none⟩), .pointer (some ⟨k.OB, 0, none⟩), .bool false, .int .i64 q, .slice a1 len1 cap1, .int .i64 len1, .bool false, u31, u32, u33, u34, u35, u36, u37, u38, u39, u40, .pointer (some ⟨k.OB, 0, none⟩), .slice (some ⟨bb, 0, none⟩) (s + d) (s + d), .int .i64 ((s : Int) + d), .slice (some ⟨bb, 0, none⟩) (s + d) (s + d), .int .i64 ((s : Int) + d), .bool false, u47, u48, u49, u50, u51, u52, u53, u54, u55, u56, u57, u58, u59, u60, u61, u62, u63, u64, u65, u66, u67, u68, u69, u70, u71, u72, u73, u74, u75, u76, u77, u78, u79, u80, u81, u82, u83, u84, u85, u86, u87, u88, u89, u90, u91, u92, u93, u94, u95, u96, .int .i64 i, .bool false, .bool false, .int .i64 i, .pointer (some ⟨k.OB, 0, none⟩), .int .i64 lev, .bool false, .bool false, undef, undef, undef, undef, undef, undef, undef, undef, undef, undef, undef, undef, undef, undef, .pointer (some ⟨k.OB, 0, none⟩), .int .i64 i, .slice ao8 d c8, .slice ao8 d c8, .int .i64 d, .slice (some ⟨bb, 0, none⟩) (s + d) (s + d), .int .i64 ((s + d : Nat) : Int), .int .i64 s, .int .i64 d, .bool true, .bool true, .pointer (some ⟨k.OB, 0, none⟩), .slice (litA p8) s s, .slice (some ⟨bb, 0, none⟩) (s + d) (s + d), .int .i64 s, .slice (some ⟨bb, 0, none⟩) s (s + d), .bool true, .bool true, .bool true, .pointer (some ⟨k.OB, 0, none⟩), .int .i64 i, .int .i64 i, .bool true, .bool true, .bool true, .bool true, .bool true], defers := [] } (by rw [hvals]; kernel_rfl) (hid ⟨f9.out, R9.out⟩) ?_ ?_
                · intro ops Q' A hops hA
                  have s104 : ∀ s, s < 146 → s < A.tmps.size := fun s h => by rw [hA]; exact h
                  have av2 : A.eval (.tmp 2) = .int .i64 i := by rw [hA]; rfl
                  have av7 : A.eval (.tmp 7) = .pointer (some ⟨k.OB, 0, none⟩) := by rw [hA]; rfl
                  have av9 : A.eval (.tmp 9) = .slice (some ⟨bb, 0, none⟩) (s + d) (s + d) := by rw [hA]; rfl
                  have av11 : A.eval (.tmp 11) = .int .i64 s := by rw [hA]; rfl
                  have av14 : A.eval (.tmp 14) = .slice ao8 d c8 := by rw [hA]; rfl
                  have d7 : (ops[7]?).bind (·.dst) = some 129 := by rw [hops 7 _ rfl]; rfl
                  have d15 : (ops[15]?).bind (·.dst) = some 137 := by rw [hops 15 _ rfl]; rfl
                  have d21 : (ops[21]?).bind (·.dst) = some 143 := by rw [hops 21 _ rfl]; rfl
                  clear hA hops
                  refine (AllFrom.cons (m := 1) rfl ?_ (AllFrom.cons (m := 2) rfl ?_ (AllFrom.cons (m := 3) rfl ?_ (AllFrom.cons (m := 4) rfl ?_ (AllFrom.cons (m := 5) rfl ?_ (AllFrom.cons (m := 6) rfl ?_ (AllFrom.cons (m := 7) rfl ?_ (AllFrom.cons (m := 8) rfl ?_ (AllFrom.cons (m := 9) rfl ?_ (AllFrom.cons (m := 10) rfl ?_ (AllFrom.cons (m := 11) rfl ?_ (AllFrom.cons (m := 12) rfl ?_ (AllFrom.cons (m := 13) rfl ?_ (AllFrom.cons (m := 14) rfl ?_ (AllFrom.cons (m := 15) rfl ?_ (AllFrom.cons (m := 16) rfl ?_ (AllFrom.cons (m := 17) rfl ?_ (AllFrom.cons (m := 18) rfl ?_ (AllFrom.cons (m := 19) rfl ?_ (AllFrom.cons (m := 20) rfl ?_ (AllFrom.cons (m := 21) rfl ?_ (AllFrom.cons (m := 22) rfl ?_ (AllFrom.cons (m := 23) rfl ?_ (AllFrom.cons (m := 24) rfl ?_ (AllFrom.cons (m := 25) rfl ?_ AllFrom.nil)))))))))))))))))))))))))
                  · intro ho listed wv hlt hdep hR
                    exact step_value hinj ho (wanted_none rfl) rfl o122 hlt (op_move rfl ((mk_base n14).trans av14)) hR
                  · intro ho listed wv hlt hdep hR
                    exact step_value hinj ho (wanted_none rfl) rfl o123 hlt (op_len38 rfl (mk_dep o122 (hdep ⟨0, .data⟩ (Array.mem_of_getElem? (i := 0) rfl) rfl) (s104 122 (by decide)))) hR
                  · intro ho listed wv hlt hdep hR
                    exact step_value hinj ho (wanted_none rfl) rfl o124 hlt (op_move rfl ((mk_base n9).trans av9)) hR
                  · intro ho listed wv hlt hdep hR
                    exact step_value hinj ho (wanted_none rfl) rfl o125 hlt (op_len38 rfl (mk_dep o124 (hdep ⟨2, .data⟩ (Array.mem_of_getElem? (i := 0) rfl) rfl) (s104 124 (by decide)))) hR
                  · intro ho listed wv hlt hdep hR
                    exact step_value hinj ho (wanted_none rfl) rfl o126 hlt (op_move rfl ((mk_base n11).trans av11)) hR
                  · intro ho listed wv hlt hdep hR
                    exact step_value hinj ho (wanted_none rfl) rfl o127 hlt (op_sub rfl (mk_dep o125 (hdep ⟨3, .data⟩ (Array.mem_of_getElem? (i := 0) rfl) rfl) (s104 125 (by decide))) (mk_dep o126 (hdep ⟨4, .data⟩ (Array.mem_of_getElem? (i := 1) rfl) rfl) (s104 126 (by decide))) (by omega) (by omega) (by omega)) hR
                  · intro ho listed wv hlt hdep hR
                    exact step_value hinj ho (wanted_none rfl) rfl o128 hlt (op_eql rfl (mk_dep o123 (hdep ⟨1, .data⟩ (Array.mem_of_getElem? (i := 0) rfl) rfl) (s104 123 (by decide))) (mk_dep o127 (hdep ⟨5, .data⟩ (Array.mem_of_getElem? (i := 1) rfl) rfl) (s104 127 (by decide))) (by simp)) hR
                  · intro ho listed wv hlt hdep hR
                    exact step_value hinj ho (wanted_none rfl) rfl o129 hlt (op_move rfl (mk_dep o128 (hdep ⟨6, .data⟩ (Array.mem_of_getElem? (i := 0) rfl) rfl) (s104 128 (by decide)))) hR
                  · intro ho listed wv hlt hdep hR
                    exact step_value hinj ho (wanted_of rfl (mk_yields d7 o129 (hdep ⟨7, .guard⟩ (Array.mem_of_getElem? (i := 0) rfl) rfl) (s104 129 (by decide)))) rfl o130 hlt (op_move rfl ((mk_base n7).trans av7)) hR
                  · intro ho listed wv hlt hdep hR
                    exact step_call hinj ho (wanted_of rfl (mk_yields d7 o129 (hdep ⟨7, .chain⟩ (Array.mem_of_getElem? (i := 1) rfl) rfl) (s104 129 (by decide)))) rfl o131 hlt (op_call rfl rfl (args1 (mk_dep o130 (hdep ⟨8, .data⟩ (Array.mem_of_getElem? (i := 0) rfl) rfl) (s104 130 (by decide)))) (enters_of Try.func18 (by kernel_rfl) rfl)) ((lits_det hR.out.1.t LS.out).mono fun e w' h => ⟨h.1, h.2 ▸ hR⟩)
                  · intro ho listed wv hlt hdep hR
                    exact step_value hinj ho (wanted_of rfl (mk_yields d7 o129 (hdep ⟨7, .guard⟩ (Array.mem_of_getElem? (i := 0) rfl) rfl) (s104 129 (by decide)))) rfl o132 hlt (op_move rfl ((mk_base n9).trans av9)) hR
                  · intro ho listed wv hlt hdep hR
                    exact step_value hinj ho (wanted_of rfl (mk_yields d7 o129 (hdep ⟨7, .guard⟩ (Array.mem_of_getElem? (i := 0) rfl) rfl) (s104 129 (by decide)))) rfl o133 hlt (op_move rfl ((mk_base n11).trans av11)) hR
                  · intro ho listed wv hlt hdep hR
                    exact step_value hinj ho (wanted_of rfl (mk_yields d7 o129 (hdep ⟨7, .guard⟩ (Array.mem_of_getElem? (i := 2) rfl) rfl) (s104 129 (by decide)))) rfl o134 hlt (op_slice38 rfl (mk_dep o132 (hdep ⟨10, .data⟩ (Array.mem_of_getElem? (i := 0) rfl) rfl) (s104 132 (by decide))) (mk_dep o133 (hdep ⟨11, .data⟩ (Array.mem_of_getElem? (i := 1) rfl) rfl) (s104 133 (by decide))) (by omega)) hR
                  · intro ho listed wv hlt hdep hR
                    exact step_call hinj ho (wanted_of rfl (mk_yields d7 o129 (hdep ⟨7, .guard⟩ (Array.mem_of_getElem? (i := 3) rfl) rfl) (s104 129 (by decide)))) rfl o135 hlt (op_call rfl rfl (args2 (mk_dep o131 (hdep ⟨9, .data⟩ (Array.mem_of_getElem? (i := 0) rfl) rfl) (s104 131 (by decide))) (mk_dep o134 (hdep ⟨12, .data⟩ (Array.mem_of_getElem? (i := 1) rfl) rfl) (s104 134 (by decide)))) (enters_of Try.func17 (by kernel_rfl) rfl)) ((same_any _ _ _ _ _ _ _ _ _ (TR _ hR.out.1.t) hR.out.2 hsm hsm KS.out).mono fun e w' h => ⟨h.1, hid ⟨hR.out.1.below h.2.out, hR.out.2.below h.2.out⟩⟩)
                  · intro ho listed wv hlt hdep hR
                    exact step_value hinj ho (wanted_none rfl) rfl o136 hlt (op_pickT rfl (mk_dep o129 (hdep ⟨7, .data⟩ (Array.mem_of_getElem? (i := 0) rfl) rfl) (s104 129 (by decide))) (mk_dep o135 (hdep ⟨13, .data⟩ (Array.mem_of_getElem? (i := 1) rfl) rfl) (s104 135 (by decide)))) hR
                  · intro ho listed wv hlt hdep hR
                    exact step_value hinj ho (wanted_none rfl) rfl o137 hlt (op_move rfl (mk_dep o136 (hdep ⟨14, .data⟩ (Array.mem_of_getElem? (i := 0) rfl) rfl) (s104 136 (by decide)))) hR
                  · intro ho listed wv hlt hdep hR
                    exact step_value hinj ho (wanted_of rfl (mk_yields d15 o137 (hdep ⟨15, .guard⟩ (Array.mem_of_getElem? (i := 0) rfl) rfl) (s104 137 (by decide)))) rfl o138 hlt (op_move rfl ((mk_base n7).trans av7)) hR
                  · intro ho listed wv hlt hdep hR
                    exact step_call hinj ho (wanted_of rfl (mk_yields d15 o137 (hdep ⟨15, .chain⟩ (Array.mem_of_getElem? (i := 1) rfl) rfl) (s104 137 (by decide)))) rfl o139 hlt (op_call rfl rfl (args1 (mk_dep o138 (hdep ⟨16, .data⟩ (Array.mem_of_getElem? (i := 0) rfl) rfl) (s104 138 (by decide)))) (enters_of Try.func10 (by kernel_rfl) rfl)) ((levels_is hR.out.1.t).mono fun e w' h => ⟨h.1, h.2 ▸ hR⟩)
                  · intro ho listed wv hlt hdep hR
                    exact step_value hinj ho (wanted_of rfl (mk_yields d15 o137 (hdep ⟨15, .guard⟩ (Array.mem_of_getElem? (i := 0) rfl) rfl) (s104 137 (by decide)))) rfl o140 hlt (op_move rfl ((mk_base n2).trans av2)) hR
                  · intro ho listed wv hlt hdep hR
                    exact step_value hinj ho (wanted_of rfl (mk_yields d15 o137 (hdep ⟨15, .guard⟩ (Array.mem_of_getElem? (i := 2) rfl) rfl) (s104 137 (by decide)))) rfl o141 hlt (op_eql rfl (mk_dep o139 (hdep ⟨17, .data⟩ (Array.mem_of_getElem? (i := 0) rfl) rfl) (s104 139 (by decide))) (mk_dep o140 (hdep ⟨18, .data⟩ (Array.mem_of_getElem? (i := 1) rfl) rfl) (s104 140 (by decide))) (by simp)) hR
                  · intro ho listed wv hlt hdep hR
                    exact step_value hinj ho (wanted_none rfl) rfl o142 hlt (op_pickT rfl (mk_dep o137 (hdep ⟨15, .data⟩ (Array.mem_of_getElem? (i := 0) rfl) rfl) (s104 137 (by decide))) (mk_dep o141 (hdep ⟨19, .data⟩ (Array.mem_of_getElem? (i := 1) rfl) rfl) (s104 141 (by decide)))) hR
                  · intro ho listed wv hlt hdep hR
                    exact step_value hinj ho (wanted_none rfl) rfl o143 hlt (op_move rfl (mk_dep o142 (hdep ⟨20, .data⟩ (Array.mem_of_getElem? (i := 0) rfl) rfl) (s104 142 (by decide)))) hR
                  · intro ho listed wv hlt hdep hR
                    exact step_call hinj ho (wanted_of rfl (mk_yields d21 o143 (hdep ⟨21, .chain⟩ (Array.mem_of_getElem? (i := 0) rfl) rfl) (s104 143 (by decide)))) rfl o144 hlt (op_call rfl rfl args0 (enters_of Try.func6 (by kernel_rfl) rfl)) ((awake_any _).mono fun e w' h => ⟨h.1, hid ⟨hR.out.1.below h.2.out, hR.out.2.below h.2.out⟩⟩)
                  · intro ho listed wv hlt hdep hR
                    exact step_value hinj ho (wanted_none rfl) rfl o145 hlt (op_pickT rfl (mk_dep o143 (hdep ⟨21, .data⟩ (Array.mem_of_getElem? (i := 0) rfl) rfl) (s104 143 (by decide))) (mk_dep o144 (hdep ⟨22, .data⟩ (Array.mem_of_getElem? (i := 1) rfl) rfl) (s104 144 (by decide)))) hR
                  · intro ho listed wv hlt hdep hR
                    exact step_value hinj ho (wanted_none rfl) rfl o6 hlt (op_assign rfl (mk_dep o145 (hdep ⟨23, .data⟩ (Array.mem_of_getElem? (i := 0) rfl) rfl) (s104 145 (by decide)))) hR
                · intro wv hR
                  go_wp2
                  go_ret
                  exact ⟨rfl, hR.out.1.be⟩


set_option maxRecDepth 100000 in
theorem lifted (os : Os) (started : os.Started) (H : Type) (enc : TypeId × Value → H) :
    ReturnsInHanded {} Try.checked os 4 .any (Rows.trailBackSpec.pre6 enc Try.prog Try.f4 Rows.trailBackRow.domain false) (Rows.trailBackSpec.post enc Try.prog Try.f4 false true false false) := by
  refine returnsInHanded_of_change (C := Try.checked) own started (by kernel_rfl) Try.func4
    (ChangeSpec.witness6 (enc := enc) (C := Try.checked) false ⟨#[], #[.int .i64 0, .slice none 0 0, .int .i64 0], []⟩ 8 (by kernel_rfl) (by kernel_rfl) (by kernel_rfl) (by kernel_rfl)) ?_
  intro W base args ds gs before hval0 hW hcnd _
  have hval : ∀ (j : Nat) t v, Try.f4.params[j]? = some t → args[j]? = some v → Value.okWide Try.prog W .any base t v := hval0
  have hW' := hW
  obtain ⟨p, q, hA0, hV, rfl, hfz, hnd⟩ := hW
  have hA : DataW.TrodAll enc Try.prog W 0 (fun _ => true) true Try.f4.params.toList args.toList ds p := hA0
  rw [Try.params4] at hA hval
  obtain ⟨v0, vs0, d0, ds0, p0, q0, hargs, rfl, rfl, h0, r0⟩ := trodAll_cons hA
  obtain ⟨v1, vs1, d1, ds1, p1, q1, rfl, rfl, rfl, h1, r1⟩ := trodAll_cons r0
  obtain ⟨v2, vs2, d2, ds2, p2, q2, rfl, rfl, rfl, h2, r2⟩ := trodAll_cons r1
  obtain ⟨rfl, rfl, rfl⟩ := trodAll_nil r2
  obtain rfl : args = #[v0, v1, v2] := by cases args; simp_all
  obtain ⟨rfl, rfl⟩ := trodVars_none hV
  obtain ⟨a0, rfl, rfl, rfl, w0⟩ := open_int Try.underlying3 (hval 0 3 v0 rfl rfl) h0
  obtain ⟨a1, len1, cap1, rfl⟩ := okWide_slice Try.underlying22 (hval 1 22 v1 rfl rfl)
  have z1 := h1
  have lt1 : ∀ x ∈ p1, x.block < W.heap.size := by obtain ⟨m, hm⟩ := z1; exact DataW.trod_lt m _ _ _ hm
  obtain ⟨D1, w1⟩ : ∃ D, Deeds W a1 len1 D := by
    obtain ⟨fuel, hf⟩ := h1
    exact deeds_of hf
  obtain ⟨a2, rfl, rfl, rfl, w2⟩ := open_int Try.underlying3 (hval 2 3 v2 rfl rfl) h2
  clear hA0 hval0
  refine (walk a0 a1 len1 cap1 D1 a2 W w0 w1 w2).mono fun e W' ⟨he, bel⟩ => ?_
  subst he
  exact ⟨_, rfl, _, _, _, [], _, [], hW', trodAll_mk1 (shut_bool Try.underlying4 _), (trodAll_cons_mk (shut_int Try.underlying3 w0) (trodAll_cons_mk (Below.trod laidOut (by kernel_rfl) (of_decide_eq_true (by kernel_rfl)) z1 bel lt1) (trodAll_cons_mk (shut_int Try.underlying3 w2) trodAll_mk0))), rfl, bel.frame _, fun h => by cases h⟩

theorem over : Rows.trailBackRow.holds Try.pinned (OpenSpec.ofChange Rows.trailBackSpec) :=
  OpenClaim.holds_of_wide 4 Try.f4 rfl rfl rfl rfl rfl rfl rfl ⟨rfl, rfl, rfl, rfl, rfl⟩ rfl rfl rfl rfl rfl (by kernel_rfl) Try.func4 (by kernel_rfl)
    (of_decide_eq_true (by kernel_rfl)) (by unfold Func.isWrapper; first | (rw [if_pos (by decide +kernel)]; kernel_rfl) | (rw [if_neg (by decide +kernel)]; exact ⟨rfl, rfl⟩))
    (fun os started H enc _ => lifted os started H enc)

theorem proved : Rows.TrailBackSaid := over
#print axioms proved
end Go.Proofs.Ytimpoagdidnpiaa.trailBack
