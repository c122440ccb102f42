/-
  What chapter 17 says of 0, 1, and of twice the same: the walk.
-/
import Derived.Test.YtamiifgdpdfjnaaRl
namespace Go.Proofs.Ytamiifgdpdfjnaa
open Go.RowKit Go.Maps
set_option linter.unusedVariables false
set_option maxRecDepth 100000

set_option maxHeartbeats 8000000 in
theorem rules_walk (a : Option Addr) (len cap : Nat) (D : Nat → Dd) (t x : Int) (w : World) (hD : Deeds w a len D) : Calls Try.prog 3 #[.slice a len cap, .int .i64 t, .int .u8 x] w fun e w' => e = .returned (.bool true) ∧ Below w.heap.size w w' := by
  have HD := hid hD
  clear hD
  by_cases hl : 80 < len
  · have hl' : (80 : Int) < len := by omega
    go_enter Try.func3, Try.ntmps3
    go_wp2_with (go_at_call 4; with_reducible (refine (awake_any _).mono ?_); rintro e w6 ⟨rfl, b6⟩)
    go_ret
    exact ⟨rfl, b6.out⟩
  have hl' : ¬ (80 : Int) < len := by omega
  have HL : Hid (len ≤ 80) := hid (by omega)
  have HL2 : Hid (len ≤ 150) := hid (by omega)
  clear hl
  go_enter Try.func3, Try.ntmps3
  go_upto_region 4 with (go_at_call 5; with_reducible (refine (build_any 4000 a len cap D _ HD.out HL2.out).mono ?_); rintro e w1 ⟨k, N, P, ao, c, rfl, s1, r1, b1, wl1, ln1, hM, hB⟩)
  have HM : Hid (k.M = 4000) := hid (hM.out.trans (by simp [cntF]))
  have LN1 := hid ln1
  clear hM ln1
  by_cases t0 : t < 0
  · go_wp2_with (go_at_call 4; with_reducible (refine (awake_any _).mono ?_); rintro e w6 ⟨rfl, b6⟩)
    go_ret
    exact ⟨rfl, Below.next b1.out (Below.next (by go_grown) b6.out)⟩
  by_cases t1 : (N.length : Int) ≤ t
  · go_wp2_with (go_at_call 4; with_reducible (refine (awake_any _).mono ?_); rintro e w6 ⟨rfl, b6⟩)
    go_ret
    exact ⟨rfl, Below.next b1.out (Below.next (by go_grown) b6.out)⟩
  have ht : isN N t = true := by simp [isN]; omega
  obtain ⟨m1, hm1⟩ : ∃ m1, ndA N t = m1 := ⟨_, rfl⟩
  obtain ⟨mo, wd, ma, mb, mc, mv⟩ := m1
  have HW : Hid (wdF N t = wd) := hid (by unfold wdF; rw [hm1])
  obtain ⟨z, Nz, u, Nu, Tz, Tu, pn, ln2⟩ := pn_of (M := 4000) wl1.out s1.out.1 ht hm1 (by have := LN1.out; have := HL.out; omega)
  have HZ : Hid (Tell 4000 N (constP wd 0) z Nz) := hid Tz
  have HU : Hid (Tell 4000 Nz (constP wd 1) u Nu) := hid Tu
  have HPN := hid pn
  have HLN : Hid (Nu.length ≤ 82) := hid (by have := LN1.out; have := HL.out; omega)
  clear Tz Tu pn ln2 hm1 ht wl1 r1
  have s2 := hid (s1.out.below (show Below w1.heap.size w1 (w1.alloc (.cells #[.slice ao N.length c, .int .i64 k.M] 27)) by go_grown))
  have b2 := hid (Below.next b1.out (show Below w1.heap.size w1 (w1.alloc (.cells #[.slice ao N.length c, .int .i64 k.M] 27)) by go_grown))
  have q1 : (t != t) = false := by simp
  have q2 : (z != z) = false := by simp
  go_wp2_with (first
    | (go_at_call 6; with_reducible (refine (width_is s2.out t HW.out).mono ?_); rintro e w2 ⟨rfl, b3⟩; have s3 := hid (s2.out.below b3.out))
    | (go_at_call 7; with_reducible (refine (told (const_any s3.out wd 0 (by omega) (by omega)) HM.out HZ.out).mono ?_); rintro e w3 ⟨P3, rfl, s4, f4⟩)
    | (go_at_call 7; with_reducible (refine (told (const_any s4.out wd 1 (by omega) (by omega)) HM.out HU.out).mono ?_); rintro e w4 ⟨P4, rfl, s5, f5⟩))
  have b4 := Below.next b2.out b3.out
  have HS := hid (lr_start (L := 82) (b4.trans ((f4.out.trans f5.out).be (fun j hj => Nat.le_trans hB.out (s3.out.bd hj).1) b4.size)) s5.out HPN.out HLN.out hB.out #[.int .i64 1, .int .i64 2, .int .i64 7, .int .i64 8, .int .i64 9, .int .i64 10, .int .i64 11, .int .i64 3, .int .i64 3] 35)
  clear b4 f4 f5 s5 s4 s3 s2 s1 b1 b2 b3 HPN HLN HZ HU t0 t1 hB
  revert HS
  generalize w4.alloc (.cells #[.int .i64 1, .int .i64 2, .int .i64 7, .int .i64 8, .int .i64 9, .int .i64 10, .int .i64 11, .int .i64 3, .int .i64 3] 35) = wl
  generalize w4.heap.size = SB
  intro HS
  go_loopw [15] (fun i wr => ∃ (q : Nat) (N1 : List Nd) (P1 : Nat → Prop), q ≤ 9 ∧ i = .int .i64 q ∧ Hid (LR w k t ⟨mo, wd, ma, mb, mc, mv⟩ z u (82 + q) SB (.cells #[.int .i64 1, .int .i64 2, .int .i64 7, .int .i64 8, .int .i64 9, .int .i64 10, .int .i64 11, .int .i64 3, .int .i64 3] 35 (0, 0)) N1 P1 wr)) (fun i _ => 9 - (intOf i).toNat)
  case atStart => exact ⟨0, _, _, by omega, rfl, HS⟩
  case round =>
    clear HS
    obtain ⟨q, N1, P1, hq, rfl, hr⟩ := hrel
    by_cases hlt : q < 9
    · have hqs : q = 0 ∨ q = 1 ∨ q = 2 ∨ q = 3 ∨ q = 4 ∨ q = 5 ∨ q = 6 ∨ q = 7 ∨ q = 8 := by omega
      clear hlt hq
      rcases hqs with rfl | rfl | rfl | rfl | rfl | rfl | rfl | rfl | rfl
      · have c4 : wr.cell? ⟨SB, 0, none⟩ = some (.int .i64 1) := by rw [cell_of hr.out.bx]; rfl
        have T1 : Hid (Tell 4000 N1 (fbinP N1 1 t z) t N1) := hid (hr.out.pn.right0 4000 (op := 1) (by omega))
        have T2 : Hid (Tell 4000 N1 (fbinP N1 1 z t) t N1) := hid (hr.out.pn.left0 4000 (op := 1) (by omega))
        go_wp2_with (first
          | (go_at_call 8; (with_reducible (refine (lr_same (op := 1) (a := t) (b := z) hr HM T1.out).mono ?_)); rintro e w5 ⟨P5, rfl, h5⟩; have c5 : w5.cell? ⟨SB, 0, none⟩ = some (.int .i64 1) := (by rw [cell_of h5.out.bx]; rfl))
          | (go_at_call 8; (with_reducible (refine (lr_same (op := 1) (a := z) (b := t) h5 HM T2.out).mono ?_)); rintro e w6 ⟨P6, rfl, h6⟩))
        go_roundw
        case rel => exact ⟨1, N1, P6, by omega, by go_num, hid (h6.out.wide (by omega))⟩
        case measure => simp [intOf]
      · have c4 : wr.cell? ⟨SB, 1, none⟩ = some (.int .i64 2) := by rw [cell_of hr.out.bx]; rfl
        have T1 : Hid (Tell 4000 N1 (fbinP N1 2 t z) t N1) := hid (hr.out.pn.right0 4000 (op := 2) (by omega))
        go_wp2_with (first
          | (go_at_call 8; (with_reducible (refine (lr_same (op := 2) (a := t) (b := z) hr HM T1.out).mono ?_)); rintro e w5 ⟨P5, rfl, h5⟩; have c5 : w5.cell? ⟨SB, 1, none⟩ = some (.int .i64 2) := (by rw [cell_of h5.out.bx]; rfl))
          | (go_at_call 8; (with_reducible (refine (lr_free h5 HM 2 z t).mono ?_)); rintro e w6 ⟨I6, E6, N6, P6, rfl, h6⟩))
        go_roundw
        case rel => exact ⟨2, N6, P6, by omega, by go_num, hid (h6.out.wide (by omega))⟩
        case measure => simp [intOf]
      · have c4 : wr.cell? ⟨SB, 2, none⟩ = some (.int .i64 7) := by rw [cell_of hr.out.bx]; rfl
        have T1 : Hid (Tell 4000 N1 (fbinP N1 7 t z) t N1) := hid (hr.out.pn.right0 4000 (op := 7) (by omega))
        have T2 : Hid (Tell 4000 N1 (fbinP N1 7 z t) t N1) := hid (hr.out.pn.left0 4000 (op := 7) (by omega))
        go_wp2_with (first
          | (go_at_call 8; (with_reducible (refine (lr_same (op := 7) (a := t) (b := z) hr HM T1.out).mono ?_)); rintro e w5 ⟨P5, rfl, h5⟩; have c5 : w5.cell? ⟨SB, 2, none⟩ = some (.int .i64 7) := (by rw [cell_of h5.out.bx]; rfl))
          | (go_at_call 8; (with_reducible (refine (lr_same (op := 7) (a := z) (b := t) h5 HM T2.out).mono ?_)); rintro e w6 ⟨P6, rfl, h6⟩))
        go_roundw
        case rel => exact ⟨3, N1, P6, by omega, by go_num, hid (h6.out.wide (by omega))⟩
        case measure => simp [intOf]
      · have c4 : wr.cell? ⟨SB, 3, none⟩ = some (.int .i64 8) := by rw [cell_of hr.out.bx]; rfl
        have T1 : Hid (Tell 4000 N1 (fbinP N1 8 t z) t N1) := hid (hr.out.pn.right0 4000 (op := 8) (by omega))
        have T2 : Hid (Tell 4000 N1 (fbinP N1 8 z t) t N1) := hid (hr.out.pn.left0 4000 (op := 8) (by omega))
        go_wp2_with (first
          | (go_at_call 8; (with_reducible (refine (lr_same (op := 8) (a := t) (b := z) hr HM T1.out).mono ?_)); rintro e w5 ⟨P5, rfl, h5⟩; have c5 : w5.cell? ⟨SB, 3, none⟩ = some (.int .i64 8) := (by rw [cell_of h5.out.bx]; rfl))
          | (go_at_call 8; (with_reducible (refine (lr_same (op := 8) (a := z) (b := t) h5 HM T2.out).mono ?_)); rintro e w6 ⟨P6, rfl, h6⟩))
        go_roundw
        case rel => exact ⟨4, N1, P6, by omega, by go_num, hid (h6.out.wide (by omega))⟩
        case measure => simp [intOf]
      · have c4 : wr.cell? ⟨SB, 4, none⟩ = some (.int .i64 9) := by rw [cell_of hr.out.bx]; rfl
        have T1 : Hid (Tell 4000 N1 (fbinP N1 9 t z) t N1) := hid (hr.out.pn.right0 4000 (op := 9) (by omega))
        go_wp2_with (first
          | (go_at_call 8; (with_reducible (refine (lr_same (op := 9) (a := t) (b := z) hr HM T1.out).mono ?_)); rintro e w5 ⟨P5, rfl, h5⟩; have c5 : w5.cell? ⟨SB, 4, none⟩ = some (.int .i64 9) := (by rw [cell_of h5.out.bx]; rfl))
          | (go_at_call 8; (with_reducible (refine (lr_free h5 HM 9 z t).mono ?_)); rintro e w6 ⟨I6, E6, N6, P6, rfl, h6⟩))
        go_roundw
        case rel => exact ⟨5, N6, P6, by omega, by go_num, hid (h6.out.wide (by omega))⟩
        case measure => simp [intOf]
      · have c4 : wr.cell? ⟨SB, 5, none⟩ = some (.int .i64 10) := by rw [cell_of hr.out.bx]; rfl
        have T1 : Hid (Tell 4000 N1 (fbinP N1 10 t z) t N1) := hid (hr.out.pn.right0 4000 (op := 10) (by omega))
        go_wp2_with (first
          | (go_at_call 8; (with_reducible (refine (lr_same (op := 10) (a := t) (b := z) hr HM T1.out).mono ?_)); rintro e w5 ⟨P5, rfl, h5⟩; have c5 : w5.cell? ⟨SB, 5, none⟩ = some (.int .i64 10) := (by rw [cell_of h5.out.bx]; rfl))
          | (go_at_call 8; (with_reducible (refine (lr_free h5 HM 10 z t).mono ?_)); rintro e w6 ⟨I6, E6, N6, P6, rfl, h6⟩))
        go_roundw
        case rel => exact ⟨6, N6, P6, by omega, by go_num, hid (h6.out.wide (by omega))⟩
        case measure => simp [intOf]
      · have c4 : wr.cell? ⟨SB, 6, none⟩ = some (.int .i64 11) := by rw [cell_of hr.out.bx]; rfl
        have T1 : Hid (Tell 4000 N1 (fbinP N1 11 t z) t N1) := hid (hr.out.pn.right0 4000 (op := 11) (by omega))
        go_wp2_with (first
          | (go_at_call 8; (with_reducible (refine (lr_same (op := 11) (a := t) (b := z) hr HM T1.out).mono ?_)); rintro e w5 ⟨P5, rfl, h5⟩; have c5 : w5.cell? ⟨SB, 6, none⟩ = some (.int .i64 11) := (by rw [cell_of h5.out.bx]; rfl))
          | (go_at_call 8; (with_reducible (refine (lr_free h5 HM 11 z t).mono ?_)); rintro e w6 ⟨I6, E6, N6, P6, rfl, h6⟩))
        go_roundw
        case rel => exact ⟨7, N6, P6, by omega, by go_num, hid (h6.out.wide (by omega))⟩
        case measure => simp [intOf]
      · have c4 : wr.cell? ⟨SB, 7, none⟩ = some (.int .i64 3) := by rw [cell_of hr.out.bx]; rfl
        have T1 : Hid (Tell 4000 N1 (fbinP N1 3 t u) t N1) := hid ((hr.out.pn.mul1 4000).1)
        go_wp2_with (first
          | (go_at_call 8; (with_reducible (refine (lr_same (op := 3) (a := t) (b := u) hr HM T1.out).mono ?_)); rintro e w5 ⟨P5, rfl, h5⟩; have c5 : w5.cell? ⟨SB, 7, none⟩ = some (.int .i64 3) := (by rw [cell_of h5.out.bx]; rfl))
          | (go_at_call 8; (with_reducible (refine (lr_free h5 HM 3 u t).mono ?_)); rintro e w6 ⟨I6, E6, N6, P6, rfl, h6⟩))
        go_roundw
        case rel => exact ⟨8, N6, P6, by omega, by go_num, hid (h6.out.wide (by omega))⟩
        case measure => simp [intOf]
      · have c4 : wr.cell? ⟨SB, 8, none⟩ = some (.int .i64 3) := by rw [cell_of hr.out.bx]; rfl
        have T1 : Hid (Tell 4000 N1 (fbinP N1 3 t u) t N1) := hid ((hr.out.pn.mul1 4000).1)
        have T2 : Hid (Tell 4000 N1 (fbinP N1 3 u t) t N1) := hid ((hr.out.pn.mul1 4000).2)
        go_wp2_with (first
          | (go_at_call 8; (with_reducible (refine (lr_same (op := 3) (a := t) (b := u) hr HM T1.out).mono ?_)); rintro e w5 ⟨P5, rfl, h5⟩; have c5 : w5.cell? ⟨SB, 8, none⟩ = some (.int .i64 3) := (by rw [cell_of h5.out.bx]; rfl))
          | (go_at_call 8; (with_reducible (refine (lr_same (op := 3) (a := u) (b := t) h5 HM T2.out).mono ?_)); rintro e w6 ⟨P6, rfl, h6⟩))
        go_roundw
        case rel => exact ⟨9, N1, P6, by omega, by go_num, hid (h6.out.wide (by omega))⟩
        case measure => simp [intOf]
    · obtain rfl : q = 9 := by omega
      go_wp2_with fail
      have HS2 := hid (hr.out.box #[.int .i64 3, .int .i64 6, .int .i64 8, .int .i64 2] 37)
      clear hr hq hlt
      revert HS2
      generalize wr.alloc (.cells #[.int .i64 3, .int .i64 6, .int .i64 8, .int .i64 2] 37) = wl2
      generalize wr.heap.size = NB
      intro HS2
      go_loopw [23] (fun i wr => ∃ (q : Nat) (N2 : List Nd) (P2 : Nat → Prop), q ≤ 4 ∧ i = .int .i64 q ∧ Hid (LR w k t ⟨mo, wd, ma, mb, mc, mv⟩ z u (82 + 9) NB (.cells #[.int .i64 3, .int .i64 6, .int .i64 8, .int .i64 2] 37 (0, 0)) N2 P2 wr)) (fun i _ => 4 - (intOf i).toNat)
      case atStart => exact ⟨0, _, _, by omega, rfl, HS2⟩
      case round =>
        clear HS2
        obtain ⟨q, N2, P2, hq, rfl, hr2⟩ := hrel
        by_cases hlt : q < 4
        · have hqs : q = 0 ∨ q = 1 ∨ q = 2 ∨ q = 3 := by omega
          clear hlt hq
          rcases hqs with rfl | rfl | rfl | rfl
          · have c6 : wr.cell? ⟨NB, 0, none⟩ = some (.int .i64 3) := by rw [cell_of hr2.out.bx]; rfl
            have T3 : Hid (Tell 4000 N2 (fbinP N2 3 t z) z N2) := hid (hr2.out.pn.none0 4000 (op := 3) (by omega))
            go_wp2_with (first
              | (go_at_call 8; (with_reducible (refine (lr_same (op := 3) (a := t) (b := z) hr2 HM T3.out).mono ?_)); rintro e w7 ⟨P7, rfl, h7⟩))
            go_roundw
            case rel => first | exact ⟨1, N2, P7, by omega, by go_num, h7⟩ | ((repeat apply Exists.intro); exact ⟨⟨1, N2, P7, by omega, by go_num, h7⟩, rfl⟩)
            case measure => simp [intOf]
          · have c6 : wr.cell? ⟨NB, 1, none⟩ = some (.int .i64 6) := by rw [cell_of hr2.out.bx]; rfl
            have T3 : Hid (Tell 4000 N2 (fbinP N2 6 t z) z N2) := hid (hr2.out.pn.none0 4000 (op := 6) (by omega))
            go_wp2_with (first
              | (go_at_call 8; (with_reducible (refine (lr_same (op := 6) (a := t) (b := z) hr2 HM T3.out).mono ?_)); rintro e w7 ⟨P7, rfl, h7⟩))
            go_roundw
            case rel => first | exact ⟨2, N2, P7, by omega, by go_num, h7⟩ | ((repeat apply Exists.intro); exact ⟨⟨2, N2, P7, by omega, by go_num, h7⟩, rfl⟩)
            case measure => simp [intOf]
          · have c6 : wr.cell? ⟨NB, 2, none⟩ = some (.int .i64 8) := by rw [cell_of hr2.out.bx]; rfl
            have T3 : Hid (Tell 4000 N2 (fbinP N2 8 t t) z N2) := hid (hr2.out.pn.same0 4000 (op := 8) (by omega))
            go_wp2_with (first
              | (go_at_call 8; (with_reducible (refine (lr_same (op := 8) (a := t) (b := t) hr2 HM T3.out).mono ?_)); rintro e w7 ⟨P7, rfl, h7⟩))
            go_roundw
            case rel => first | exact ⟨3, N2, P7, by omega, by go_num, h7⟩ | ((repeat apply Exists.intro); exact ⟨⟨3, N2, P7, by omega, by go_num, h7⟩, rfl⟩)
            case measure => simp [intOf]
          · have c6 : wr.cell? ⟨NB, 3, none⟩ = some (.int .i64 2) := by rw [cell_of hr2.out.bx]; rfl
            have T3 : Hid (Tell 4000 N2 (fbinP N2 2 t t) z N2) := hid (hr2.out.pn.same0 4000 (op := 2) (by omega))
            go_wp2_with (first
              | (go_at_call 8; (with_reducible (refine (lr_same (op := 2) (a := t) (b := t) hr2 HM T3.out).mono ?_)); rintro e w7 ⟨P7, rfl, h7⟩))
            go_roundw
            case rel => first | exact ⟨4, N2, P7, by omega, by go_num, h7⟩ | ((repeat apply Exists.intro); exact ⟨⟨4, N2, P7, by omega, by go_num, h7⟩, rfl⟩)
            case measure => simp [intOf]
        · obtain rfl : q = 4 := by omega
          obtain ⟨ie, Ne, Te, ei, en⟩ := hr2.out.pn.eq1 (M := 4000) (by have := hr2.out.ln; omega)
          have HTe := hid Te
          obtain ⟨e1, e2, _⟩ := con_in en
          have HE1 := hid e1
          have HE2 := hid e2
          clear Te ei en e1 e2 hlt hq
          go_wp2_with (first
            | (go_at_call 8; (with_reducible (refine (lr_tell hr2 HM (op := 12) (a := t) (b := t) HTe.out).mono ?_)); rintro e w7 ⟨P7, rfl, h7⟩)
            | (go_at_call 9; (with_reducible (refine (known_is h7.out.dg ie HE2.out HE1.out).mono ?_)); rintro e w8 ⟨rfl, b8⟩; have h8 := hid (h7.out.below b8.out))
            | (go_at_call 10; (with_reducible (refine (node_as h8.out.dg t h8.out.pn.tn h8.out.pn.ti).mono ?_)); rintro e w9 ⟨rfl, b9⟩))
          have HS3 := hid ((h8.out.below b9.out).box #[.int .i64 mo, .int .i64 wd, .int .i64 ma, .int .i64 mb, .int .i64 mc, .int .u64 mv] 41)
          clear hr2 h7 h8 b8 b9
          revert HS3
          generalize w9.alloc (.cells #[.int .i64 mo, .int .i64 wd, .int .i64 ma, .int .i64 mb, .int .i64 mc, .int .u64 mv] 41) = wl3
          generalize w9.heap.size = ZB
          intro HS3
          go_loopw [33] (fun i wr => ∃ (q : Nat) (N3 : List Nd) (P3 : Nat → Prop), 15 ≤ q ∧ q ≤ 17 ∧ i = .int .i64 q ∧ Hid (LR w k t ⟨mo, wd, ma, mb, mc, mv⟩ z u (80 + q) ZB (.cells #[.int .i64 mo, .int .i64 wd, .int .i64 ma, .int .i64 mb, .int .i64 mc, .int .u64 mv] 41 (0, 0)) N3 P3 wr)) (fun i _ => 17 - (intOf i).toNat)
          case atStart => exact ⟨15, _, _, by omega, by omega, rfl, hid (HS3.out.wide (by omega))⟩
          case round =>
            clear HS3
            obtain ⟨q, N3, P3, hq0, hq, rfl, hr3⟩ := hrel
            by_cases hlt : q < 17
            · have hqs : q = 15 ∨ q = 16 := by omega
              clear hlt hq hq0
              rcases hqs with rfl | rfl
              · have c9 : wr.cell? ⟨ZB, 0, none⟩ = some (.int .i64 mo) := by rw [cell_of hr3.out.bx]; rfl
                by_cases hmo : mo = 15
                · have e9 : (mo == 15) = true := by simp [hmo]
                  clear hmo
                  go_wp2_with fail
                  go_roundw
                  case rel => exact ⟨16, N3, P3, by omega, by omega, by go_num, hid (hr3.out.wide (by omega))⟩
                  case measure => simp [intOf]
                · have e9 : (mo == 15) = false := by simpa using hmo
                  obtain ⟨ia, Na, Ta, xa, ra, la, Tb⟩ := hr3.out.pn.twice (M := 4000) (by have := hr3.out.ln; omega) (op := 15) (by omega) hmo
                  have HTa := hid Ta
                  have HTb := hid Tb
                  clear hmo Ta Tb xa ra la
                  go_wp2_with (first
                    | (go_at_call 11; (with_reducible (refine (lr_untell hr3 HM (op := 15) (a := t) HTa.out).mono ?_)); rintro e w10 ⟨P10, rfl, h10⟩)
                    | (go_at_call 11; (with_reducible (refine (lr_unsame h10 HM (op := 15) (a := ia) HTb.out).mono ?_)); rintro e w11 ⟨P11, rfl, h11⟩))
                  go_roundw
                  case rel => exact ⟨16, Na, P11, by omega, by omega, by go_num, hid (h11.out.wide (by omega))⟩
                  case measure => simp [intOf]
              · have c9 : wr.cell? ⟨ZB, 0, none⟩ = some (.int .i64 mo) := by rw [cell_of hr3.out.bx]; rfl
                by_cases hmo : mo = 16
                · have e9 : (mo == 16) = true := by simp [hmo]
                  clear hmo
                  go_wp2_with fail
                  go_roundw
                  case rel => exact ⟨17, N3, P3, by omega, by omega, by go_num, hid (hr3.out.wide (by omega))⟩
                  case measure => simp [intOf]
                · have e9 : (mo == 16) = false := by simpa using hmo
                  obtain ⟨ia, Na, Ta, xa, ra, la, Tb⟩ := hr3.out.pn.twice (M := 4000) (by have := hr3.out.ln; omega) (op := 16) (by omega) hmo
                  have HTa := hid Ta
                  have HTb := hid Tb
                  clear hmo Ta Tb xa ra la
                  go_wp2_with (first
                    | (go_at_call 11; (with_reducible (refine (lr_untell hr3 HM (op := 16) (a := t) HTa.out).mono ?_)); rintro e w10 ⟨P10, rfl, h10⟩)
                    | (go_at_call 11; (with_reducible (refine (lr_unsame h10 HM (op := 16) (a := ia) HTb.out).mono ?_)); rintro e w11 ⟨P11, rfl, h11⟩))
                  go_roundw
                  case rel => exact ⟨17, Na, P11, by omega, by omega, by go_num, hid (h11.out.wide (by omega))⟩
                  case measure => simp [intOf]
            · obtain rfl : q = 17 := by omega
              have rm : N3.length + 4 ≤ 4000 := by have := hr3.out.ln; omega
              have RM := hid rm
              clear rm
              go_wp2_with (first
                | (go_at_call 12; (with_reducible (refine (ites_any (hid hr3.out.dg) HM hr3.out.pn RM.out _).mono ?_)); rintro e w12 ⟨P12, rfl, f12⟩)
                | (go_at_call 4; (with_reducible (refine (awake_any _).mono ?_)); rintro e w13 ⟨rfl, b13⟩))
              go_ret
              have b12 := hr3.out.be.trans (f12.out.be (fun j hj => Nat.le_trans hr3.out.kb (hr3.out.dg.bd hj).1) hr3.out.be.size)
              exact ⟨rfl, Below.next b12 b13.out⟩

end Go.Proofs.Ytamiifgdpdfjnaa
