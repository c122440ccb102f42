/-
  The walk of WatchPlays.
-/
import Derived.Test.YtbfaigeopkonbaaWPlay
namespace Go.Proofs.Ytbfaigeopkonbaa
open Go.RowKit Go.Maps
set_option linter.unusedVariables false

theorem cell3_new {w : World} {b o : Nat} {v : Value} (h : w.cell? ⟨b, o, none⟩ = some v) (x : Obj) : (w.alloc x).cell? ⟨b, o, none⟩ = some v := (World.cell?_of_block (a := ⟨b, o, none⟩) ((grown_new w x none).block b (cell_lt h) (by simp))).trans h

theorem ne_new {w : World} {b o : Nat} {v : Value} (h : w.cell? ⟨b, o, none⟩ = some v) : ¬ b = w.heap.size := by have := cell_lt h; simp at this; omega

theorem Co.start {k : K} {kw : WK} {w w1 w2 w3 : World} {n : Nat} (o1 : Trl k w1 [] 0 noV) (b1 : Below w.heap.size w w1) (b2 : Below w1.heap.size w1 w2) (s2 : St kw w2 g0) (hn : k.n = n) (hn2 : kw.n = n) (hB : k.B = w.heap.size) (hB2 : kw.B = w.heap.size) (b3 : Below w2.heap.size w2 w3) (h40 : n ≤ 40) (ht : tot kw.n g0 = 0) :
    Pl k kw w w3.heap.size 0 0 g0 [] 0 noV [] (.slice none 0 0) (.slice none 0 0) [] [] (w3.alloc (.cells #[.int .i64 n, .slice none 0 0, .slice none 0 0] 32)) := by
  subst hn2
  have b4 : Below w3.heap.size w3 (w3.alloc (.cells #[.int .i64 kw.n, .slice none 0 0, .slice none 0 0] 32)) := by go_grown
  have W := (Wa.new (o1.below b2) s2 hn (by omega)).below (Below.next b3 b4)
  have bb := Below.next (Below.next (Below.next b1 b2) b3) b4
  refine ⟨⟨W, RW.nil _ _, bb, hB2, h40, by omega, Nat.le_refl _, Nat.le_refl _, Nat.le_refl _, by omega, by omega⟩, new_same _ _, ?_⟩
  have := b1.size; have := b2.size; have := b3.size; omega

theorem tot_zero (n : Nat) : tot n g0 = 0 := by
  unfold tot sumL
  have : ∀ m, ((List.range m).map (fun v => (g0.P (2 * n + v)).length)).sum = 0 := by
    intro m
    induction m with
    | zero => rfl
    | succ m ih => rw [List.range_succ, List.map_append, List.sum_append, ih]; rfl
  rw [this]; rfl

theorem Match.zero : Match g0 [] [] := ⟨rfl, rfl, fun i hi => by simp [g0] at hi, fun i hi => by simp [g0] at hi⟩

theorem act_out {k : K} {kw : WK} {w0 w w' : World} {g : G} {p : V} {H : List Int} {xss : List (List Int)} {ths : List Bool} {kd : Int} {e : Ending} (h : ActEnd k kw w0 g p H xss ths kd w e w') (m : Match g xss ths) :
    ∃ g' L' lev' p' a c a' c' xss' ths', e = .returned (.tuple #[.agg #[.int .i64 kw.n, .slice a xss'.length c, .slice a' xss'.length c'], .bool true]) ∧ Hid (ActE k kw w0 g p H xss ths kd w g' L' lev' p' (.slice a xss'.length c) (.slice a' xss'.length c') xss' ths' true w') ∧ Hid (Match g' xss' ths') := by
  obtain ⟨g', L', lev', p', la', ta', xss', ths', b, rfl, h⟩ := h
  obtain ⟨m', rfl⟩ := h.mt m
  obtain ⟨a, c, a', c', rfl, rfl, _⟩ := h.rw.shape
  exact ⟨g', L', lev', p', a, c, a', c', xss', ths', rfl, h, m'⟩

theorem runl_out {k : K} {kw : WK} {w0 w : World} {xb q T : Nat} {g : G} {L : List E} {lev : Nat} {p : V} {H : List Int} {la ta : Value} {xss : List (List Int)} {ths : List Bool} (s : Pl k kw w0 xb q T g L lev p H la ta xss ths w) (mt : Match g xss ths) (hT : T + 2801 ≤ 400000) :
    Calls Try.prog 14 #[.pointer (some ⟨k.OB, 0, none⟩), .pointer (some ⟨kw.OB, 0, none⟩), .agg #[.int .i64 kw.n, la, ta]] w fun e w' => ∃ bad g' L' p', e = .returned (.tuple #[.bool true, .bool bad]) ∧ Hid (Pl k kw w0 xb q (T + 2801) g' L' lev p' (litsF L') la ta xss ths w') ∧ Hid (Match g' xss ths) := by
  obtain ⟨h1, h2⟩ := s.su
  have h3 := s.c.hn
  refine (runl_is s.c.W s.c.r s.c.b0 s.c.hB mt h2 (by omega) h1).mono fun e w' h => ?_
  obtain ⟨bad, rfl, h⟩ := h
  obtain ⟨g', L', p', h4, h5⟩ := s.run hT h
  exact ⟨bad, g', L', p', rfl, h4, h5⟩

theorem wrnew_n {n : Nat} (h : cntF n = n) (w : World) : Calls Try.prog 10 #[.int .i64 n] w fun e w' => e = .returned (.agg #[.int .i64 n, .slice none 0 0, .slice none 0 0]) ∧ Hid (Below w.heap.size w w') := by
  have T := wrnew_any n w
  rw [h] at T
  exact T

theorem rall_l {w0 w : World} {la ta : Value} {xss : List (List Int)} {ths : List Bool} {n l : Nat} (r : RW w0 w la ta xss ths) (b0 : Below w0.heap.size w0 w) (hs : xss.length ≤ 10000) (hl : (allQ xss ths xss.length).length = l) : Calls Try.prog 13 #[.agg #[.int .i64 n, la, ta]] w fun e w' => ∃ a c, e = .returned (.slice a l c) ∧ Hid (Below w.heap.size w w') := by
  subst hl
  refine (rall_any r b0 hs).mono fun e w' h => ?_
  obtain ⟨a, c, rfl, _, h⟩ := h
  exact ⟨a, c, rfl, h⟩

set_option maxRecDepth 20000 in
set_option maxHeartbeats 8000000 in
theorem plays_walk (a0 : Int) (a1 : Option Addr) (len1 cap1 : Nat) (D1 : Nat → Dd) (w : World) (w1 : Deeds w a1 len1 D1) :
    Calls Try.prog 3 #[.int .i64 a0, .slice a1 len1 cap1] w fun e w' => e = .returned (.bool true) ∧ Below w.heap.size w w' := by
  have HD := hid w1
  clear w1
  by_cases hF : Few len1 D1
  · by_cases hv : 40 < a0
    · have HF := hid hF
      clear hF
      go_enter Try.func3, Try.ntmps3
      go_wp2_with (first
        | (go_at_call 6; with_reducible (refine (few_yes HD.out HF.out).mono ?_); rintro e w ⟨rfl, rfl⟩)
        | (go_at_call 7; with_reducible (refine (awake_any _).mono ?_); rintro e w2 ⟨rfl, b2⟩))
      go_ret
      exact ⟨rfl, b2.out⟩
    · have hvd : decide ((40 : Int) < a0) = false := by simp; omega
      by_cases hneg : a0 < 0
      · have HF := hid hF
        clear hF
        go_enter Try.func3, Try.ntmps3
        go_wp2_with (first
          | (go_at_call 6; with_reducible (refine (few_yes HD.out HF.out).mono ?_); rintro e w ⟨rfl, rfl⟩)
          | (go_at_call 7; with_reducible (refine (awake_any _).mono ?_); rintro e w2 ⟨rfl, b2⟩))
        go_ret
        exact ⟨rfl, b2.out⟩
      · obtain ⟨n, rfl⟩ : ∃ n : Nat, a0 = n := ⟨a0.toNat, by omega⟩
        have hn40 : n ≤ 40 := by omega
        have HCN : Hid (cntF n = n) := hid (by simp only [cntF]; rw [if_neg (by omega)]; omega)
        have hnd : decide ((n : Int) < 0) = false := by simp
        have HF := hid hF
        have hl60 := hF.1
        clear hv hneg hF
        go_enter Try.func3, Try.ntmps3
        go_wp2_with (first
          | (go_at_call 6; with_reducible (refine (few_yes HD.out HF.out).mono ?_); rintro e w ⟨rfl, rfl⟩)
          | (go_at_call 8; with_reducible (refine (new_is n _).mono ?_); rintro e w1 ⟨k, rfl, o1, hn, hB, b1⟩)
          | (go_at_call 9; with_reducible (refine (wnew_is n w1 w.heap.size b1.out.size).mono ?_); rintro e w2 ⟨kw, rfl, s2, hn2, hB2, b2⟩)
          | (go_at_call 10; with_reducible (refine (wrnew_n HCN.out w2).mono ?_); rintro e w3 ⟨rfl, b3⟩))
        have S0 := hid (Co.start o1.out b1.out b2.out s2.out (hn.out.trans HCN.out) (hn2.out.trans HCN.out) hB.out hB2.out b3.out hn40 (tot_zero _))
        have hkn : Hid (kw.n = n) := hid (hn2.out.trans HCN.out)
        have M0 := hid Match.zero
        go_loopw [8] (fun i wr => ∃ (q : Nat) (g : G) (L : List E) (lev : Nat) (p : V) (H : List Int) (a c a' c' : _) (xss : List (List Int)) (ths : List Bool), q ≤ len1 ∧ i = .int .i64 q ∧ Hid (Pl k kw w w3.heap.size q (q * 3000) g L lev p H (.slice a xss.length c) (.slice a' xss.length c') xss ths wr) ∧ Hid (Match g xss ths)) (fun i _ => len1 - (intOf i).toNat)
        case atStart => exact ⟨0, _, _, _, _, _, _, _, _, _, _, _, Nat.zero_le _, rfl, S0, M0⟩
        case round =>
          clear S0 M0 o1 s2 hn hn2 hB hB2 b1 b2 b3
          obtain ⟨q, g, L, lev, p, H, a, c, a', c', xss, ths, hq, rfl, hs, mt⟩ := hrel
          by_cases hlt : q < len1
          · have hlt' : (q : Int) < len1 := by omega
            obtain ⟨db, off, rfl, e0, e1, e2, ok⟩ := HD.out.be hs.out.c.b0 hlt
            have HOK := hid ok
            have hm := HF.out.2 q hlt
            have hq70 : q + 1 ≤ 70 := by omega
            have hT1 : q * 3000 + 1 ≤ 400000 := by omega
            obtain ⟨⟨x0, x1, x2⟩, x3, x4, x5⟩ := hs.out.cells
            have hdb := cell_lt e0
            have hxb := cell_lt x0
            simp only [] at hdb hxb
            have nd : ¬ db = wr.heap.size := by omega
            have nx : ¬ w3.heap.size = wr.heap.size := by omega
            have HM := hid hm
            have BD := hid (below_drew wr)
            clear ok hm
            go_upto_region 9 with fail
            go_cut [9, 10] from 37 to 86 (fun y ok wx => ∃ (yb : Nat) (g' : G) (L' : List E) (lev' : Nat) (p' : V) (a5 c5 a6 c6 : _) (xss' : List (List Int)) (ths' : List Bool), y = .pointer (some ⟨yb, 0, none⟩) ∧ ok = .bool true ∧ Hid (HalfW k kw w w3.heap.size (q + 1) (q * 3000 + 1) g' L' lev' p' H (.slice a xss.length c) (.slice a' xss.length c') (.slice a5 xss'.length c5) (.slice a6 xss'.length c6) xss' ths' yb wx) ∧ Hid (Match g' xss' ths'))
            case first =>
              go_region_with (first
                | (go_at_call 11; with_reducible (refine (act_is ((hs.out.c.below BD.out).act HOK.out HM.out) _ _ HOK.out.v0 HOK.out.v1 (fun _ => mt.out)).mono ?_); intro e w5 hA; have hA2 := act_out hA mt.out; obtain ⟨g', L', lev', p', a5, c5, a6, c6, xss', ths', rfl, E5, M5⟩ := hA2; have HH := hid ((hs.out.below BD.out).half_a hq70 hT1 E5.out))
                | (go_at_call 11; with_reducible (refine (act_is ((hs.out.c.below (by go_grown)).act HOK.out HM.out) _ _ HOK.out.v0 HOK.out.v1 (fun _ => mt.out)).mono ?_); intro e w5 hA; have hA2 := act_out hA mt.out; obtain ⟨g', L', lev', p', a5, c5, a6, c6, xss', ths', rfl, E5, M5⟩ := hA2; have HB := hs.out.half_b hq70 hT1 E5.out; obtain ⟨y5, hh⟩ := HB; have HH := hid hh; have j5 := wbox_cells y5; obtain ⟨⟨r0, r1, r2⟩, r3, r4, r5⟩ := j5; clear hh))
              all_goals go_wp2_with fail
              all_goals go_meet
              all_goals exact ⟨_, _, _, _, _, _, _, _, _, _, _, rfl, rfl, HH, M5⟩
            case rest =>
              obtain ⟨yb, g5, L5, lev5, p5, a5, c5, a6, c6, xss5, ths5, rfl, rfl, HH, M5⟩ := hcut
              have HLO := hid hs.out.lo
              clear e0 e1 e2 x0 x1 x2 x3 x4 x5 nd nx hdb hxb hs mt BD HOK HM
              have j1 := wbox_cells HH.out.2.1
              obtain ⟨⟨y0, y1, y2⟩, -, -, -⟩ := j1
              have j2 := wbox_cells HH.out.2.2
              obtain ⟨⟨x0, x1, x2⟩, x3, x4, x5⟩ := j2
              have PP := hid (HH.out.done HLO.out)
              go_upto_region 11 with fail
              revert PP
              generalize (((wc.setCell ⟨w3.heap.size, 0, none⟩ (.int .i64 (kw.n : Int))).setCell ⟨w3.heap.size, 1, none⟩ (.slice a5 xss5.length c5)).setCell ⟨w3.heap.size, 2, none⟩ (.slice a6 xss5.length c6)) = wp
              intro PP
              clear y0 y1 y2 x0 x1 x2 x3 x4 x5 HH HLO
              obtain ⟨⟨x0, x1, x2⟩, -, -, -⟩ := PP.out.cells
              obtain ⟨l, hl⟩ : ∃ l, liveN g5 = l := ⟨_, rfl⟩
              have HL1 : Hid ((liveN g5 : Int) = l) := hid (by omega)
              have HL2 := hid (M5.out.len.trans hl)
              have BD := hid (below_drew wp)
              have hx5 : xss5.length ≤ 10000 := by have := PP.out.c.xl; omega
              clear hl
              go_cut [64] from 37 to 86 (fun v wx => v = .bool false ∧ Hid (Pl k kw w w3.heap.size (q + 1) (q * 3000 + 1) g5 L5 lev5 p5 H (.slice a5 xss5.length c5) (.slice a6 xss5.length c6) xss5 ths5 wx))
              case first =>
                go_region_with (first
                  | (go_at_call 12; with_reducible (refine (len_aw (PP.out.below BD.out).c.W.j.s HL1.out).mono ?_); rintro e w6 ⟨rfl, rfl⟩)
                  | (go_at_call 13; with_reducible (refine (rall_l (PP.out.below BD.out).c.r (PP.out.below BD.out).c.b0 hx5 HL2.out).mono ?_); rintro e w7 ⟨aa, cc, rfl, b7⟩; have S7 := hid ((PP.out.below BD.out).below b7.out)))
                all_goals go_wp2_with fail
                all_goals go_meet
                all_goals exact ⟨by simp, S7⟩
              case rest =>
                obtain ⟨rfl, S8⟩ := hcut
                clear x0 x1 x2 PP BD
                obtain ⟨⟨x0, x1, x2⟩, -, -, -⟩ := S8.out.cells
                have hT2 : q * 3000 + 1 + 2801 ≤ 400000 := by omega
                go_upto_region 16 with (go_at_call 14; with_reducible (refine (runl_out S8.out M5.out hT2).mono ?_); rintro e w9 ⟨bad, g9, L9, p9, rfl, S9, M9⟩)
                have hlev : lev5 ≤ 1048576 := by have := S9.out.c.W.j.t.len; omega
                cases bad
                · go_wp2
                  go_roundw
                  case rel => exact ⟨q + 1, _, _, _, _, _, _, _, _, _, _, _, by omega, by go_num, hid (S9.out.weak (by omega) (by omega)), M9⟩
                  case measure => simp only [intOf]; omega
                · by_cases hl0 : lev5 = 0
                  · subst hl0
                    go_wp2_with (first
                      | (go_at_call 15; with_reducible (refine (levels_is S9.out.c.W.j.t).mono ?_); rintro e w10 ⟨rfl, rfl⟩)
                      | (go_at_call 7; with_reducible (refine (awake_any _).mono ?_); rintro e w11 ⟨rfl, b11⟩))
                    go_ret
                    exact ⟨rfl, Below.next S9.out.c.b0 b11.out⟩
                  · have hlb : ((lev5 : Int) == 0) = false := by rw [beq_eq_false_iff_ne]; omega
                    have hl0' : ¬ (lev5 : Int) = 0 := by omega
                    go_wp2_with (first
                      | (go_at_call 15; with_reducible (refine (levels_is S9.out.c.W.j.t).mono ?_); rintro e w10 ⟨rfl, rfl⟩)
                      | (go_at_call 16; with_reducible (refine (wa_back S9.out.c.W _).mono ?_); rintro e w11 ⟨ao11, n11, c11, p11, rfl, W11, F11⟩; have S11 := hid (S9.out.ft W11.out F11.out)))
                    go_roundw
                    case rel => exact ⟨q + 1, _, _, _, _, _, _, _, _, _, _, _, by omega, by go_num, hid (S11.out.weak (by omega) (by omega)), M9⟩
                    case measure => simp only [intOf]; omega
          · have hltd : decide ((q : Int) < len1) = false := by simp; omega
            go_wp2_with (go_at_call 7; with_reducible (refine (awake_any _).mono ?_); rintro e w9 ⟨rfl, b9⟩)
            go_ret
            exact ⟨rfl, Below.next hs.out.c.b0 b9.out⟩
  · have HF := hid hF
    clear hF
    go_enter Try.func3, Try.ntmps3
    go_wp2_with (first
      | (go_at_call 6; with_reducible (refine (few_no HD.out HF.out).mono ?_); rintro e w ⟨rfl, rfl⟩)
      | (go_at_call 7; with_reducible (refine (awake_any _).mono ?_); rintro e w2 ⟨rfl, b2⟩))
    go_ret
    exact ⟨rfl, b2.out⟩

end Go.Proofs.Ytbfaigeopkonbaa
