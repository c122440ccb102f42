/-
  The walk of WatchKeeps.
-/
import Derived.Test.YtbfaigeopkonbaaWPlays
namespace Go.Proofs.Ytbfaigeopkonbaa
open Go.RowKit Go.Maps
set_option linter.unusedVariables false

/-- The first clause is as it was given. -/
def KpC (z : List Int) (g : G) : Prop := 0 < g.nx ∧ g.gn 0 = false ∧ g.lt 0 = z

theorem kp_add {n : Nat} {g4 : G} {z : List Int} (d : AddD n g0 g4 z) : KpC z g4 := ⟨by rw [d.nx]; omega, by rw [d.gn, g0_nx, up_same], by rw [d.lt, g0_nx, up_same]⟩
theorem kp_sm {z : List Int} {g g' : G} (h : KpC z g) (s : Sm0 g g') : KpC z g' := ⟨by rw [s.nx]; exact h.1, by rw [s.gn]; exact h.2.1, by rw [s.lt]; exact h.2.2⟩
theorem kp_act {k : K} {kw : WK} {w0 w w' : World} {z : List Int} {g g' : G} {p p' : V} {H : List Int} {xss xss' : List (List Int)} {ths ths' : List Bool} {kd : Int} {L' : List E} {lev' : Nat} (h : KpC z g) (e : ∃ la' ta' b, ActE k kw w0 g p H xss ths kd w g' L' lev' p' la' ta' xss' ths' b w') (hk : ¬ kd = 1) : KpC z g' := by
  obtain ⟨la', ta', b, e⟩ := e
  obtain ⟨h1, h2⟩ := e.kp hk 0 h.1
  have h3 := e.nx.1
  have h4 := h.1
  exact ⟨by omega, by rw [h2]; exact h.2.1, by rw [h1]; exact h.2.2⟩

theorem g0_pl (n : Nat) : (g0.P n).length ≤ 10000000 := by show 0 ≤ 10000000; omega

theorem act_out2 {k : K} {kw : WK} {w0 w w' : World} {g : G} {p : V} {H : List Int} {xss : List (List Int)} {ths : List Bool} {kd : Int} {e : Ending} (h : ActEnd k kw w0 g p H xss ths kd w e w') :
    ∃ g' L' lev' p' v xss' ths', e = .returned v ∧ Hid (∃ la' ta' b, ActE k kw w0 g p H xss ths kd w g' L' lev' p' la' ta' xss' ths' b w') := by
  obtain ⟨g', L', lev', p', la', ta', xss', ths', b, rfl, h⟩ := h
  exact ⟨g', L', lev', p', _, xss', ths', rfl, la', ta', b, h⟩

section
variable {k : K} {kw : WK} {w0 w wr w5 : World} {xb q T : Nat} {g g' : G} {L L' : List E} {lev lev' : Nat} {p p' : V} {H H' : List Int} {la ta : Value} {xss : List (List Int)} {ths : List Bool}

theorem Pl.more (s : Pl k kw w0 xb q T g L lev p H la ta xss ths wr) (hq : q + 1 ≤ 70 := by omega) (hT : T + 1 ≤ 400000 := by omega) : Pl k kw w0 xb (q + 1) (T + 1) g L lev p H la ta xss ths wr := by
  have h1 := s.c.nx
  have h2 := s.c.rm
  have h3 := s.c.xl
  have h4 := s.c.tt
  exact ⟨⟨s.c.W, s.c.r, s.c.b0, s.c.hB, s.c.hn, hq, by omega, by omega, by omega, by omega, hT⟩, s.x, s.lo⟩

theorem Pl.add {xs : List Int} (s : Pl k kw w0 xb 0 0 g0 L lev p H la ta xss ths wr) (W : Wa k kw w5 g' L lev p H') (d : AddD kw.n g0 g' xs) (f : FW kw.B wr w5) : Pl k kw w0 xb 1 1 g' L lev p H' la ta xss ths w5 := by
  have h3 := s.c.xl
  have h5 := tot_zero kw.n
  refine ⟨⟨W, s.c.r.ft s.c.W.j.t (FT.fw (B := kw.B) f), f.be s.c.hB s.c.b0, s.c.hB, s.c.hn, by omega, by rw [d.nx, g0_nx]; omega, by rw [d.rm]; exact Nat.zero_le _, by omega, by rw [d.su]; omega, by omega⟩, f.box s.x (.inl rfl), s.lo⟩

theorem Pl.actk {kd : Int} (s : Pl k kw w0 xb q T g L lev p H la ta [] [] wr) (hq : q + 1 ≤ 70) (hT : T + 1 ≤ 400000) {xss' : List (List Int)} {ths' : List Bool} (e : ∃ la' ta' b, ActE k kw w0 g p H [] [] kd wr g' L' lev' p' la' ta' xss' ths' b w5) : Pl k kw w0 xb (q + 1) (T + 1) g' L' lev' p' H la ta [] [] w5 := by
  obtain ⟨la', ta', b, e⟩ := e
  have h1 := s.c.nx
  have h2 := s.c.rm
  have h4 := s.c.tt
  obtain ⟨n1, n2, n3, n4⟩ := e.nx
  exact ⟨⟨e.wa, s.c.r.ft s.c.W.j.t e.ft, e.ft.be s.c.hB s.c.b0, s.c.hB, s.c.hn, hq, by omega, by omega, by simp, by omega, hT⟩, FT.box s.c.W.j.t e.ft s.x (.inl rfl), s.lo⟩

theorem Pl.ran (s : Pl k kw w0 xb q T g L lev p H la ta xss ths wr) (hT : T + 2801 ≤ 400000) (W : Wa k kw w5 g' L' lev p' H') (sm : Sm0 g g' ∧ tot kw.n g' ≤ tot kw.n g + (kw.n * g.nx + 1)) (f : FT k kw.B p p' wr w5) : Pl k kw w0 xb q (T + 2801) g' L' lev p' H' la ta xss ths w5 := by
  obtain ⟨h4, h5⟩ := sm
  refine ⟨⟨W, s.c.r.ft s.c.W.j.t f, f.be s.c.hB s.c.b0, s.c.hB, s.c.hn, s.c.hq, by rw [h4.nx]; exact s.c.nx, by rw [h4.rm]; exact s.c.rm, s.c.xl, ?_, hT⟩, FT.box s.c.W.j.t f s.x (.inl rfl), s.lo⟩
  have a1 := s.c.tt
  have a2 := s.c.nx
  have a3 := s.c.hn
  have a4 := s.c.hq
  have a5 : kw.n * g.nx ≤ 40 * 70 := Nat.mul_le_mul a3 (by omega)
  omega

theorem pl_nx (s : Pl k kw w0 xb q T g L lev p H la ta xss ths wr) : g.nx ≤ 1000000 := by have := s.c.nx; have := s.c.hq; omega

theorem cl_zero {z : List Int} (s : St kw w g) (h : KpC z g) (hn : g.nx ≤ 1000000) : Calls Try.prog 20 #[.pointer (some ⟨kw.OB, 0, none⟩), .int .i64 0] w fun e w' => ∃ ao n cp, e = .returned (.slice ao n cp) ∧ Hid (U.Row w ao n cp z) ∧ w' = w := by
  have := wclause_is s 0 h.1 h.2.1 hn
  rw [h.2.2] at this
  exact this

theorem add_first {a : Option Addr} {n c : Nat} {xs : List Int} (W : Wa k kw w g0 L lev p H) (ta : Addr) (row : U.Row w a n c xs) (hn : n ≤ 1000) (hx : ∀ x ∈ xs, 0 ≤ x ∧ x < 2 * (kw.n : Int)) :
    Calls Try.prog 17 #[.pointer (some ⟨kw.OB, 0, none⟩), .pointer (some ta), .slice a n c] w fun e w' => ∃ g', e = .returned (.tuple #[.int .i64 0, .int .i64 0]) ∧ Hid (Wa k kw w' g' L lev p H) ∧ Hid (AddD kw.n g0 g' xs) ∧ Hid (FW kw.B w w') :=
  add_is W ta row hn hx (by have := g0_nx; omega) (g0_pl _)

theorem row_small {ao : Option Addr} {n c : Nat} {z : List Int} (h : U.Row w ao n c z) (hz : z.length ≤ 12) : n ≤ 100000 := by have := h.1; omega
end

set_option maxRecDepth 20000 in
set_option maxHeartbeats 8000000 in
theorem keeps_yes (n : Nat) (a1 : Option Addr) (len1 cap1 : Nat) (D1 : Nat → Dd) (a2 : Option Addr) (len2 cap2 : Nat) (z2 : List Int) (w : World) (w1 : Deeds w a1 len1 D1) (w2 : U.Row w a2 len2 cap2 z2) (hF : Few len1 D1) (hn40 : n ≤ 40) (hl2 : len2 ≤ 12) (hx : ∀ x ∈ z2, 0 ≤ x ∧ x < 2 * (n : Int)) :
    Calls Try.prog 4 #[.int .i64 n, .slice a1 len1 cap1, .slice a2 len2 cap2] w fun e w' => e = .returned (.bool true) ∧ Below w.heap.size w w' := by
  have HD := hid w1
  have HMORE := hid w2
  have HCN : Hid (cntF n = n) := hid (by simp only [cntF]; rw [if_neg (by omega)]; omega)
  have hvd : decide ((40 : Int) < n) = false := by simp; omega
  have hnd : decide ((n : Int) < 0) = false := by simp
  have hld : decide ((12 : Int) < len2) = false := by simp; omega
  have HF := hid hF
  have hl60 := hF.1
  have HX0 := hid hx
  have HLEN : Hid (z2.length ≤ 12) := hid (by rw [w2.1]; exact hl2)
  clear w1 w2 hF hx
  go_enter Try.func4, Try.ntmps4
  go_upto_region 6 with (first
    | (go_at_call 6; with_reducible (refine (few_yes HD.out HF.out).mono ?_); rintro e w ⟨rfl, rfl⟩)
    | (go_at_call 8; with_reducible (refine (new_is n _).mono ?_); rintro e w1 ⟨k, rfl, o1, hn, hB, b1⟩)
    | (go_at_call 9; with_reducible (refine (wnew_is n w1 w.heap.size b1.out.size).mono ?_); rintro e w2 ⟨kw, rfl, s2, hn2, hB2, b2⟩)
    | (go_at_call 10; with_reducible (refine (wrnew_n HCN.out w2).mono ?_); rintro e w3 ⟨rfl, b3⟩))
  have S3 := hid (Co.start o1.out b1.out b2.out s2.out (hn.out.trans HCN.out) (hn2.out.trans HCN.out) hB.out hB2.out b3.out hn40 (tot_zero _))
  have hkn := hid (hn2.out.trans HCN.out)
  obtain ⟨xb, hxb⟩ : ∃ xb, w3.heap.size = xb := ⟨_, rfl⟩
  rw [hxb] at S3 ⊢
  revert S3
  generalize (w3.alloc (.cells #[.int .i64 n, .slice none 0 0, .slice none 0 0] 32)) = w4
  intro S3
  have W3 := hid S3.out.c.W
  have B3 := hid S3.out.c.b0
  have HX := HX0
  rw [← hkn.out] at HX
  clear o1 s2 hn hn2 hB hB2 b1 b2 b3 HX0 hxb
  go_wp2_with (go_at_call 17; with_reducible (refine (add_first W3.out _ (HMORE.out.keep B3.out) (by omega) HX.out).mono ?_); rintro e w4 ⟨g4, rfl, W4, D4, F4⟩; have S4 := hid (Pl.add S3.out W4.out D4.out F4.out); have K4 := hid (kp_add D4.out))
  go_loopw [12] (fun i wr => ∃ (q : Nat) (g : G) (L : List E) (lev : Nat) (p : V) (H : List Int), q ≤ len1 ∧ i = .int .i64 q ∧ Hid (Pl k kw w xb (q + 1) (q * 3000 + 1) g L lev p H (.slice none 0 0) (.slice none 0 0) [] [] wr) ∧ Hid (KpC z2 g)) (fun i _ => len1 - (intOf i).toNat)
  case atStart => exact ⟨0, _, _, _, _, _, Nat.zero_le _, rfl, S4, K4⟩
  case round =>
    clear S4 K4 S3 W3 B3
    obtain ⟨q, g, L, lev, p, H, hq, rfl, hs, KP⟩ := hrel
    by_cases hlt : q < len1
    · have hlt' : (q : Int) < len1 := by omega
      obtain ⟨db, off, rfl, e0, e1, e2, ok⟩ := HD.out.be hs.out.c.b0 hlt
      have HOK := hid ok
      have HM := hid (HF.out.2 q hlt)
      have hq70 : q + 1 + 1 ≤ 70 := by omega
      have hT1 : q * 3000 + 1 + 1 ≤ 400000 := by omega
      obtain ⟨⟨x0, x1, x2⟩, -, -, -⟩ := hs.out.cells
      clear ok
      by_cases hk1 : (D1 q).kd = 1
      · have hkb : ((D1 q).kd == 1) = true := by simpa using hk1
        clear hk1
        go_wp2
        go_roundw
        case rel => exact ⟨q + 1, _, _, _, _, _, by omega, by go_num, hid ((hs.out.weak (by omega) (by omega)).more), KP⟩
        case measure => simp only [intOf]; omega
      · have hkb : ((D1 q).kd == 1) = false := by simpa using hk1
        have BD := hid (below_drew wr)
        have HKK := hid (fun h : (D1 q).kd = 1 => (absurd h hk1 : Match g [] []))
        go_upto_region 11 with fail
        go_cut [] from 51 to 86 (fun wx => ∃ (g5 : G) (L5 : List E) (lev5 : Nat) (p5 : V), Hid (Pl k kw w xb (q + 1 + 1) (q * 3000 + 1 + 1) g5 L5 lev5 p5 H (.slice none 0 0) (.slice none 0 0) [] [] wx) ∧ Hid (KpC z2 g5))
        case first =>
          go_region_with (go_at_call 11; with_reducible (refine (act_is ((hs.out.c.below BD.out).act HOK.out HM.out) _ _ HOK.out.v0 HOK.out.v1 HKK.out).mono ?_); intro e w5 hA; have hA2 := act_out2 hA; obtain ⟨g5, L5, lev5, p5, v5, xss5, ths5, rfl, E5⟩ := hA2; have K5 := hid (kp_act KP.out E5.out hk1); have S5 := hid ((hs.out.below BD.out).actk hq70 hT1 E5.out))
          all_goals go_wp2_with fail
          all_goals go_meet
          all_goals exact ⟨_, _, _, _, S5, K5⟩
        case rest =>
          obtain ⟨g5, L5, lev5, p5, S5, K5⟩ := hcut
          clear e0 e1 e2 x0 x1 x2 hs KP BD HOK HM HKK
          have hT2 : q * 3000 + 1 + 1 + 2801 ≤ 400000 := by omega
          have SU := hid S5.out.su
          go_upto_region 13 with (go_at_call 18; with_reducible (refine (run_one S5.out.c.W (by have := SU.out.2; omega) SU.out.1).mono ?_); rintro e w6 ⟨i6, ok6, g6, L6, p6, rfl, V6, W6, S6, X6, F6⟩)
          have S9 := hid (S5.out.ran hT2 W6.out S6.out F6.out)
          have KP9 := hid (kp_sm K5.out S6.out.1)
          have hlev : lev5 ≤ 1048576 := by have := S9.out.c.W.j.t.len; omega
          clear S5 K5 W6 F6 V6
          cases ok6
          · by_cases hl0 : lev5 = 0
            · subst hl0
              go_upto_region 16 with (go_at_call 15; with_reducible (refine (levels_is S9.out.c.W.j.t).mono ?_); rintro e w10 ⟨rfl, rfl⟩)
              have S9F := S9
              go_wp2_with (first
                | (go_at_call 20; with_reducible (refine (cl_zero S9F.out.c.W.j.s KP9.out (pl_nx S9F.out)).mono ?_); rintro e wf ⟨af, nf, cf, rfl, rf, rfl⟩)
                | (go_at_call 19; with_reducible (refine (rset_any rf.out (HMORE.out.keep S9F.out.c.b0) (row_small rf.out HLEN.out) (by omega) (b := true) (by simp)).mono ?_); rintro e wg ⟨rfl, bg⟩)
                | (go_at_call 7; with_reducible (refine (awake_any _).mono ?_); rintro e wh ⟨rfl, bh⟩))
              go_ret
              exact ⟨rfl, Below.next (Below.next S9F.out.c.b0 bg.out) bh.out⟩
            · have hlb : ((lev5 : Int) == 0) = false := by rw [beq_eq_false_iff_ne]; omega
              have hl0' : ¬ (lev5 : Int) = 0 := by omega
              go_wp2_with (first
                | (go_at_call 15; with_reducible (refine (levels_is S9.out.c.W.j.t).mono ?_); rintro e w10 ⟨rfl, rfl⟩)
                | (go_at_call 16; with_reducible (refine (wa_back S9.out.c.W _).mono ?_); rintro e w11 ⟨ao11, n11, c11, p11, rfl, W11, F11⟩; have S11 := hid (S9.out.ft W11.out F11.out)))
              go_roundw
              case rel => exact ⟨q + 1, _, _, _, _, _, by omega, by go_num, hid (S11.out.weak (by omega) (by omega)), KP9⟩
              case measure => simp only [intOf]; omega
          · go_wp2
            go_roundw
            case rel => exact ⟨q + 1, _, _, _, _, _, by omega, by go_num, hid (S9.out.weak (by omega) (by omega)), KP9⟩
            case measure => simp only [intOf]; omega
    · have hltd : decide ((q : Int) < len1) = false := by simp; omega
      have S9F := hs
      go_wp2_with (first
        | (go_at_call 20; with_reducible (refine (cl_zero S9F.out.c.W.j.s KP.out (pl_nx S9F.out)).mono ?_); rintro e wf ⟨af, nf, cf, rfl, rf, rfl⟩)
        | (go_at_call 19; with_reducible (refine (rset_any rf.out (HMORE.out.keep S9F.out.c.b0) (row_small rf.out HLEN.out) (by omega) (b := true) (by simp)).mono ?_); rintro e wg ⟨rfl, bg⟩)
        | (go_at_call 7; with_reducible (refine (awake_any _).mono ?_); rintro e wh ⟨rfl, bh⟩))
      go_ret
      exact ⟨rfl, Below.next (Below.next S9F.out.c.b0 bg.out) bh.out⟩

set_option maxRecDepth 20000 in
set_option maxHeartbeats 8000000 in
theorem keeps_no (n : Nat) (a1 : Option Addr) (len1 cap1 : Nat) (D1 : Nat → Dd) (a2 : Option Addr) (len2 cap2 : Nat) (z2 : List Int) (w : World) (w1 : Deeds w a1 len1 D1) (w2 : U.Row w a2 len2 cap2 z2) (hF : Few len1 D1) (hn40 : n ≤ 40) (hl2 : len2 ≤ 12) (hx : ¬ ∀ x ∈ z2, 0 ≤ x ∧ x < 2 * (n : Int)) :
    Calls Try.prog 4 #[.int .i64 n, .slice a1 len1 cap1, .slice a2 len2 cap2] w fun e w' => e = .returned (.bool true) ∧ Below w.heap.size w w' := by
  have HD := hid w1
  have HMORE := hid w2
  have HCN : Hid (cntF n = n) := hid (by simp only [cntF]; rw [if_neg (by omega)]; omega)
  have hvd : decide ((40 : Int) < n) = false := by simp; omega
  have hnd : decide ((n : Int) < 0) = false := by simp
  have hld : decide ((12 : Int) < len2) = false := by simp; omega
  have HF := hid hF
  have hl60 := hF.1
  have HX0 := hid hx
  have HLEN : Hid (z2.length ≤ 12) := hid (by rw [w2.1]; exact hl2)
  clear w1 w2 hF hx
  go_enter Try.func4, Try.ntmps4
  go_upto_region 6 with (first
    | (go_at_call 6; with_reducible (refine (few_yes HD.out HF.out).mono ?_); rintro e w ⟨rfl, rfl⟩)
    | (go_at_call 8; with_reducible (refine (new_is n _).mono ?_); rintro e w1 ⟨k, rfl, o1, hn, hB, b1⟩)
    | (go_at_call 9; with_reducible (refine (wnew_is n w1 w.heap.size b1.out.size).mono ?_); rintro e w2 ⟨kw, rfl, s2, hn2, hB2, b2⟩)
    | (go_at_call 10; with_reducible (refine (wrnew_n HCN.out w2).mono ?_); rintro e w3 ⟨rfl, b3⟩))
  have S3 := hid (Co.start o1.out b1.out b2.out s2.out (hn.out.trans HCN.out) (hn2.out.trans HCN.out) hB.out hB2.out b3.out hn40 (tot_zero _))
  have hkn := hid (hn2.out.trans HCN.out)
  obtain ⟨xb, hxb⟩ : ∃ xb, w3.heap.size = xb := ⟨_, rfl⟩
  rw [hxb] at S3 ⊢
  revert S3
  generalize (w3.alloc (.cells #[.int .i64 n, .slice none 0 0, .slice none 0 0] 32)) = w4
  intro S3
  have W3 := hid S3.out.c.W
  have B3 := hid S3.out.c.b0
  have HX := HX0
  rw [← hkn.out] at HX
  clear o1 s2 hn hn2 hB hB2 b1 b2 b3 HX0 hxb
  go_wp2_with (go_at_call 17; with_reducible (refine (add_bad W3.out.j.s _ (HMORE.out.keep B3.out) (by omega) HX.out).mono ?_); rintro e w4 ⟨rfl, b4⟩; have S4 := hid ((S3.out.below b4).more); have K4 := hid (trivial : True))
  go_loopw [12] (fun i wr => ∃ (q : Nat) (g : G) (L : List E) (lev : Nat) (p : V) (H : List Int), q ≤ len1 ∧ i = .int .i64 q ∧ Hid (Pl k kw w xb (q + 1) (q * 3000 + 1) g L lev p H (.slice none 0 0) (.slice none 0 0) [] [] wr) ∧ Hid (True)) (fun i _ => len1 - (intOf i).toNat)
  case atStart => exact ⟨0, _, _, _, _, _, Nat.zero_le _, rfl, S4, K4⟩
  case round =>
    clear S4 K4 S3 W3 B3
    obtain ⟨q, g, L, lev, p, H, hq, rfl, hs, KP⟩ := hrel
    by_cases hlt : q < len1
    · have hlt' : (q : Int) < len1 := by omega
      obtain ⟨db, off, rfl, e0, e1, e2, ok⟩ := HD.out.be hs.out.c.b0 hlt
      have HOK := hid ok
      have HM := hid (HF.out.2 q hlt)
      have hq70 : q + 1 + 1 ≤ 70 := by omega
      have hT1 : q * 3000 + 1 + 1 ≤ 400000 := by omega
      obtain ⟨⟨x0, x1, x2⟩, -, -, -⟩ := hs.out.cells
      clear ok
      by_cases hk1 : (D1 q).kd = 1
      · have hkb : ((D1 q).kd == 1) = true := by simpa using hk1
        clear hk1
        go_wp2
        go_roundw
        case rel => exact ⟨q + 1, _, _, _, _, _, by omega, by go_num, hid ((hs.out.weak (by omega) (by omega)).more), KP⟩
        case measure => simp only [intOf]; omega
      · have hkb : ((D1 q).kd == 1) = false := by simpa using hk1
        have BD := hid (below_drew wr)
        have HKK := hid (fun h : (D1 q).kd = 1 => (absurd h hk1 : Match g [] []))
        go_upto_region 11 with fail
        go_cut [] from 51 to 86 (fun wx => ∃ (g5 : G) (L5 : List E) (lev5 : Nat) (p5 : V), Hid (Pl k kw w xb (q + 1 + 1) (q * 3000 + 1 + 1) g5 L5 lev5 p5 H (.slice none 0 0) (.slice none 0 0) [] [] wx) ∧ Hid (True))
        case first =>
          go_region_with (go_at_call 11; with_reducible (refine (act_is ((hs.out.c.below BD.out).act HOK.out HM.out) _ _ HOK.out.v0 HOK.out.v1 HKK.out).mono ?_); intro e w5 hA; have hA2 := act_out2 hA; obtain ⟨g5, L5, lev5, p5, v5, xss5, ths5, rfl, E5⟩ := hA2; have K5 := hid (trivial : True); have S5 := hid ((hs.out.below BD.out).actk hq70 hT1 E5.out))
          all_goals go_wp2_with fail
          all_goals go_meet
          all_goals exact ⟨_, _, _, _, S5, K5⟩
        case rest =>
          obtain ⟨g5, L5, lev5, p5, S5, K5⟩ := hcut
          clear e0 e1 e2 x0 x1 x2 hs KP BD HOK HM HKK
          have hT2 : q * 3000 + 1 + 1 + 2801 ≤ 400000 := by omega
          have SU := hid S5.out.su
          go_upto_region 13 with (go_at_call 18; with_reducible (refine (run_one S5.out.c.W (by have := SU.out.2; omega) SU.out.1).mono ?_); rintro e w6 ⟨i6, ok6, g6, L6, p6, rfl, V6, W6, S6, X6, F6⟩)
          have S9 := hid (S5.out.ran hT2 W6.out S6.out F6.out)
          have KP9 := hid (trivial : True)
          have hlev : lev5 ≤ 1048576 := by have := S9.out.c.W.j.t.len; omega
          clear S5 K5 W6 F6 V6
          cases ok6
          · by_cases hl0 : lev5 = 0
            · subst hl0
              go_upto_region 16 with (go_at_call 15; with_reducible (refine (levels_is S9.out.c.W.j.t).mono ?_); rintro e w10 ⟨rfl, rfl⟩)
              have S9F := S9
              go_wp2_with (go_at_call 7; with_reducible (refine (awake_any _).mono ?_); rintro e wh ⟨rfl, bh⟩)
              go_ret
              exact ⟨rfl, Below.next S9F.out.c.b0 bh.out⟩
            · have hlb : ((lev5 : Int) == 0) = false := by rw [beq_eq_false_iff_ne]; omega
              have hl0' : ¬ (lev5 : Int) = 0 := by omega
              go_wp2_with (first
                | (go_at_call 15; with_reducible (refine (levels_is S9.out.c.W.j.t).mono ?_); rintro e w10 ⟨rfl, rfl⟩)
                | (go_at_call 16; with_reducible (refine (wa_back S9.out.c.W _).mono ?_); rintro e w11 ⟨ao11, n11, c11, p11, rfl, W11, F11⟩; have S11 := hid (S9.out.ft W11.out F11.out)))
              go_roundw
              case rel => exact ⟨q + 1, _, _, _, _, _, by omega, by go_num, hid (S11.out.weak (by omega) (by omega)), KP9⟩
              case measure => simp only [intOf]; omega
          · go_wp2
            go_roundw
            case rel => exact ⟨q + 1, _, _, _, _, _, by omega, by go_num, hid (S9.out.weak (by omega) (by omega)), KP9⟩
            case measure => simp only [intOf]; omega
    · have hltd : decide ((q : Int) < len1) = false := by simp; omega
      have S9F := hs
      go_wp2_with (go_at_call 7; with_reducible (refine (awake_any _).mono ?_); rintro e wh ⟨rfl, bh⟩)
      go_ret
      exact ⟨rfl, Below.next S9F.out.c.b0 bh.out⟩

set_option maxRecDepth 20000 in
set_option maxHeartbeats 4000000 in
theorem keeps_walk (a0 : Int) (a1 : Option Addr) (len1 cap1 : Nat) (D1 : Nat → Dd) (a2 : Option Addr) (len2 cap2 : Nat) (z2 : List Int) (w : World) (w1 : Deeds w a1 len1 D1) (w2 : U.Row w a2 len2 cap2 z2) :
    Calls Try.prog 4 #[.int .i64 a0, .slice a1 len1 cap1, .slice a2 len2 cap2] w fun e w' => e = .returned (.bool true) ∧ Below w.heap.size w w' := by
  by_cases hF : Few len1 D1
  · by_cases hv : 40 < a0
    · have HF := hid hF
      have HD := hid w1
      clear hF w1 w2
      go_enter Try.func4, Try.ntmps4
      go_wp2_with (first
        | (go_at_call 6; with_reducible (refine (few_yes HD.out HF.out).mono ?_); rintro e w ⟨rfl, rfl⟩)
        | (go_at_call 7; with_reducible (refine (awake_any _).mono ?_); rintro e w2 ⟨rfl, b2⟩))
      go_ret
      exact ⟨rfl, b2.out⟩
    · have hvd : decide ((40 : Int) < a0) = false := by simp; omega
      by_cases hneg : a0 < 0
      · have HF := hid hF
        have HD := hid w1
        clear hF w1 w2
        go_enter Try.func4, Try.ntmps4
        go_wp2_with (first
          | (go_at_call 6; with_reducible (refine (few_yes HD.out HF.out).mono ?_); rintro e w ⟨rfl, rfl⟩)
          | (go_at_call 7; with_reducible (refine (awake_any _).mono ?_); rintro e w2 ⟨rfl, b2⟩))
        go_ret
        exact ⟨rfl, b2.out⟩
      · obtain ⟨n, rfl⟩ : ∃ n : Nat, a0 = n := ⟨a0.toNat, by omega⟩
        by_cases hl2 : 12 < len2
        · have hl2' : (12 : Int) < len2 := by omega
          have hnd : decide ((n : Int) < 0) = false := by simp
          have HF := hid hF
          have HD := hid w1
          clear hF w1 w2 hv hneg
          go_enter Try.func4, Try.ntmps4
          go_wp2_with (first
            | (go_at_call 6; with_reducible (refine (few_yes HD.out HF.out).mono ?_); rintro e w ⟨rfl, rfl⟩)
            | (go_at_call 7; with_reducible (refine (awake_any _).mono ?_); rintro e w2 ⟨rfl, b2⟩))
          go_ret
          exact ⟨rfl, b2.out⟩
        · by_cases hx : ∀ x ∈ z2, 0 ≤ x ∧ x < 2 * (n : Int)
          · exact keeps_yes n a1 len1 cap1 D1 a2 len2 cap2 z2 w w1 w2 hF (by omega) (by omega) hx
          · exact keeps_no n a1 len1 cap1 D1 a2 len2 cap2 z2 w w1 w2 hF (by omega) (by omega) hx
  · have HF := hid hF
    have HD := hid w1
    clear hF w1 w2
    go_enter Try.func4, Try.ntmps4
    go_wp2_with (first
      | (go_at_call 6; with_reducible (refine (few_no HD.out HF.out).mono ?_); rintro e w ⟨rfl, rfl⟩)
      | (go_at_call 7; with_reducible (refine (awake_any _).mono ?_); rintro e w2 ⟨rfl, b2⟩))
    go_ret
    exact ⟨rfl, b2.out⟩

end Go.Proofs.Ytbfaigeopkonbaa
