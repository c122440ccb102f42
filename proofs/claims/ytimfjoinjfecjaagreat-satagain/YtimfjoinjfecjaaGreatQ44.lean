/-
  learn: the walk.
-/
import Derived.Test.YtimfjoinjfecjaaGreatQ41

namespace Go.Proofs.YtimfjoinjfecjaaGreat
open Go.RowKit Go.Maps
set_option linter.unusedVariables false

section
variable {c : SC} {w0 w w' : World} {g g' : G} {s s' : SS} {m m' : MV}

theorem AddD.lo_mono {n sz sz' : Nat} {xs : List Int} (h : AddD n sz g g' xs) (hs : sz' ≤ sz) : AddD n sz' g g' xs := by
  obtain ⟨lv, e, q⟩ := h.lo
  exact ⟨h.nx, h.lt, h.gn, h.su, h.rm, h.hv, ⟨lv, e, fun j a b => Nat.le_trans hs (q j a b)⟩, h.a, h.b, h.fr, h.P, h.pl, h.dn⟩

theorem lrn2_flds (c : SC) (s : SS) (x : Int) (met : List Int) : (lrn2 c s x met).L = s.L ∧ (lrn2 c s x met).lev = s.lev ∧ (lrn2 c s x met).ns = s.ns ∧ (lrn2 c s x met).cf = s.cf + 1 ∧ (lrn2 c s x met).cls = s.cls ∧ (lrn2 c s x met).prf = s.prf ∧ (lrn2 c s x met).fs.length = s.fs.length := by
  obtain ⟨a1, a2, a3, a4, a5, a6, a7⟩ := lrn1_flds s met
  refine ⟨a1, a2, a4, a5, a6, a7, ?_⟩
  show (usesF _ _ _ _).length = _
  rw [uses_len, a3]
theorem lrn4_flds (c : SC) (s : SS) (x : Int) (met xs : List Int) (bk : Int) : (lrn4 c s x met xs bk).cls = s.cls ∧ (lrn4 c s x met xs bk).prf = s.prf := by
  obtain ⟨a1, a2, a3, a4, a5, a6, a7⟩ := lrn2_flds c s x met
  exact ⟨a5, a6⟩

theorem goBack4 {x : Int} {met xs : List Int} (h : Sm c w0 g (lrn3 c s x met xs) m w) (bk : Int) : Calls Tryz.prog 57 #[.pointer (some ⟨c.SB, 0, none⟩), .int .i64 bk] w fun e w' => e = .returned (.tuple #[]) ∧ Nx c w0 w m g (lrn4 c s x met xs bk) w' := goBack_is h bk

structure LrnA (c : SC) (w0 w : World) (g : G) (s : SS) (m m' : MV) (lx : Nat) (s1 : PS) (gb cc ml : Nat) (bk : Int) (va : Option Addr) (vn vc : Nat) (es : List Int) (w' : World) : Prop where
  pm : es.Perm s1.oth ∧ Fall s.L es
  bk : bk = backF s.L es
  sm : Sm c w0 g s m' w'
  kp : Kp w0 w m.ow w' m'.ow
  gl : GVt w0 w' m'.ow [.slice (some ⟨gb, 0, none⟩) ml cc] [U.notF lx :: es]
  gm : GVt w0 w' m'.ow [.slice va vn vc] [riseI (natI s1.met)]
  ml : ml ≤ c.kw.n + 1
  mn : vn ≤ c.kw.n
  lt : ∀ y ∈ U.notF lx :: es, 0 ≤ y ∧ y < 2 * (c.kw.n : Int)
  gn : w0.heap.size ≤ gb

theorem learn_y (h : Sm c w0 g s m w) {la : Option Addr} {ln cap : Nat} (gr : U.Grid w la ln cap s.cls) (hn : c.kw.n ≤ 900) (x : Int) {lx : Nat} {s1 : PS} (hl : learnP s.L s.lev s.cls x = some (lx, s1)) :
    Calls Tryz.prog 51 #[.pointer (some ⟨c.k.OB, 0, none⟩), .slice la ln cap, .int .i64 x] w fun e w' => ∃ gb cc ml bk va vn vc es m', e = .returned (.tuple #[.slice (some ⟨gb, 0, none⟩) ml cc, .int .i64 bk, .slice va vn vc, .bool true]) ∧ Hid (LrnA c w0 w g s m m' lx s1 gb cc ml bk va vn vc es w') := by
  have hkn : c.k.n = c.kw.n := h.W.j.n
  refine (learn_is h.W.j.t gr (by omega) x).mono fun e w' q => ?_
  rcases q with ⟨q, _⟩ | ⟨x', s1', gb, cc, ml, bk, va, vn, vc, es, q, e1, y⟩
  · rw [hl] at q; cases q
  · rw [hl] at q
    simp only [Option.some.injEq, Prod.mk.injEq] at q
    obtain ⟨rfl, rfl⟩ := q
    obtain ⟨m', a, b, d, f⟩ := h.taught y
    rw [hkn] at y
    exact ⟨gb, cc, ml, bk, va, vn, vc, es, m', e1, hid ⟨⟨y.perm, y.fall⟩, y.bk, a.out, b.out, d.out, f.out, y.ml, y.mn, y.lt, Nat.le_trans h.b0.size y.hg⟩⟩

set_option maxRecDepth 20000 in
set_option maxHeartbeats 8000000 in
theorem learn_s (h : Sm c w0 g s m w) (x : Int) {lx : Nat} {s1 : PS} (hl : learnP s.L s.lev s.cls x = some (lx, s1)) (hn : c.kw.n ≤ 900)
    (hu : ∀ y ∈ rsnF s.L s.lev x (riseI (natI s1.met)), -1 ≤ y ∧ y < (c.fst : Int) + s.fs.length)
    (hnx : g.nx ≤ 1000000) (hpl : (g.P (3 * c.kw.n)).length ≤ 1000000000000) (hcl : s.cls.length ≤ 1000000) (hfs : s.fs.length ≤ 1000000) (hns : s.ns.length ≤ 1000000) (hf : c.fst ≤ 1000000) (hpr : s.prf.length ≤ 1000000) (hw : s.wg ≤ 20000000000) (hcf : s.cf ≤ 1000000000) :
    Calls Tryz.prog 34 #[.pointer (some ⟨c.SB, 0, none⟩), .int .i64 x] w fun e w' => ∃ es g', e = .returned (.tuple #[]) ∧ Hid (es.Perm s1.oth ∧ Fall s.L es) ∧ Hid (Nx c w0 w m g' (lrnF c s x (riseI (natI s1.met)) (U.notF lx :: es) (backF s.L es)) w') ∧ Hid (AddD c.kw.n w.heap.size g g' (U.notF lx :: es)) := by
  obtain ⟨mD, hD, kD⟩ := h.xbelow (below_drew w)
  obtain ⟨ca, cp, ecv, hg⟩ := h.grid
  have c0 := h.c0
  have c3 := h.c3
  rw [ecv] at c3
  have HD := hid hD
  have KD := hid kD
  have GD := hid (hg.keep (below_drew w))
  have HL := hid hl
  have HU := hid hu
  have e0 := hid (show (w.drew).heap.size = w.heap.size from rfl)
  obtain ⟨NC, hNC⟩ : ∃ NC, s.cls.length = NC := ⟨_, rfl⟩
  rw [hNC] at c3 GD hcl
  have HNC := hid hNC
  clear hD kD hg hl hu h hNC
  go_enter Tryz.func34, Tryz.ntmps34
  go_upto_region 0 with fail
  go_cut [4, 5, 6] from 7 (fun v4 v5 v6 wz => ∃ gb cc ml bk va vn vc es m', v4 = .slice (some ⟨gb, 0, none⟩) ml cc ∧ v5 = .int .i64 bk ∧ v6 = .slice va vn vc ∧ Hid (LrnA c w0 w.drew g s mD m' lx s1 gb cc ml bk va vn vc es wz))
  case first =>
    go_region_with (first
      | (go_at_call 51; with_reducible (refine (learn_y HD.out GD.out hn x HL.out).mono ?_); rintro e w5 ⟨gb, cc, ml, bk, va, vn, vc, es, m5, rfl, a5⟩))
    all_goals go_wp2
    all_goals go_meet
    all_goals exact ⟨gb, cc, ml, bk, va, vn, vc, es, m5, rfl, rfl, rfl, a5⟩
  case rest =>
    obtain ⟨gb, cc, ml, bk, va, vn, vc, es, m5, rfl, rfl, rfl, a5⟩ := hcut
    obtain ⟨met, hmet⟩ : ∃ met, riseI (natI s1.met) = met := ⟨_, rfl⟩
    obtain ⟨xs, hxs⟩ : ∃ xs, U.notF lx :: es = xs := ⟨_, rfl⟩
    rw [hmet] at HU
    obtain ⟨cf, hcfe⟩ : ∃ cf, s.cf = cf := ⟨_, rfl⟩
    obtain ⟨cx, hcx⟩ : ∃ cx : Int, ((s.cf + 1 : Nat) : Int) = cx := ⟨_, rfl⟩
    have hcx2 : (cf : Int) + 1 = cx := by rw [← hcx, hcfe]; omega
    rw [hcfe] at hcf
    have PM := hid a5.out.pm
    have BK := hid a5.out.bk
    have hml := a5.out.ml
    have hmn := a5.out.mn
    have LT := hid a5.out.lt
    have GN := hid a5.out.gn
    have c12 := a5.out.sm.c12
    rw [hcfe] at c12
    have f12 := a5.out.sm.frz 12
    have lt12 := a5.out.sm.sb_lt
    obtain ⟨m6, h6, k6⟩ := a5.out.sm.xcf (s.cf + 1)
    rw [hcx] at h6 k6
    have H6 := hid h6
    have HW : Hid ((s.ct (s.cf + 1)).wg ≤ 20000000000) := hid hw
    have GL6 := hid (k6.gv _ _ a5.out.gl)
    have GM6 := hid (k6.gv _ _ a5.out.gm)
    have K6 := hid ((KD.out.trans a5.out.kp).trans k6)
    rw [hxs] at GL6 LT
    rw [hmet] at GM6
    have HXS := hid hxs
    rw [← HNC.out] at hcl
    have HMET := hid hmet
    have HCX := hid hcx
    have HCF := hid hcfe
    have hMl := hid GL6.out.one.1
    have hMm := hid GM6.out.one.1
    clear h6 k6 a5 hxs hmet hcx HD KD GD c0 c3 HL hcfe
    go_upto_region 3 with (first
      | (go_at_call 52; with_reducible (refine (weigh_is H6.out GM6.out HW.out).mono ?_); rintro e w7 ⟨rfl, n7⟩; have n8 := Nx.out n7; obtain ⟨m7, h7, k7⟩ := n8))
    obtain ⟨m8, h8, k8⟩ := h7.out.xbelow (below_drew w7)
    have GL8 := hid (k8.gv _ _ (k7.out.gv _ _ GL6.out))
    have GM8 := hid (k8.gv _ _ (k7.out.gv _ _ GM6.out))
    have H8 := hid h8
    have K8 := hid ((K6.out.trans k7.out).trans k8)
    have d12 := h7.out.c12
    rw [show (weighF (s.ct (s.cf + 1)) met).cf = s.cf + 1 from (lrn1_flds s met).2.2.2.2.1, HCX.out] at d12
    have DD := hid (bl_cell (below_drew w7) d12)
    have HRS : Hid (rsnF (weighF (s.ct (s.cf + 1)) met).L (weighF (s.ct (s.cf + 1)) met).lev x met = rsnF s.L s.lev x met) := hid (by
      have q := lrn1_flds s met
      show rsnF (lrn1 s met).L (lrn1 s met).lev x met = _
      rw [q.1, q.2.1])
    have HFL : Hid ((weighF (s.ct (s.cf + 1)) met).fs.length = s.fs.length) := hid (by
      show (lrn1 s met).fs.length = _
      rw [(lrn1_flds s met).2.2.1])
    have hvn : vn ≤ 100000 := by omega
    have HRL := hid (rsn_len s.L s.lev x met)
    clear h7 k7 n7 h8 k8 H6 GL6 GM6 K6 c12 f12
    go_cut [6] from 33 to 45 (fun v6 wz => ∃ m', Hid (Sm c w0 g (lrn2 c s x met) m' wz) ∧ Hid (Kp w0 w m.ow wz m'.ow) ∧ Hid (GVt w0 wz m'.ow [.slice (some ⟨gb, 0, none⟩) ml cc] [xs]))
    case first =>
      go_region_with (first
        | (go_at_call 54; with_reducible (refine (reasons_is H8.out GM8.out x hvn).mono ?_); rintro e w9 ⟨b9, k9, p9, rfl, o9, bl9⟩; have n9 := Nx.out (H8.out.xbelow bl9.out); obtain ⟨m9, h9, q9⟩ := n9; have d129 := bl_cell bl9.out DD.out)
        | (go_at_call 53; with_reducible (refine (use_is h9.out o9.out cx (by rw [HRS.out, HFL.out]; intro y hy hge; have := HU.out y hy; omega) (by rw [HRS.out]; intro y hy; have := HU.out y hy; omega) (by have e1 := (own_row o9.out).1; rw [HRS.out] at e1; have e2 := HRL.out; have e3 := hMm.out; omega) hf (by rw [HFL.out]; exact hfs)).mono ?_); rintro e w10 ⟨rfl, n10⟩; have n11 := Nx.out n10; obtain ⟨m10, h10, q10⟩ := n11))
      all_goals go_wp2
      all_goals go_meet
      all_goals exact ⟨m10, hid (by have := h10.out; rw [HRS.out] at this; unfold lrn2; rw [HCX.out]; exact this), hid ((K8.out.trans q9.out).trans q10.out), hid (q10.out.gv _ _ (q9.out.gv _ _ GL8.out))⟩
    case rest =>
      clear H8 GM8 GL8 K8 d12 DD HRS HFL HRL
      obtain ⟨m1, h1, k1, g1⟩ := hcut
      obtain ⟨m2, h2, k2⟩ := h1.out.xbelow (below_drew _)
      have H2 := hid h2
      have K2 := hid (k1.out.trans k2)
      have G2 := hid (k2.gv _ _ g1.out)
      have d0 := h1.out.c0
      have d12 := h1.out.c12
      rw [(lrn2_flds c s x met).2.2.2.1, HCX.out] at d12
      have DD := hid (bl_cell (below_drew _) d12)
      have DZ := hid (bl_cell (below_drew _) d0)
      obtain ⟨gq, hgq⟩ : ∃ gq, (glueF s.L xs).2 = gq := ⟨_, rfl⟩
      have HG := hid hgq
      have HLL := hid (lrn2_flds c s x met).1
      have HX0 : Hid (∀ y ∈ xs, 0 ≤ y) := hid (fun y hy => (LT.out y hy).1)
      have hml2 : ml ≤ 100000 := by omega
      have HKN : Hid (c.k.n ≤ 4096) := hid (by have : c.k.n = c.kw.n := h1.out.W.j.n; omega)
      have HFL := hid (lrn2_flds c s x met).2.2.2.2.2.2
      have HNL := hid (lrn2_flds c s x met).2.2.1
      clear h1 k1 g1 h2 k2 hgq
      go_upto_region 4 with fail
      go_cut [6] from 45 to 62 (fun v6 wz => ∃ m', Hid (Sm c w0 g (lrn3 c s x met xs) m' wz) ∧ Hid (Kp w0 w m.ow wz m'.ow) ∧ Hid (GVt w0 wz m'.ow [.slice (some ⟨gb, 0, none⟩) ml cc] [xs]))
      case first =>
        go_region_with (first
          | (go_at_call 56; with_reducible (refine (glue_is H2.out.W.j.t HKN.out G2.out.one HX0.out hml2).mono ?_); rw [HLL.out, HG.out]; rintro e w9 ⟨rfl, bl9⟩; have n9 := Nx.out (H2.out.xbelow bl9); obtain ⟨m9, h9, q9⟩ := n9; have d129 := bl_cell bl9 DD.out; have d09 := bl_cell bl9 DZ.out)
          | (go_at_call 55; with_reducible (refine (sadd_is h9.out ⟨(ml : Nat), (gq : Nat), cx⟩ (by rw [HFL.out]; exact hfs) (by rw [HNL.out]; exact hns) hf).mono ?_); rintro e w10 ⟨rfl, n10⟩; have n11 := Nx.out n10; obtain ⟨m10, h10, q10⟩ := n11))
        all_goals go_wp2
        all_goals go_meet
        all_goals exact ⟨m10, hid (by have := h10.out; unfold lrn3; rw [HCX.out, HG.out, hMl.out]; exact this), hid ((K2.out.trans q9.out).trans q10.out), hid (q10.out.gv _ _ (q9.out.gv _ _ G2.out))⟩
      case rest =>
        clear H2 K2 G2 d0 d12 DD DZ HG HLL HX0 HKN HFL HNL
        obtain ⟨m1, h1, k1, g1⟩ := hcut
        have HB := hid (goBack4 h1.out bk)
        have HCL : Hid ((lrn4 c s x met xs bk).cls.length ≤ 1000000) := hid (by rw [(lrn4_flds c s x met xs bk).1]; exact hcl)
        have HPL : Hid ((lrn5 c s x met xs bk).prf.length = s.prf.length) := hid (by show (lrn4 c s x met xs bk).prf.length = _; rw [(lrn4_flds c s x met xs bk).2])
        have hm1 : ml ≤ 1000 := by omega
        clear h1
        go_upto_region 7 with (first
          | (go_at_call 57; with_reducible (refine HB.out.mono ?_); rintro e w2 ⟨rfl, n2⟩; have n3 := Nx.out n2; obtain ⟨m3, h3, k3⟩ := n3)
          | (go_at_call 28; with_reducible (refine (add_s h3.out (k3.out.gv _ _ g1.out) hm1 LT.out hnx hpl HCL.out).mono ?_); rintro e w4 ⟨g4, rfl, n4, d4⟩; have n5 := Nx.out n4.out; obtain ⟨m5, h5, k5⟩ := n5))
        have G5 := hid (k5.out.gv _ _ (k3.out.gv _ _ g1.out))
        have K5 := hid ((k1.out.trans k3.out).trans k5.out)
        have H5 : Hid (Sm c w0 g4 (lrn5 c s x met xs bk) m5 w4) := hid h5.out
        have D4 : Hid (AddD c.kw.n w.heap.size g g4 xs) := hid (d4.out.lo_mono (Nat.le_trans k1.out.sz k3.out.sz))
        obtain ⟨vs, q1, q2, q3⟩ := H5.out.pr
        have x9 := H5.out.c9
        rw [HPL.out] at q1
        obtain ⟨PL, hPL⟩ : ∃ PL, s.prf.length = PL := ⟨_, rfl⟩
        rw [hPL] at q1 hpr
        obtain ⟨pa, pp, epv⟩ : ∃ pa pp, m5.pv = .slice pa PL pp := by
          rcases q1.2 with ⟨e, e2⟩ | ⟨b, cap, cur, e, _⟩
          · exact ⟨none, 0, by rw [e, e2]⟩
          · exact ⟨_, cap, e⟩
        obtain ⟨v7, w7, r7, o7, g7, n7⟩ := run_cls (w1 := w4) (w := w4.alloc (.cells #[.slice (some ⟨gb, 0, none⟩) ml cc] 42)) 0 (.slice (some ⟨gb, 0, none⟩) ml cc) rfl (by go_grown) w0.heap.size m5.pv PL vs q1 w4.heap.size (cell_of (o := 0) (new_same w4 _)) hpr H5.out.b0.size
        obtain ⟨b7, p7, rfl⟩ := own_pos o7
        rw [← hPL, ← HPL.out] at q1 o7
        obtain ⟨q7, h8, k8⟩ := H5.out.addp (xs := xs) q1 (q3.1.app G5.out) q2 o7 g7 n7 (q3.2.app (fun _ u hu a n c' e h0 => by rw [List.mem_singleton] at hu; rw [hu] at e; cases e; exact ⟨gb, 0, rfl, GN.out⟩))
        rw [HPL.out, hPL] at h8 k8
        have y9 : w7.cell? ⟨c.SB, 9, none⟩ = some m5.pv := by rw [cell_of q7]; rfl
        have u9' : w7.frozen? ⟨c.SB, 9, none⟩ = false := frozen_of q7
        rw [epv] at x9 y9
        have R7 : Hid (∀ ty, (Builtin.append_ #[22, 22] ty #[.slice pa PL pp, .slice (some ⟨w4.heap.size, 0, none⟩) 1 1]).run Tryz.prog (w4.alloc (.cells #[.slice (some ⟨gb, 0, none⟩) ml cc] 42)) = .ok (.slice (some ⟨b7, 0, none⟩) (PL + 1) p7) w7) := hid (fun ty => by rw [← epv]; exact r7)
        have HE : Hid (Nx c w0 w m g4 (lrnF c s x met xs bk) (w7.setCell ⟨c.SB, 9, none⟩ (.slice (some ⟨b7, 0, none⟩) (PL + 1) p7))) := hid ⟨_, h8, K5.out.trans k8⟩
        have lt5 := H5.out.sb_lt
        have HPE := hid hPL
        clear h8 k8 q7 o7 g7 n7 r7 q1 q2 q3 h5 k5 h3 k3 n4 d4 G5 H5 K5 g1 k1 hPL HPL HB n2
        go_wp2_with (at_builtin; refine list_of (t := 22) (v := .slice pa PL pp) (u := .slice (some ⟨w4.heap.size, 0, none⟩) 1 1) rfl _ _ rfl rfl rfl (R7.out _) ?_)
        go_end0
        refine ⟨es, g4, rfl, PM, ?_, ?_⟩
        · rw [HMET.out, HXS.out, ← BK.out]; exact HE
        · rw [HXS.out]; exact D4
end
end Go.Proofs.YtimfjoinjfecjaaGreat
