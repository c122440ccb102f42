/-
  move, exactly.
  sat.
-/
import Derived.Test.YtimfjoinjfecjaaGreatQ32
import Derived.Test.YtimfjoinjfecjaaGreatQ24
import Derived.Test.YtimfjoinjfecjaaGreatQ36
import Derived.Test.YtimfjoinjfecjaaGreatQ31

namespace Go.Proofs.YtimfjoinjfecjaaGreat
open Go.RowKit Go.Maps
set_option linter.unusedVariables false

section
variable {k : K} {kw : WK} {w w1 w2 : World} {g : G} {L : List E} {lev : Nat} {p : V} {c : Nat}

def MoveX (k : K) (kw : WK) (g : G) (L : List E) (lev : Nat) (p : V) (c : Nat) (y : Int) (w : World) (e : Ending) (w' : World) : Prop :=
  (e = .returned (.bool false) ∧ valueF L y = 1 ∧ Below w.heap.size w w') ∨
  (e = .returned (.bool false) ∧ valueF L y ≤ 0 ∧ (∀ x ∈ g.lt c, x ≠ y → valueF L x < 0) ∧ ∃ f, seekA L (g.lt c) y (g.lt c).length (g.fr c) = (-1, f) ∧ (f < (g.lt c).length ∨ g.lt c = []) ∧ J k kw w' (g.from c f) L lev p ∧ FW kw.B w w') ∨
  (e = .returned (.bool true) ∧ valueF L y ≤ 0 ∧ ∃ f z v, seekA L (g.lt c) y (g.lt c).length (g.fr c) = (((z : Nat) : Int), f) ∧ (f < (g.lt c).length ∨ g.lt c = []) ∧ (z : Int) ∈ g.lt c ∧ (z : Int) ≠ y ∧ 0 ≤ valueF L z ∧ J k kw w' (((g.from c f).watch c y z).slot z (g.P z ++ [c]) v) L lev p ∧ FW kw.B w w')

set_option maxHeartbeats 2000000 in
theorem move_ex (j : J k kw w g L lev p) (hc : c < g.nx) (hg : g.gn c = false) (x y : Int) (hy : besideF g c x = y) (hym : y ≤ 9223372036854775807) (h0 : ∀ x ∈ g.lt c, 0 ≤ x ∧ x < 2 * kw.n) (hf : g.fr c < (g.lt c).length ∨ g.lt c = []) (hl : ∀ l, l < 2 * kw.n → (g.P l).length ≤ 1000000000000) :
    Calls Tryz.prog 116 #[.pointer (some ⟨kw.OB, 0, none⟩), .pointer (some ⟨k.OB, 0, none⟩), .pointer (some ⟨g.cb c, 0, none⟩), .int .i64 x] w fun e w' => MoveX k kw g L lev p c y w e w' := by
  have HJ := hid j
  have HB := hid hy
  have H0 := hid h0
  have HF := hid hf
  have HL := hid hl
  obtain ⟨vy, hvy⟩ : ∃ v, valueF L y = v := ⟨_, rfl⟩
  have HV := hid hvy
  have hN := nat_none
  by_cases hp : 0 < vy
  · have hv1 : Hid (valueF L y = 1) := hid (by rcases val_cases (L := L) y with q | ⟨q, _⟩ | ⟨q, _⟩ <;> omega)
    clear j hy h0 hf hl hvy
    go_enter Tryz.func116, Tryz.ntmps116
    go_wp2_with (first
      | (go_at_call 117; with_reducible (refine (beside_is HJ.out.s.l hc hg x y HB.out).mono ?_); rintro e w ⟨rfl, rfl⟩)
      | (go_at_call 138; with_reducible (refine (value_is HJ.out.t y hym HV.out).mono ?_); rintro e w2 ⟨rfl, b2⟩))
    go_ret
    exact .inl ⟨rfl, hv1.out, b2.out⟩
  · have hnp : Hid (valueF L y ≤ 0) := hid (by rw [hvy]; omega)
    have H00 := hid (fun x hx => (H0.out x hx).1)
    have HOB : Hid (kw.n ≤ 1048576) := hid j.s.l.hn
    clear j hy h0 hf hl hvy
    go_enter Tryz.func116, Tryz.ntmps116
    go_upto_region 8 with (first
      | (go_at_call 117; with_reducible (refine (beside_is HJ.out.s.l hc hg x y HB.out).mono ?_); rintro e w ⟨rfl, rfl⟩)
      | (go_at_call 138; with_reducible (refine (value_is HJ.out.t y hym HV.out).mono ?_); rintro e w2 ⟨rfl, b2⟩; have J2 := hid (HJ.out.below b2.out))
      | (go_at_call 141; with_reducible (refine (seek_ex J2.out hc hg y H00.out HF.out).mono ?_); rintro e w3 ⟨z, f, rfl, hsk, hf3, J3, F3⟩; have hsx := hid hsk.out.2; have hsk2 := SeekR.out hsk.out.1; rcases hsk2 with ⟨rfl, hno⟩ | ⟨m, rfl, hm⟩; rotate_left; have K3 := ks_from J3.out hc hg; obtain ⟨k2, k3, f2, f3⟩ := K3))
    · have hmr := H0.out _ hm.out.1
      have hml : m < 2 * kw.n := by omega
      have hml' : (m : Int) < 2 * kw.n := by omega
      have hn := HOB.out
      have s1 : Hid (St kw ((w3.setCell ⟨g.cb c, 2, none⟩ (.int .i64 y)).setCell ⟨g.cb c, 3, none⟩ (.int .i64 m)) ((g.from c f).watch c y m)) := hid (J3.out.s.putwatch (i := c) hc hg y m)
      have F1 : Hid (FW kw.B w3 ((w3.setCell ⟨g.cb c, 2, none⟩ (.int .i64 y)).setCell ⟨g.cb c, 3, none⟩ (.int .i64 m))) := hid (J3.out.s.watchFW (c := c) hc (.int .i64 y) (.int .i64 m))
      revert s1 F1
      generalize ((w3.setCell ⟨g.cb c, 2, none⟩ (.int .i64 y)).setCell ⟨g.cb c, 3, none⟩ (.int .i64 (m : Int))) = w4
      intro s1 F1
      clear k2 k3 f2 f3
      obtain ⟨aa, pa, ea, _⟩ := (HJ.out.s.l.rw m (by omega)).shape
      go_cut [] from 11 to 45 (fun wx => ∃ v, Hid (St kw wx (((g.from c f).watch c y m).slot m (g.P m ++ [c]) v)) ∧ Hid (FW kw.B w wx))
      case first =>
        have d2 := s1.out.c2
        have d3 := s1.out.c.wc hml
        have B1 : Below w4.heap.size w4 (w4.alloc (.cells #[.pointer (some ⟨g.cb c, 0, none⟩)] 92)) := by go_grown
        have d2' := (s1.out.below B1).c2
        have d3' := (s1.out.below B1).c.wc hml
        rw [show ((g.from c f).watch c y m).pv m = g.pv m from rfl, ea] at d3 d3'
        have hlm := HL.out m hml
        go_region_law (refine step_pone (w1 := w4) (cb := g.cb) rfl _ _ rfl c rfl (g.pv m) (g.P m) ea.symm (s1.out.l.rw m (by omega)) _ rfl (by simp) (by omega) ?_; intro v5 w5 own5 g5 new5; have m5 := push_at s1.out hml hc rfl rfl own5.out g5.out new5.out; obtain ⟨b6, o6, p6, rfl, q0, q1, q2, s6, F6⟩ := m5; rw [show ((g.from c f).watch c y m).pv m = g.pv m from rfl, ea] at q1)
        all_goals go_wp2_with fail
        all_goals go_meet
        all_goals exact ⟨_, s6, hid ((((FW.below b2.out).trans F3.out).trans F1.out).trans F6.out)⟩
      case rest =>
        obtain ⟨v, s7, F7⟩ := hcut
        go_wp2
        go_ret
        exact .inr (.inr ⟨rfl, hnp.out, f, m, v, hsx.out, hf3.out, hm.out.1, hm.out.2.1, hm.out.2.2, HJ.out.fw F7.out s7.out rfl rfl rfl rfl, F7.out⟩)
    · go_ret
      exact .inr (.inl ⟨rfl, hnp.out, hno.out, f, hsx.out, hf3.out, J3.out, (FW.below b2.out).trans F3.out⟩)

theorem move_seek_ex (j : J k kw w g L lev p) (hc : c < g.nx) (hg : g.gn c = false) (x y : Int) (hy : besideF g c x = y) (hym : y ≤ 9223372036854775807) (h0 : ∀ x ∈ g.lt c, 0 ≤ x ∧ x < 2 * kw.n) (hf : g.fr c < (g.lt c).length ∨ g.lt c = []) (hl : ∀ l, l < 2 * kw.n → (g.P l).length ≤ 1000000000000) (hv : valueF L y ≤ 0) :
    Calls Tryz.prog 116 #[.pointer (some ⟨kw.OB, 0, none⟩), .pointer (some ⟨k.OB, 0, none⟩), .pointer (some ⟨g.cb c, 0, none⟩), .int .i64 x] w fun e w' =>
      (∃ f, e = .returned (.bool false) ∧ Hid (seekA L (g.lt c) y (g.lt c).length (g.fr c) = (-1, f)) ∧ Hid (∀ x ∈ g.lt c, x ≠ y → valueF L x < 0) ∧ Hid (f < (g.lt c).length ∨ g.lt c = []) ∧ Hid (J k kw w' (g.from c f) L lev p) ∧ Hid (FW kw.B w w')) ∨
      (∃ (f z : Nat) (v : Value), e = .returned (.bool true) ∧ Hid (seekA L (g.lt c) y (g.lt c).length (g.fr c) = ((z : Int), f)) ∧ Hid ((f < (g.lt c).length ∨ g.lt c = []) ∧ (z : Int) ∈ g.lt c ∧ (z : Int) ≠ y ∧ 0 ≤ valueF L z) ∧ Hid (J k kw w' (((g.from c f).watch c y z).slot z (g.P z ++ [c]) v) L lev p) ∧ Hid (FW kw.B w w')) := by
  refine (move_ex j hc hg x y hy hym h0 hf hl).mono ?_
  rintro e w' (⟨_, h, _⟩ | ⟨rfl, _, h1, f, h0x, h2, h3, h4⟩ | ⟨rfl, _, f, z, v, h0x, h1, h2, h3, h4, h5, h6⟩)
  · omega
  · exact .inl ⟨f, rfl, h0x, h1, h2, h3, h4⟩
  · exact .inr ⟨f, z, v, rfl, h0x, ⟨h1, h2, h3, h4⟩, h5, h6⟩
end
end Go.Proofs.YtimfjoinjfecjaaGreat

namespace Go.Proofs.YtimfjoinjfecjaaGreat
open Go.RowKit Go.Maps
set_option linter.unusedVariables false
section
variable {c : SC} {w0 w w' : World} {g g' : G} {s s' : SS} {m m' : MV}

set_option maxRecDepth 20000 in
set_option maxHeartbeats 2000000 in
theorem sat_is (h : Sm c w0 g s m w) : Calls Tryz.prog 37 #[.pointer (some ⟨c.SB, 0, none⟩)] w fun e w' => ∃ tb, e = .returned (.agg #[.int .i64 1, .slice (some ⟨tb, 0, none⟩) c.kw.n c.kw.n, .int .i64 s.cf, .slice none 0 0]) ∧ Hid (Below w0.heap.size w0 w') ∧ Hid (w'.heap[tb]? = some (.cells ((ktF s (-1)).tr.map Value.bool).toArray 4 (0, 0))) ∧ Hid ((ktF s (-1)).tr.length = c.kw.n) ∧ Hid (∀ j, j < w.heap.size → m.ow j = 9 → w'.heap[j]? = w.heap[j]? ∧ j ≠ tb) := by
  have hal : Below w.heap.size w (w.alloc (.cells #[.int .i64 0, .slice none 0 0, .int .i64 0, .slice none 0 0] 27)) := by go_grown
  have hz := h.fresh hal (fun j => decide (j = w.heap.size)) (fun j hj _ _ => ⟨27, by cases of_decide_eq_true hj; exact ⟨_, _, new_same w _⟩, by simp [Wt]⟩)
  obtain ⟨h1, k1⟩ := hz
  have HK := hid (keep_s h1 (-1))
  have hrb : Hid ((w.alloc (.cells #[.int .i64 0, .slice none 0 0, .int .i64 0, .slice none 0 0] 27)).heap[w.heap.size]? = some (.cells #[.int .i64 0, .slice none 0 0, .int .i64 0, .slice none 0 0] 27)) := hid (new_same w _)
  have hw0 : w0.heap.size ≤ w.heap.size := h.b0.size
  obtain ⟨cf, hcf⟩ : ∃ cf, s.cf = cf := ⟨_, rfl⟩
  have HCF : Hid ((ktF s (-1)).cf = cf) := hid hcf
  have OW : Hid (owZ m.ow w.heap.size (fun j => decide (j = w.heap.size)) w.heap.size = 0) := hid (owZ_new (Nat.le_refl _) (by simp))
  have ZZ : Hid (∀ j, j < w.heap.size → m.ow j = 9 → owZ m.ow w.heap.size (fun j => decide (j = w.heap.size)) j = 9 ∧ (w.alloc (.cells #[.int .i64 0, .slice none 0 0, .int .i64 0, .slice none 0 0] 27)).heap[j]? = w.heap[j]?) := hid (fun j hj e => ⟨by rw [owZ_old hj]; exact e, hal.block j hj⟩)
  have HAS := hid hal.size
  clear h k1 h1 hal
  go_enter Tryz.func37, Tryz.ntmps37
  go_upto_region 2 with (first
    | (go_at_call 63; with_reducible (refine HK.out.mono ?_); rintro e w2 ⟨rfl, n2⟩; have n3 := Nx.out n2; obtain ⟨m2, h2, k2⟩ := n3))
  have hr7 : w2.heap[w.heap.size]? = some (.cells #[.int .i64 0, .slice none 0 0, .int .i64 0, .slice none 0 0] 27) := ((k2.out.zz _ (blk_lt hrb.out) (.inl OW.out)).1).trans hrb.out
  have c10 := h2.out.c10
  have c12 := h2.out.c12
  rw [HCF.out] at c12
  have z0 : w2.cell? ⟨w.heap.size, 0, none⟩ = some (.int .i64 0) := cell_of hr7
  have z1 : w2.cell? ⟨w.heap.size, 1, none⟩ = some (.slice none 0 0) := cell_of hr7
  have z2 : w2.cell? ⟨w.heap.size, 2, none⟩ = some (.int .i64 0) := cell_of hr7
  have z3 : w2.cell? ⟨w.heap.size, 3, none⟩ = some (.slice none 0 0) := cell_of hr7
  have y0 : w2.frozen? ⟨w.heap.size, 0, none⟩ = false := frozen_of hr7
  have y1 : w2.frozen? ⟨w.heap.size, 1, none⟩ = false := frozen_of hr7
  have y2 : w2.frozen? ⟨w.heap.size, 2, none⟩ = false := frozen_of hr7
  have y3 : w2.frozen? ⟨w.heap.size, 3, none⟩ = false := frozen_of hr7
  have h8 : (((((w2.setCell ⟨w.heap.size, 0, none⟩ (.int .i64 1)).setCell ⟨w.heap.size, 1, none⟩ (.slice (some ⟨m2.tb, 0, none⟩) c.kw.n c.kw.n)).setCell ⟨w.heap.size, 2, none⟩ (.int .i64 cf)).setCell ⟨w.heap.size, 3, none⟩ (.slice none 0 0)).drew).heap[w.heap.size]? = some (.cells #[.int .i64 1, .slice (some ⟨m2.tb, 0, none⟩) c.kw.n c.kw.n, .int .i64 cf, .slice none 0 0] 27 (0, 0)) := (set_same (set_same (set_same (set_same hr7 _) _) _) _).trans rfl
  have H8 := hid h8
  have hne : m2.tb ≠ w.heap.size := fun e => by
    have t1 : Typ w2 m2.tb 4 := ⟨_, _, h2.out.tr.1⟩
    rw [e] at t1
    have t2 : Typ w2 w.heap.size 27 := ⟨_, _, hr7⟩
    exact absurd (t1.one t2) (by decide)
  have HT : Hid ((((((w2.setCell ⟨w.heap.size, 0, none⟩ (.int .i64 1)).setCell ⟨w.heap.size, 1, none⟩ (.slice (some ⟨m2.tb, 0, none⟩) c.kw.n c.kw.n)).setCell ⟨w.heap.size, 2, none⟩ (.int .i64 cf)).setCell ⟨w.heap.size, 3, none⟩ (.slice none 0 0)).drew).heap[m2.tb]? = some (.cells ((ktF s (-1)).tr.map Value.bool).toArray 4 (0, 0))) := hid (by
    show ((((w2.setCell _ _).setCell _ _).setCell _ _).setCell _ _).heap[m2.tb]? = _
    rw [set_other _ hne, set_other _ hne, set_other _ hne, set_other _ hne]; exact h2.out.tr.1)
  have HB : Hid (Below w0.heap.size w0 (((((w2.setCell ⟨w.heap.size, 0, none⟩ (.int .i64 1)).setCell ⟨w.heap.size, 1, none⟩ (.slice (some ⟨m2.tb, 0, none⟩) c.kw.n c.kw.n)).setCell ⟨w.heap.size, 2, none⟩ (.int .i64 cf)).setCell ⟨w.heap.size, 3, none⟩ (.slice none 0 0)).drew)) := hid (by
    have b := below_set (a := ⟨w.heap.size, 3, none⟩) (v := .slice none 0 0) (below_set (a := ⟨w.heap.size, 2, none⟩) (v := .int .i64 cf) (below_set (a := ⟨w.heap.size, 1, none⟩) (v := .slice (some ⟨m2.tb, 0, none⟩) c.kw.n c.kw.n) (below_set (a := ⟨w.heap.size, 0, none⟩) (v := .int .i64 1) h2.out.b0 hw0) hw0) hw0) hw0
    exact b.trans ((below_drew _).mono b.size))
  have HN := hid h2.out.tr.2
  have H9 : Hid (∀ j, j < w.heap.size → m.ow j = 9 → (((((w2.setCell ⟨w.heap.size, 0, none⟩ (.int .i64 1)).setCell ⟨w.heap.size, 1, none⟩ (.slice (some ⟨m2.tb, 0, none⟩) c.kw.n c.kw.n)).setCell ⟨w.heap.size, 2, none⟩ (.int .i64 cf)).setCell ⟨w.heap.size, 3, none⟩ (.slice none 0 0)).drew).heap[j]? = w.heap[j]? ∧ j ≠ m2.tb) := hid (fun j hj e => by
    obtain ⟨z1, z2⟩ := ZZ.out j hj e
    obtain ⟨z3, z4⟩ := k2.out.zz j (Nat.lt_of_lt_of_le hj HAS.out) (.inr z1)
    have hne2 : j ≠ w.heap.size := by omega
    refine ⟨?_, fun q => ?_⟩
    · show ((((w2.setCell _ _).setCell _ _).setCell _ _).setCell _ _).heap[j]? = _
      rw [set_other _ hne2, set_other _ hne2, set_other _ hne2, set_other _ hne2, z3, z2]
    · have := h2.out.t.tb
      rw [← q, z4] at this
      have z5 : owZ m.ow w.heap.size (fun j => decide (j = w.heap.size)) j = 7 := this
      omega)
  clear h8 hr7 hne
  go_region
  all_goals
    generalize hW8 : ((((w2.setCell ⟨w.heap.size, 0, none⟩ (.int .i64 1)).setCell ⟨w.heap.size, 1, none⟩ (.slice (some ⟨m2.tb, 0, none⟩) c.kw.n c.kw.n)).setCell ⟨w.heap.size, 2, none⟩ (.int .i64 cf)).setCell ⟨w.heap.size, 3, none⟩ (.slice none 0 0)).drew = w8 at *
    clear hW8 z0 z1 z2 z3 y0 y1 y2 y3
    have r0 : w8.cell? ⟨w.heap.size, 0, none⟩ = some (.int .i64 1) := cell_of H8.out
    have r1 : w8.cell? ⟨w.heap.size, 1, none⟩ = some (.slice (some ⟨m2.tb, 0, none⟩) c.kw.n c.kw.n) := cell_of H8.out
    have r2 : w8.cell? ⟨w.heap.size, 2, none⟩ = some (.int .i64 cf) := cell_of H8.out
    have r3 : w8.cell? ⟨w.heap.size, 3, none⟩ = some (.slice none 0 0) := cell_of H8.out
  all_goals go_wp2
  all_goals (try simp only [Exit.inBlock, Exit.then])
  all_goals refine bodyPost_ret (by simp [results, Tryz.results37, go_sem, r0, r1, r2, r3]; try rfl) rfl ?_
  all_goals rw [hcf]
  all_goals exact ⟨m2.tb, rfl, HB, HT, HN, H9⟩
end
end Go.Proofs.YtimfjoinjfecjaaGreat
