/-
  Add: a clause more.
  A watch, clauses in a list beside it, and what Run tells.
-/
import Derived.Test.YtimfjoinjfecjaaGreatP24
import Derived.WalkSpells
import Derived.Carry
import Derived.Deep.Cut
import Derived.Deep.CutRange
import Derived.Test.YtimfjoinjfecjaaGreatP10

namespace Go.Proofs.YtimfjoinjfecjaaGreat
open Go.RowKit Go.Maps
set_option linter.unusedVariables false

section
variable {k : K} {kw : WK} {w w1 : World} {g : G} {L : List E} {lev : Nat} {p : V} {H : List Int}

theorem Wa.add {w' : World} {cn mb : Nat} {lv v : Value} {xs : List Int} (W : Wa k kw w g L lev p H) (s : St kw w' ((addG g cn lv xs mb).slot (3 * kw.n) (g.P (3 * kw.n) ++ [g.nx]) v)) (F : FW kw.B w w') (hx : ∀ x ∈ xs, 0 ≤ x ∧ x < 2 * (kw.n : Int)) (hlv : ∀ j, lv.ownBlock = some j → 0 < xs.length → w.heap.size ≤ j) :
    Wa k kw w' ((addG g cn lv xs mb).slot (3 * kw.n) (g.P (3 * kw.n) ++ [g.nx]) v) L lev p H ∧ AddD kw.n w.heap.size g ((addG g cn lv xs mb).slot (3 * kw.n) (g.P (3 * kw.n) ++ [g.nx]) v) xs := by
  have hP : ((addG g cn lv xs mb).slot (3 * kw.n) (g.P (3 * kw.n) ++ [g.nx]) v).P (3 * kw.n) = g.P (3 * kw.n) ++ [g.nx] := up_same _ _ _
  refine ⟨⟨⟨W.j.t.fw F, s, W.j.n, W.j.b, fun i hi hg j e h0 m => ?_⟩, ?_, W.ht.ft (FT.fw F), W.hf, W.hH, W.hl, (W.rs.add (cn := cn) (lv := lv) (mb := mb) (xs := xs)).as rfl rfl rfl⟩, rfl, rfl, rfl, ?_, rfl, rfl, ⟨lv, rfl, hlv⟩, rfl, rfl, rfl, rfl, rfl, rfl⟩
  · change i < g.nx + 1 at hi
    change up g.gn g.nx false i = false at hg
    change (up g.lv g.nx lv i).ownBlock = some j at e
    change 0 < (up g.lt g.nx xs i).length at h0
    by_cases q : i = g.nx
    · subst q
      rw [up_same] at e h0
      have h1 := hlv j e h0
      have h2 := (W.j.t.lt m).2
      omega
    · rw [up_ne _ _ q] at e h0 hg
      exact W.j.aw i (by omega) hg j e h0 m
  · have i1 := W.iv.add (cn := cn) (lv := lv) (mb := mb) hx W.j.s.l.sub
    have i2 := i1.more (s := 3 * kw.n) (by omega) (xs := g.P (3 * kw.n) ++ [g.nx]) (fun i hi => List.mem_append.2 (.inl hi)) v
    refine i2.mono (fun _ => Nat.le_refl _) (fun i hi => ?_)
    rw [hP]
    rcases hi with hi | hi
    · exact List.mem_append.2 (.inl hi)
    · exact List.mem_append.2 (.inr (by rw [hi]; simp))
  · unfold tot
    rw [hP, sum_other (.inr (Nat.le_refl _)), List.length_append]
    simp only [List.length_singleton]
    have : (addG g cn lv xs mb).P = g.P := rfl
    rw [this]; omega

theorem add_push {cn mb : Nat} {lv v : Value} {xs : List Int} {a : Option Addr} {n c : Nat} (s : St kw w (addG g cn lv xs mb)) (hv : g.pv (3 * kw.n) = .slice a n c)
    (own : PRow w1 (addG g cn lv xs mb).cb v ((addG g cn lv xs mb).P (3 * kw.n) ++ [g.nx])) (gr : w.grownBy w1 (Value.slice a n c).ownBlock) (nw : Nw w (.slice a n c) v) :
    w1.cell? ⟨kw.OB, 4, none⟩ = some (.slice a n c) ∧ w1.frozen? ⟨kw.OB, 4, none⟩ = false ∧ Hid (St kw (w1.setCell ⟨kw.OB, 4, none⟩ v) ((addG g cn lv xs mb).slot (3 * kw.n) (g.P (3 * kw.n) ++ [g.nx]) v)) ∧ Hid (FW kw.B w (w1.setCell ⟨kw.OB, 4, none⟩ v)) ∧ (w1.setCell ⟨kw.OB, 4, none⟩ v).cell? ⟨cn, 0, none⟩ = some (.int .i64 g.nx) := by
  have hv' : (addG g cn lv xs mb).pv (3 * kw.n) = .slice a n c := hv
  have hlt : g.nx < (addG g cn lv xs mb).nx := Nat.lt_succ_self _
  have m := s.pusha (zs := (addG g cn lv xs mb).P (3 * kw.n) ++ [g.nx]) (mem_one (s.l.sub _ (Nat.le_refl _)) hlt) own (by rw [hv']; exact gr) (by rw [hv']; exact nw)
  rw [hv'] at m
  obtain ⟨m1, m2, m3, m4⟩ := m
  refine ⟨m1, m2, m3, m4, ?_⟩
  have := (m3.out.l.ks (i := g.nx) hlt (up_same _ _ _)).1
  rw [show ((addG g cn lv xs mb).slot (3 * kw.n) ((addG g cn lv xs mb).P (3 * kw.n) ++ [g.nx]) v).cb g.nx = cn from up_same _ _ _] at this
  exact this

/-- The clause lies in a block of its own. -/
structure AddA (kw : WK) (w : World) (g : G) (xs : List Int) (cn : Nat) (lv : Value) (wx : World) : Prop where
  s : St kw wx g
  hc : wx.heap[cn]? = some (.cells (ccell g lv) 97 (0, 0))
  hf : ∀ i, i < g.nx → g.cb i ≠ cn
  hl : LitRow wx lv xs
  hv : ∀ j, lv.ownBlock = some j → 0 < xs.length → w.heap.size ≤ j
  lo : kw.B ≤ cn
  b : Below w.heap.size w wx

theorem AddA.mk' {xs : List Int} {wr w3 : World} {a3 : Option Addr} {n c3 : Nat} (s : St kw w g) (b1 : Below w.heap.size w wr) (b2 : Below wr.heap.size wr w3) (cp : Cpy wr w3 a3 n n xs) :
    AddA kw w g xs w3.heap.size (.slice a3 n n) (w3.alloc (.cells (ccell g (.slice a3 n n)) 97)) := by
  have b3 := Below.next b1 b2
  have b4 : Below w3.heap.size w3 (w3.alloc (.cells (ccell g (.slice a3 n n)) 97)) := by go_grown
  have s3 := s.below b3
  have b5 := Below.next b3 b4
  have cl := (cp.next (w1 := w) b4).lit
  refine ⟨s.below b5, new_same _ _, fun i hi e => ?_, cl.1, fun j hj h0 => ?_, ?_, b5⟩
  · have := blk_lt (s3.l.cl i hi); omega
  · have h1 := cl.2 j hj h0; have h2 := b1.size; omega
  · have h1 := s3.c.lo.1; have h2 := blk_lt s3.c.ob; omega

set_option maxRecDepth 20000 in
set_option maxHeartbeats 4000000 in
theorem add_is (W : Wa k kw w g L lev p H) (ta : Addr) {ao : Option Addr} {n c : Nat} {xs : List Int} (row : U.Row w ao n c xs) (hn : n ≤ 1000) (hx : ∀ x ∈ xs, 0 ≤ x ∧ x < 2 * (kw.n : Int)) (hnx : g.nx ≤ 1000000) (hpl : (g.P (3 * kw.n)).length ≤ 1000000000000) :
    Calls Tryz.prog 42 #[.pointer (some ⟨kw.OB, 0, none⟩), .pointer (some ta), .slice ao n c] w fun e w' => ∃ g', e = .returned (.tuple #[.int .i64 g.nx, .int .i64 0]) ∧ Hid (Wa k kw w' g' L lev p H) ∧ Hid (AddD kw.n w.heap.size g g' xs) ∧ Hid (FW kw.B w w') := by
  have HW := hid W
  have HR := hid row
  have HX := hid hx
  have hN := W.j.s.l.hn
  have hnn : (g.nx : Int) + 1 ≤ 9223372036854775807 := by omega
  clear W row hx
  go_enter Tryz.func42, Tryz.ntmps42
  go_wp2
  go_loopw [9, 19] (fun _ i wr => ∃ q : Nat, q ≤ n ∧ i = .int .i64 q ∧ Hid (Below w.heap.size w wr)) (fun _ i _ => n - (intOf i).toNat)
  case atStart => exact ⟨0, Nat.zero_le _, rfl, hid (Below.refl _ _)⟩
  case round =>
    obtain ⟨q, hq, rfl, hb⟩ := hrel
    by_cases hlt : q < n
    · have hlt' : (q : Int) < n := by omega
      obtain ⟨b, off, y, rfl, hc, hy, y0, y1⟩ := (HR.out.keep hb.out).at hlt
      have hg := HX.out y (List.mem_of_getElem? hy.out)
      obtain ⟨m, rfl⟩ := Int.eq_ofNat_of_zero_le hg.1
      have hu : m / 2 < kw.n := by omega
      have HG := hid hg
      clear hy hg
      go_wp2_with (go_at_call 69; with_reducible (refine (has_yes (HW.out.j.s.below hb.out) m (m / 2) rfl hu).mono ?_); rintro e w3 ⟨rfl, b3⟩)
      go_roundw
      case rel => exact ⟨q + 1, by omega, by go_num, hid (Below.next hb.out b3)⟩
      case measure => simp only [intOf]; omega
    · have hlt' : ¬ (q : Int) < n := by omega
      have hltd : decide ((q : Int) < n) = false := by simpa using hlt'
      have R0 := hid (HR.out.keep (Below.next hb.out (below_drew wr)))
      have c1 := (HW.out.j.s.below hb.out).c1
      have B0 := hid (below_drew wr)
      go_upto_region 9 with fail
      go_cut [10] from 28 to 37 (fun v wx => ∃ (cn : Nat) (lv : Value), v = .pointer (some ⟨cn, 0, none⟩) ∧ Hid (AddA kw w g xs cn lv wx))
      case first =>
        go_region_with (first
          | (go_at_call 71; with_reducible (refine (clone_is R0.out hn).mono ?_); rintro e w2 ⟨a2, k2, rfl, cp, b2⟩; have B2 := hid (Below.next B0.out b2.out); have c1' := ((HW.out.j.s.below hb.out).below B2.out).c1)
          | (go_at_call 70; with_reducible (refine (clip_is cp.out).mono ?_); rintro e w3 ⟨rfl, rfl⟩))
        all_goals go_wp2_with fail
        all_goals go_meet
        all_goals exact ⟨_, _, rfl, hid (AddA.mk' (c3 := 0) HW.out.j.s hb.out B2.out cp.out.full)⟩
      case rest =>
        obtain ⟨cn, lv, rfl, ha⟩ := hcut
        clear R0 c1 B0 hb
        have c1 := ha.out.s.c1
        have f1 := ha.out.s.of 1
        have c0 := ha.out.s.c0
        have f0 := ha.out.s.of 0
        obtain ⟨r, hr⟩ : ∃ r, g.mp = r := ⟨_, rfl⟩
        rw [hr] at c0
        have qT : ∀ (w : World) (r : Option Nat), (binOp .eql 81 (.map r) (.map none)).run Tryz.prog w = .ok (.bool r.isNone) w := fun w r => run_eql_map_nil w _ _ _ r Tryz.underlying81
        have hmm := @run_makeMap Tryz.prog
        go_upto_if 49 with fail
        go_cut [] from 50 to 53 (fun wx => ∃ mb D, Hid (Mid kw wx g cn lv xs mb D) ∧ Hid (FW kw.B w wx))
        case first =>
          have F1 : Hid (FW kw.B w (wc.setCell ⟨kw.OB, 1, none⟩ (.int .i64 ((g.nx : Int) + 1)))) := hid ((FW.below ha.out.b).trans (FW.grown (grown_set wc ⟨kw.OB, 1, none⟩ _) (fun j T e t => by cases e; rw [t.one ⟨_, _, ha.out.s.c.ob⟩]; simp [Wt]) (fun j e => by cases e; exact ha.out.s.c.lo.1)))
          have HR2 := hid hr
          clear hr
          cases r with
          | none =>
            have hmp := HR2.out
            obtain ⟨wd, hwd⟩ : ∃ wd, wd = wc.setCell ⟨kw.OB, 1, none⟩ (.int .i64 ((g.nx : Int) + 1)) := ⟨_, rfl⟩
            have hsz : wd.heap.size = wc.heap.size := by rw [hwd]; simp
            have hbk : ∃ cs, wd.heap[kw.OB]? = some (.cells cs 84 (0, 0)) ∧ cs[0]? = some (.map none) := ⟨_, by rw [hwd]; exact set_same ha.out.s.c.ob _, by simp [hmp]⟩
            obtain ⟨cs, hk1, hk2⟩ := hbk
            have hk3 : (wd.alloc (.map #[] 0)).heap[kw.OB]? = some (.cells cs 84 (0, 0)) := ((grown_new wd (.map #[] 0) none).block kw.OB (blk_lt hk1) (by simp)).trans hk1
            have e0 : (wd.alloc (.map #[] 0)).cell? ⟨kw.OB, 0, none⟩ = some (.map none) := by rw [cell_of hk3]; exact hk2
            have e1 : (wd.alloc (.map #[] 0)).frozen? ⟨kw.OB, 0, none⟩ = false := frozen_of hk3
            have HM : Hid (Mid kw ((wd.alloc (.map #[] 0)).setCell ⟨kw.OB, 0, none⟩ (.map (some wd.heap.size))) g cn lv xs wd.heap.size (.map [])) := hid (by subst hwd; exact Mid.new ha.out.s ha.out.hc ha.out.hf ha.out.hl ha.out.lo hmp rfl)
            have F2 : Hid (FW kw.B wd ((wd.alloc (.map #[] 0)).setCell ⟨kw.OB, 0, none⟩ (.map (some wd.heap.size)))) := hid (FW.grown (grown_two (grown_new _ (.map #[] 0) (some kw.OB)) (grown_set _ ⟨kw.OB, 0, none⟩ _)) (fun j T e t => by cases e; rw [t.one ⟨_, _, hk1⟩]; simp [Wt]) (fun j e => by cases e; exact ha.out.s.c.lo.1))
            rw [← hwd] at F1 ⊢
            clear hmp hwd hsz c0 c1 f0 f1 hk1 hk2 hk3 HR2
            simp only [Option.isNone_none]
            go_wp2_with fail
            go_meet
            exact ⟨_, _, HM, hid (F1.out.trans F2.out)⟩
          | some mb =>
            have hmp := HR2.out
            obtain ⟨D, hM⟩ := Mid.old ha.out.s ha.out.hc ha.out.hf ha.out.hl ha.out.lo hmp
            have HM := hid hM
            clear hM hmp
            simp only [Option.isNone_some]
            go_wp2_with fail
            go_meet
            exact ⟨_, _, HM, F1⟩
        case rest =>
          have HV := hid ha.out.hv
          clear ha c1 f1 c0 f0
          obtain ⟨mb, D, hM, F3⟩ := hcut
          have d0 := hM.out.c0
          have d1 := hM.out.d1
          obtain ⟨u1, hup, su, fu⟩ := hM.out.up hnx
          obtain ⟨u2, hup2, su2, fu2⟩ := hM.out.drew.up hnx
          clear hup su fu
          obtain ⟨apv, cpv, epv, _⟩ := (hM.out.l.rw (3 * kw.n) (Nat.le_refl _)).shape
          have HPV := hid epv
          go_upto_region 13 with fail
          go_region
          clear hup2 d0 d1 hM
          have d4 := su2.out.c4
          rw [show (addG g cn lv xs mb).pv (3 * kw.n) = g.pv (3 * kw.n) from rfl, epv] at d4
          have R4 := hid (su2.out.l.rw (3 * kw.n) (Nat.le_refl _))
          rw [show (addG g cn lv xs mb).pv (3 * kw.n) = g.pv (3 * kw.n) from rfl, epv] at R4
          have hcn : (addG g cn lv xs mb).cb g.nx = cn := up_same _ _ _
          clear epv
          go_wp2_with (at_builtin; refine append_pone (w1 := u2) (cb := (addG g cn lv xs mb).cb) rfl _ _ rfl g.nx (by rw [hcn]) _ _ rfl R4.out _ rfl rfl (by show (g.P (3 * kw.n)).length + 1 ≤ _; omega) ?_; intro v6 w6 own6 g6 new6; have f6 := own6.out.one; obtain ⟨b6, o6, p6, rfl⟩ := f6; have m6 := add_push su2.out HPV.out own6.out g6.out new6.out; obtain ⟨q1, q2, s6, F6, q3⟩ := m6)
          go_ret2
          obtain ⟨h1, h2⟩ := HW.out.add s6.out (((F3.out.trans (FW.below (below_drew wc))).trans fu2.out).trans F6.out) HX.out HV.out
          exact ⟨rfl, _, hid h1, hid h2, hid (((F3.out.trans (FW.below (below_drew wc))).trans fu2.out).trans F6.out)⟩
end

end Go.Proofs.YtimfjoinjfecjaaGreat

namespace Go.Proofs.YtimfjoinjfecjaaGreat
open Go.RowKit Go.Maps
set_option linter.unusedVariables false

theorem Tryz.infoG : (Tryz.prog.info? 42).map (fun i => (i.zero, i.size, i.bytes)) = some (some (.slice none 0 0), 1, 24) := by kernel_rfl

/-- The values are lists that lie in memory. -/
def GV (w : World) (vs : List Value) (xss : List (List Int)) : Prop := vs.length = xss.length ∧ ∀ j, j < vs.length → ∃ a m c, vs[j]? = some (.slice a m c) ∧ U.Row w a m c (xss.getD j [])

theorem GV.keep {w w' : World} {vs : List Value} {xss : List (List Int)} (h : GV w vs xss) (b : Below w.heap.size w w') : GV w' vs xss := by
  refine ⟨h.1, fun j hj => ?_⟩
  obtain ⟨a, m, c, h1, h2⟩ := h.2 j hj
  exact ⟨a, m, c, h1, h2.keep b⟩

theorem own_grid {w : World} {B : Nat} {v : Value} {vs : List Value} {xss : List (List Int)} (own : w.ownsRow B 42 1 v vs.length vs) (g : GV w vs xss) : ∃ ao c, v = .slice ao vs.length c ∧ U.Grid w ao vs.length c xss := by
  rcases own.2 with ⟨rfl, hn⟩ | ⟨gb, cap, cur, rfl, hb, hg, hl, hm, rest⟩
  · rw [hn]
    refine ⟨none, 0, rfl, ⟨by have := g.1; omega, Nat.le_refl _, by unfold maxLen; omega, fun _ => rfl, fun h => by omega⟩⟩
  · refine ⟨_, _, rfl, g.1.symm, hl, hm, fun h => by simp at h, fun _ => ⟨gb, 0, rfl, fun j hj => ?_⟩⟩
    obtain ⟨a, m, c, h1, h2⟩ := g.2 j hj
    have h3 : w.ownsRow B 42 1 (.slice (some ⟨gb, 0, none⟩) vs.length cap) vs.length vs := own
    refine ⟨a, m, c, ?_, h2⟩
    rw [Nat.zero_add, h3.cellAt j (by omega)]
    exact h1

theorem GV.app {w : World} {vs us : List Value} {xss yss : List (List Int)} (h : GV w vs xss) (g : GV w us yss) : GV w (vs ++ us) (xss ++ yss) := by
  refine ⟨by simp [h.1, g.1], fun j hj => ?_⟩
  by_cases hjl : j < vs.length
  · obtain ⟨a, m, c, e1, e2⟩ := h.2 j hjl
    refine ⟨a, m, c, by rw [List.getElem?_append_left hjl]; exact e1, ?_⟩
    have : (xss ++ yss).getD j [] = xss.getD j [] := by
      simp only [List.getD_eq_getElem?_getD]; rw [List.getElem?_append_left (by rw [← h.1]; exact hjl)]
    rw [this]; exact e2
  · have hj2 : j - vs.length < us.length := by simp at hj; omega
    obtain ⟨a, m, c, e1, e2⟩ := g.2 (j - vs.length) hj2
    refine ⟨a, m, c, by rw [List.getElem?_append_right (by omega)]; exact e1, ?_⟩
    have : (xss ++ yss).getD j [] = yss.getD (j - vs.length) [] := by
      simp only [List.getD_eq_getElem?_getD]; rw [List.getElem?_append_right (by rw [← h.1]; omega), ← h.1]
    rw [this]; exact e2

theorem gv_one {w : World} {vs : List Value} {xss : List (List Int)} (h : GV w vs xss) : ∀ u ∈ vs, u.oneCell' = true := by
  intro u hu
  obtain ⟨j, hj, e⟩ := List.mem_iff_getElem.1 hu
  obtain ⟨a, m, c, h3, _⟩ := h.2 j hj
  rw [List.getElem?_eq_getElem hj, e] at h3
  simp only [Option.some.injEq] at h3
  rw [h3]; rfl

/-- A list of clauses that the call has made; the clauses are older. -/
def OwnG (w0 w : World) (v : Value) (xss : List (List Int)) : Prop := ∃ vs, w.ownsRow w0.heap.size 42 1 v xss.length vs ∧ GV w0 vs xss

theorem OwnG.nil (w0 w : World) : OwnG w0 w (.slice none 0 0) [] := ⟨[], World.ownsRow_nil _ _ _ _, rfl, fun j hj => by simp at hj⟩

theorem OwnG.alloc {w0 w : World} {v : Value} {xss : List (List Int)} (h : OwnG w0 w v xss) (o : Obj) : OwnG w0 (w.alloc o) v xss := by
  obtain ⟨vs, h1, h2⟩ := h
  exact ⟨vs, h1.alloc o, h2⟩

theorem OwnG.same {w0 w w' : World} {v : Value} {xss : List (List Int)} (h : OwnG w0 w v xss) (hb : ∀ j, Typ w j 42 → w'.heap[j]? = w.heap[j]?) : OwnG w0 w' v xss := by
  obtain ⟨vs, ⟨h0, h1⟩, h2⟩ := h
  refine ⟨vs, ⟨h0, ?_⟩, h2⟩
  rcases h1 with h1 | ⟨g, cap, cur, e, hb', hg, rest⟩
  · exact .inl h1
  · exact .inr ⟨g, cap, cur, e, hb', by rw [hb g ⟨_, _, hg⟩]; exact hg, rest⟩

theorem OwnG.keep {w0 w w' : World} {v : Value} {xss : List (List Int)} (h : OwnG w0 w v xss) (b : Below w.heap.size w w') : OwnG w0 w' v xss := h.same (fun j t => b.block j t.lt)

theorem OwnG.fw {B : Nat} {w0 w w' : World} {v : Value} {xss : List (List Int)} (h : OwnG w0 w v xss) (f : FW B w w') : OwnG w0 w' v xss := h.same (fun j t => f.block j 42 t (by simp [Wt]))

theorem Trl.mine23 {k : K} {w : World} {L : List E} {lev : Nat} {p : V} (t : Trl k w L lev p) {j : Nat} (h : Mine k p j) : ∃ T, Typ w j T ∧ T ≠ 42 := by
  obtain ⟨F, S, s, _⟩ := t
  rcases h with e | e | e | e
  · obtain ⟨c, h, _⟩ := s.fc
    exact ⟨157, by rw [e]; exact ⟨_, _, h⟩, by decide⟩
  · exact ⟨78, by rw [e]; exact ⟨_, _, s.cl⟩, by decide⟩
  · exact ⟨3, s.rl.typ e, by decide⟩
  · exact ⟨3, (LRow.of_own s.rs).typ e, by decide⟩

theorem OwnG.ft {k : K} {B : Nat} {L : List E} {lev : Nat} {p p' : V} {w0 w w' : World} {v : Value} {xss : List (List Int)} (h : OwnG w0 w v xss) (t : Trl k w L lev p) (f : FT k B p p' w w') : OwnG w0 w' v xss :=
  h.same (fun j ht => f.block j 42 ht (by simp [Wt]) (fun m => by
    obtain ⟨T', h1, h2⟩ := t.mine23 m
    exact h2 (h1.one ht)))

theorem OwnG.grid {w0 w : World} {v : Value} {xss : List (List Int)} (h : OwnG w0 w v xss) (b : Below w0.heap.size w0 w) : ∃ ao n c, v = .slice ao n c ∧ Hid (n = xss.length) ∧ Hid (U.Grid w ao n c xss) := by
  obtain ⟨vs, h1, h2⟩ := h
  have e : xss.length = vs.length := h2.1.symm
  rw [e] at h1
  obtain ⟨ao, c, e2, g⟩ := own_grid h1 (h2.keep b)
  exact ⟨ao, _, c, e2, e.symm, g⟩

theorem Told.same {k : K} {p : V} {w w' : World} {v : Value} {xs : List Int} (h : Told k p w v xs) (hb : ∀ j, Typ w j 3 → w'.heap[j]? = w.heap[j]?) : Told k p w' v xs := by
  obtain ⟨ao, n, c, h1, h2, h3, h4, h5, h5', h6, h7⟩ := h
  refine ⟨ao, n, c, h1, h2, h3, h4, h5, h5', h6, fun j x hx => ?_⟩
  obtain ⟨b, q1, q2, q3, q4⟩ := h7 j x hx
  exact ⟨b, q1, (World.cell?_of_block (hb b q3)).trans q2, q3.same (hb b q3), q4⟩

section
variable {k : K} {kw : WK} {w w1 w' w0 : World} {g g' : G} {L L' : List E} {lev lev' : Nat} {p p' : V} {H H' : List Int}

theorem Wa.below (W : Wa k kw w g L lev p H) (b : Below w.heap.size w w') : Wa k kw w' g L lev p H := ⟨W.j.below b, W.iv, W.ht.ft (FT.below (B := 0) b), W.hf, W.hH, W.hl, W.rs⟩

/-- The list of clauses has changed. -/
theorem Wa.other (W : Wa k kw w g L lev p H) {r : Nat} (gr : w.grownBy w' (some r)) (hr : Typ w r 42) : Wa k kw w' g L lev p H := by
  have key : ∀ j T', Typ w j T' → T' ≠ 42 → w'.heap[j]? = w.heap[j]? := fun j T' t n1 => gr.block j t.lt (fun e => by
    cases e
    exact n1 (t.one hr))
  have tr : Trl k w' L lev p := W.j.t.keep gr (fun j hj m => by
    cases hj
    obtain ⟨T', h1, h2⟩ := W.j.t.mine23 m
    exact h2 (h1.one hr))
  have st : St kw w' g := W.j.s.same (fun j T' t hw => key j T' t (by rintro rfl; simp [Wt] at hw)) (fun j es clock e => gr.block j (blk_lt e) (fun e2 => by
    cases e2; obtain ⟨c, f, q⟩ := hr; rw [e] at q; cases q)) (fun i j _ _ _ _ t => key j 3 t (by decide))
  exact ⟨⟨tr, st, W.j.n, W.j.b, W.j.aw⟩, W.iv, W.ht.same (fun j t => key j 3 t (by decide)), W.hf, W.hH, W.hl, W.rs⟩

theorem Wa.fr (W : Wa k kw w g L lev p H) (f : Fr k p p' w w') (t : Trl k w' L' lev' p') (rs : Rs g L') : Wa k kw w' g L' lev' p' H :=
  ⟨W.j.fr f t, W.iv, W.ht.ft (FT.fr W.j.t W.j.b f), W.hf, W.hH, W.hl, rs⟩

theorem Rs.addL {n : Nat} (h : Rs g L) (l : Int) (gg : Nat) : Rs g (addL n L l gg (-1)) := by
  unfold Go.Proofs.YtimfjoinjfecjaaGreat.addL
  split
  · exact h.snoc (fun c => by change (0 : Int) ≤ -1 at c; omega)
  · exact h

theorem wa_decide (W : Wa k kw w g L lev p H) (l : Int) (hu : l ≤ 9223372036854775807) :
    Calls Tryz.prog 62 #[.pointer (some ⟨k.OB, 0, none⟩), .int .i64 l] w fun e w' => ∃ b L' lev' p', e = .returned (.bool b) ∧ Hid (b = mayF k.n L l ∧ L' = addL k.n L l (lev + 1) (-1) ∧ lev' = decV k.n L lev l) ∧ Hid (Wa k kw w' g L' lev' p' H) ∧ Hid (FT k kw.B p p' w w') := by
  refine (decide_is W.j.t l hu rfl rfl rfl).mono fun e w' h => ?_
  obtain ⟨p', rfl, t, f⟩ := h
  exact ⟨_, _, _, p', rfl, ⟨rfl, rfl, rfl⟩, W.fr f.out t.out (W.rs.addL l (lev + 1)), FT.fr W.j.t W.j.b f.out⟩

/-- What Run tells, in one form. -/
def RunV (g g' : G) (L' : List E) (i : Int) (ok : Bool) : Prop := (ok = true ∧ i = -1 ∧ Closed g' L') ∨ ∃ c : Nat, ok = false ∧ i = c ∧ c < g.nx ∧ g.gn c = false ∧ ∀ y ∈ g.lt c, valueF L' y = -1

theorem run_one (W : Wa k kw w g L lev p H) (hnx : g.nx ≤ 1000000) (hsu : tot kw.n g + kw.n * g.nx ≤ 300000000000) :
    Calls Tryz.prog 31 #[.pointer (some ⟨kw.OB, 0, none⟩), .pointer (some ⟨k.OB, 0, none⟩)] w fun e w' => ∃ i ok g' L' p', e = .returned (.tuple #[.int .i64 i, .bool ok]) ∧ Hid (RunV g g' L' i ok) ∧ Hid (Wa k kw w' g' L' lev p' (litsF L')) ∧ Hid (Sm0 g g' ∧ tot kw.n g' ≤ tot kw.n g + (kw.n * g.nx + 1)) ∧ Hid (Ext L L' lev) ∧ Hid (FT k kw.B p p' w w' ∧ ∀ j, g'.hv.ownBlock = some j → Mine k p' j) := by
  refine (run_is W hnx hsu).mono fun e w' h => ?_
  obtain ⟨g', L', p', h1, h2, h3, h4, h5, h5', h6⟩ := h
  rcases h6 with ⟨rfl, h7⟩ | ⟨c, rfl, h7, h8, h9⟩
  · exact ⟨_, _, g', L', p', rfl, .inl ⟨rfl, rfl, h7⟩, h1, ⟨h2, h4⟩, h3, ⟨h5, h5'⟩⟩
  · exact ⟨_, _, g', L', p', rfl, .inr ⟨c, rfl, rfl, h7, h8, h9⟩, h1, ⟨h2, h4⟩, h3, ⟨h5, h5'⟩⟩

theorem tot_zero (n : Nat) : tot n g0 = 0 := by
  unfold tot sumL
  have : ∀ m, ((List.range m).map (fun v => (g0.P (2 * n + v)).length)).sum = 0 := by
    intro m
    induction m with
    | zero => rfl
    | succ m ih => rw [List.range_succ, List.map_append, List.sum_append, ih]; rfl
  rw [this]; rfl

theorem tot_pl (n : Nat) (g : G) : (g.P (3 * n)).length ≤ tot n g := by unfold tot; omega

/-- What is decided stands above all before it. -/
def Dc (L : List E) : Prop := ∀ (q : Nat) (e : E), L[q]? = some e → e.r < 0 → 1 ≤ e.g ∧ ∀ (q' : Nat) (e' : E), q' < q → L[q']? = some e' → e'.g < e.g

theorem Dc.nil : Dc [] := fun q e h => by simp at h

theorem Dc.ext (h : Dc L) (x : Ext L L' lev) : Dc L' := by
  obtain ⟨M, rfl, hM⟩ := x
  intro q e he hr
  by_cases c : q < L.length
  · rw [List.getElem?_append_left c] at he
    obtain ⟨h1, h2⟩ := h q e he hr
    refine ⟨h1, fun q' e' hq' he' => h2 q' e' hq' ?_⟩
    rw [List.getElem?_append_left (by omega)] at he'
    exact he'
  · rw [List.getElem?_append_right (by omega)] at he
    have := (hM e (List.mem_of_getElem? he)).2
    omega

theorem Dc.dec (h : Dc L) (hg : ∀ e ∈ L, e.g ≤ lev) (m : Nat) : Dc (L ++ [⟨m, lev + 1, -1⟩]) := by
  intro q e he hr
  by_cases c : q < L.length
  · rw [List.getElem?_append_left c] at he
    obtain ⟨h1, h2⟩ := h q e he hr
    refine ⟨h1, fun q' e' hq' he' => h2 q' e' hq' ?_⟩
    rw [List.getElem?_append_left (by omega)] at he'
    exact he'
  · rw [List.getElem?_append_right (by omega)] at he
    have hm := List.mem_of_getElem? he
    rw [List.mem_singleton] at hm
    subst hm
    refine ⟨Nat.le_add_left _ _, fun q' e' hq' he' => ?_⟩
    have hq2 : q < L.length + 1 := by
      have := (List.getElem?_eq_some_iff.1 he).1
      simp at this; omega
    rw [List.getElem?_append_left (by omega)] at he'
    have := hg e' (List.mem_of_getElem? he')
    show e'.g < lev + 1
    omega

/-- The clauses of a watch, in a list. -/
structure Cls (n : Nat) (g : G) (cls : List (List Int)) : Prop where
  nx : g.nx = cls.length
  lt : ∀ i, i < g.nx → cls[i]? = some (g.lt i)
  gn : ∀ i, i < g.nx → g.gn i = false
  nn : ∀ c ∈ cls, ∀ y ∈ c, 0 ≤ y ∧ y < 2 * (n : Int)

theorem Cls.nil (n : Nat) : Cls n g0 [] := ⟨rfl, fun i hi => by simp [g0] at hi, fun i hi => by simp [g0] at hi, fun c hc => by simp at hc⟩

theorem Cls.sm {n : Nat} {cls : List (List Int)} (h : Cls n g cls) (s : Sm0 g g') : Cls n g' cls :=
  ⟨by rw [s.nx]; exact h.nx, by rw [s.nx, s.lt]; exact h.lt, by rw [s.nx, s.gn]; exact h.gn, h.nn⟩

theorem Cls.add {n : Nat} {cls : List (List Int)} {xs : List Int} (h : Cls n g cls) {sz : Nat} (d : AddD n sz g g' xs) (hx : ∀ x ∈ xs, 0 ≤ x ∧ x < 2 * (n : Int)) : Cls n g' (cls ++ [xs]) := by
  have h0 := h.nx
  refine ⟨by rw [d.nx, h0]; simp, fun i hi => ?_, fun i hi => ?_, fun c hc => ?_⟩
  · rw [d.nx] at hi
    rw [d.lt]
    by_cases e : i = g.nx
    · subst e; rw [up_same, h0]; simp
    · rw [up_ne _ _ e, List.getElem?_append_left (by omega)]; exact h.lt i (by omega)
  · rw [d.nx] at hi
    rw [d.gn]
    by_cases e : i = g.nx
    · subst e; rw [up_same]
    · rw [up_ne _ _ e]; exact h.gn i (by omega)
  · rcases List.mem_append.1 hc with hc | hc
    · exact h.nn c hc
    · rw [List.mem_singleton] at hc; subst hc; exact hx
end
end Go.Proofs.YtimfjoinjfecjaaGreat
