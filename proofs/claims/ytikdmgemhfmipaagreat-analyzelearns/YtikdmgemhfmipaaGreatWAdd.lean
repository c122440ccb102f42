/-
  Add: a clause more.
-/
import Derived.Test.YtikdmgemhfmipaaGreatWAddm
import Derived.WalkSpells
import Derived.Carry
import Derived.Deep.Cut
import Derived.Deep.CutRange
namespace Go.Proofs.YtikdmgemhfmipaaGreat
open Go.RowKit Go.Maps
set_option linter.unusedVariables false

section
variable {k : K} {kw : WK} {w w1 : World} {g : G} {L : List E} {lev : Nat} {p : V} {H : List Int}

theorem add_none1 (t : Option Addr) (ao : Option Addr) (n c : Nat) (w : World) : Calls Tryz.prog 8 #[.pointer none, .pointer t, .slice ao n c] w fun e w' => e = .returned (.tuple #[.int .i64 0, .int .i64 1]) ∧ w' = w := by
  go_enter Tryz.func8, Tryz.ntmps8
  go_wp2
  go_ret2
  exact ⟨rfl, rfl⟩

theorem add_none2 (a : Addr) (ao : Option Addr) (n c : Nat) (w : World) : Calls Tryz.prog 8 #[.pointer (some a), .pointer none, .slice ao n c] w fun e w' => e = .returned (.tuple #[.int .i64 0, .int .i64 1]) ∧ w' = w := by
  go_enter Tryz.func8, Tryz.ntmps8
  go_wp2
  go_ret2
  exact ⟨rfl, rfl⟩

theorem add_bad (s : St kw w g) (ta : Addr) {ao : Option Addr} {n c : Nat} {xs : List Int} (row : U.Row w ao n c xs) (hn : n ≤ 1000) (hx : ¬ ∀ x ∈ xs, 0 ≤ x ∧ x < 2 * kw.n) :
    Calls Tryz.prog 8 #[.pointer (some ⟨kw.OB, 0, none⟩), .pointer (some ta), .slice ao n c] w fun e w' => e = .returned (.tuple #[.int .i64 0, .int .i64 10]) ∧ Below w.heap.size w w' := by
  have HS := hid s
  have HR := hid row
  have HX := hid hx
  have hN := s.l.hn
  clear s row hx
  go_enter Tryz.func8, Tryz.ntmps8
  go_wp2
  go_loopw [9, 19] (fun _ i wr => ∃ q : Nat, q ≤ n ∧ i = .int .i64 q ∧ Hid (Below w.heap.size w wr) ∧ Hid (∀ j y, j < q → xs[j]? = some y → 0 ≤ y ∧ y < 2 * (kw.n : Int))) (fun _ i _ => n - (intOf i).toNat)
  case atStart => exact ⟨0, Nat.zero_le _, rfl, hid (Below.refl _ _), hid (fun j y h => by omega)⟩
  case round =>
    obtain ⟨q, hq, rfl, hb, hall⟩ := hrel
    by_cases hlt : q < n
    · have hlt' : (q : Int) < n := by omega
      obtain ⟨b, off, y, rfl, hc, hy, y0, y1⟩ := (HR.out.keep hb.out).at hlt
      have HY := hid hy
      clear hy
      by_cases hg : 0 ≤ y ∧ y < 2 * (kw.n : Int)
      · obtain ⟨m, rfl⟩ := Int.eq_ofNat_of_zero_le hg.1
        have hu : m / 2 < kw.n := by omega
        have HG := hid hg
        clear hg
        go_wp2_with (go_at_call 17; with_reducible (refine (has_yes (HS.out.below hb.out) m (m / 2) rfl hu).mono ?_); rintro e w3 ⟨rfl, b3⟩)
        go_roundw
        case rel => exact ⟨q + 1, by omega, by go_num, hid (Below.next hb.out b3), hid (fun j z hj hz => by
          by_cases e : j = q
          · subst e; rw [HY.out] at hz; cases hz; exact HG.out
          · exact hall.out j z (by omega) hz)⟩
        case measure => simp only [intOf]; omega
      · have HNO : Hid (y < 0 ∨ ∃ m u : Nat, y = m ∧ m / 2 = u ∧ kw.n ≤ u) := hid (by
          by_cases h0 : y < 0
          · exact .inl h0
          · obtain ⟨m, rfl⟩ := Int.eq_ofNat_of_zero_le (show 0 ≤ y by omega)
            exact .inr ⟨m, m / 2, rfl, rfl, by omega⟩)
        clear hg
        go_wp2_with (go_at_call 17; with_reducible (refine (has_no (HS.out.below hb.out) y y1 HNO.out).mono ?_); rintro e w3 ⟨rfl, b3⟩)
        go_ret2
        exact ⟨rfl, Below.next hb.out b3⟩
    · exact absurd (fun x hx => by
        obtain ⟨j, hj⟩ := List.mem_iff_getElem?.1 hx
        have := (List.getElem?_eq_some_iff.1 hj).1
        have := HR.out.1
        exact hall.out j x (by omega) hj) HX.out

theorem Wa.add {w' : World} {cn mb : Nat} {lv v : Value} {xs : List Int} (W : Wa k kw w g L lev p H) (s : St kw w' ((addG g cn lv xs mb).slot (3 * kw.n) (g.P (3 * kw.n) ++ [g.nx]) v)) (F : FW kw.B w w') (hx : ∀ x ∈ xs, 0 ≤ x ∧ x < 2 * (kw.n : Int)) (hlv : ∀ j, lv.ownBlock = some j → 0 < xs.length → w.heap.size ≤ j) :
    Wa k kw w' ((addG g cn lv xs mb).slot (3 * kw.n) (g.P (3 * kw.n) ++ [g.nx]) v) L lev p H ∧ AddD kw.n g ((addG g cn lv xs mb).slot (3 * kw.n) (g.P (3 * kw.n) ++ [g.nx]) v) xs := by
  have hP : ((addG g cn lv xs mb).slot (3 * kw.n) (g.P (3 * kw.n) ++ [g.nx]) v).P (3 * kw.n) = g.P (3 * kw.n) ++ [g.nx] := up_same _ _ _
  refine ⟨⟨⟨W.j.t.fw F, s, W.j.n, W.j.b, fun i hi hg j e h0 m => ?_⟩, ?_, W.ht.ft (FT.fw F), W.hf, W.hH, W.hl, (W.rs.add (cn := cn) (lv := lv) (mb := mb) (xs := xs)).as rfl rfl rfl⟩, rfl, rfl, rfl, ?_, rfl⟩
  · change i < g.nx + 1 at hi
    change up g.gn g.nx false i = false at hg
    change (up g.lv g.nx lv i).ownBlock = some j at e
    change 0 < (up g.lt g.nx xs i).length at h0
    by_cases q : i = g.nx
    · subst q
      rw [up_same] at e h0
      have h1 := hlv j e h0
      have h2 := (W.j.t.lt m).2
      omega
    · rw [up_ne _ _ q] at e h0 hg
      exact W.j.aw i (by omega) hg j e h0 m
  · have i1 := W.iv.add (cn := cn) (lv := lv) (mb := mb) hx W.j.s.l.sub
    have i2 := i1.more (s := 3 * kw.n) (by omega) (xs := g.P (3 * kw.n) ++ [g.nx]) (fun i hi => List.mem_append.2 (.inl hi)) v
    refine i2.mono (fun _ => Nat.le_refl _) (fun i hi => ?_)
    rw [hP]
    rcases hi with hi | hi
    · exact List.mem_append.2 (.inl hi)
    · exact List.mem_append.2 (.inr (by rw [hi]; simp))
  · unfold tot
    rw [hP, sum_other (.inr (Nat.le_refl _)), List.length_append]
    simp only [List.length_singleton]
    have : (addG g cn lv xs mb).P = g.P := rfl
    rw [this]; omega

theorem add_push {cn mb : Nat} {lv v : Value} {xs : List Int} {a : Option Addr} {n c : Nat} (s : St kw w (addG g cn lv xs mb)) (hv : g.pv (3 * kw.n) = .slice a n c)
    (own : PRow w1 (addG g cn lv xs mb).cb v ((addG g cn lv xs mb).P (3 * kw.n) ++ [g.nx])) (gr : w.grownBy w1 (Value.slice a n c).ownBlock) (nw : Nw w (.slice a n c) v) :
    w1.cell? ⟨kw.OB, 4, none⟩ = some (.slice a n c) ∧ w1.frozen? ⟨kw.OB, 4, none⟩ = false ∧ Hid (St kw (w1.setCell ⟨kw.OB, 4, none⟩ v) ((addG g cn lv xs mb).slot (3 * kw.n) (g.P (3 * kw.n) ++ [g.nx]) v)) ∧ Hid (FW kw.B w (w1.setCell ⟨kw.OB, 4, none⟩ v)) ∧ (w1.setCell ⟨kw.OB, 4, none⟩ v).cell? ⟨cn, 0, none⟩ = some (.int .i64 g.nx) := by
  have hv' : (addG g cn lv xs mb).pv (3 * kw.n) = .slice a n c := hv
  have hlt : g.nx < (addG g cn lv xs mb).nx := Nat.lt_succ_self _
  have m := s.pusha (zs := (addG g cn lv xs mb).P (3 * kw.n) ++ [g.nx]) (mem_one (s.l.sub _ (Nat.le_refl _)) hlt) own (by rw [hv']; exact gr) (by rw [hv']; exact nw)
  rw [hv'] at m
  obtain ⟨m1, m2, m3, m4⟩ := m
  refine ⟨m1, m2, m3, m4, ?_⟩
  have := (m3.out.l.ks (i := g.nx) hlt (up_same _ _ _)).1
  rw [show ((addG g cn lv xs mb).slot (3 * kw.n) ((addG g cn lv xs mb).P (3 * kw.n) ++ [g.nx]) v).cb g.nx = cn from up_same _ _ _] at this
  exact this

/-- The clause lies in a block of its own. -/
structure AddA (kw : WK) (w : World) (g : G) (xs : List Int) (cn : Nat) (lv : Value) (wx : World) : Prop where
  s : St kw wx g
  hc : wx.heap[cn]? = some (.cells (ccell g lv) 57 (0, 0))
  hf : ∀ i, i < g.nx → g.cb i ≠ cn
  hl : LitRow wx lv xs
  hv : ∀ j, lv.ownBlock = some j → 0 < xs.length → w.heap.size ≤ j
  lo : kw.B ≤ cn
  b : Below w.heap.size w wx

theorem AddA.mk' {xs : List Int} {wr w3 : World} {a3 : Option Addr} {n c3 : Nat} (s : St kw w g) (b1 : Below w.heap.size w wr) (b2 : Below wr.heap.size wr w3) (cp : Cpy wr w3 a3 n n xs) :
    AddA kw w g xs w3.heap.size (.slice a3 n n) (w3.alloc (.cells (ccell g (.slice a3 n n)) 57)) := by
  have b3 := Below.next b1 b2
  have b4 : Below w3.heap.size w3 (w3.alloc (.cells (ccell g (.slice a3 n n)) 57)) := by go_grown
  have s3 := s.below b3
  have b5 := Below.next b3 b4
  have cl := (cp.next (w1 := w) b4).lit
  refine ⟨s.below b5, new_same _ _, fun i hi e => ?_, cl.1, fun j hj h0 => ?_, ?_, b5⟩
  · have := blk_lt (s3.l.cl i hi); omega
  · have h1 := cl.2 j hj h0; have h2 := b1.size; omega
  · have h1 := s3.c.lo.1; have h2 := blk_lt s3.c.ob; omega

set_option maxRecDepth 20000 in
set_option maxHeartbeats 4000000 in
theorem add_is (W : Wa k kw w g L lev p H) (ta : Addr) {ao : Option Addr} {n c : Nat} {xs : List Int} (row : U.Row w ao n c xs) (hn : n ≤ 1000) (hx : ∀ x ∈ xs, 0 ≤ x ∧ x < 2 * (kw.n : Int)) (hnx : g.nx ≤ 1000000) (hpl : (g.P (3 * kw.n)).length ≤ 10000000) :
    Calls Tryz.prog 8 #[.pointer (some ⟨kw.OB, 0, none⟩), .pointer (some ta), .slice ao n c] w fun e w' => ∃ g', e = .returned (.tuple #[.int .i64 g.nx, .int .i64 0]) ∧ Hid (Wa k kw w' g' L lev p H) ∧ Hid (AddD kw.n g g' xs) ∧ Hid (FW kw.B w w') := by
  have HW := hid W
  have HR := hid row
  have HX := hid hx
  have hN := W.j.s.l.hn
  have hnn : (g.nx : Int) + 1 ≤ 9223372036854775807 := by omega
  clear W row hx
  go_enter Tryz.func8, Tryz.ntmps8
  go_wp2
  go_loopw [9, 19] (fun _ i wr => ∃ q : Nat, q ≤ n ∧ i = .int .i64 q ∧ Hid (Below w.heap.size w wr)) (fun _ i _ => n - (intOf i).toNat)
  case atStart => exact ⟨0, Nat.zero_le _, rfl, hid (Below.refl _ _)⟩
  case round =>
    obtain ⟨q, hq, rfl, hb⟩ := hrel
    by_cases hlt : q < n
    · have hlt' : (q : Int) < n := by omega
      obtain ⟨b, off, y, rfl, hc, hy, y0, y1⟩ := (HR.out.keep hb.out).at hlt
      have hg := HX.out y (List.mem_of_getElem? hy.out)
      obtain ⟨m, rfl⟩ := Int.eq_ofNat_of_zero_le hg.1
      have hu : m / 2 < kw.n := by omega
      have HG := hid hg
      clear hy hg
      go_wp2_with (go_at_call 17; with_reducible (refine (has_yes (HW.out.j.s.below hb.out) m (m / 2) rfl hu).mono ?_); rintro e w3 ⟨rfl, b3⟩)
      go_roundw
      case rel => exact ⟨q + 1, by omega, by go_num, hid (Below.next hb.out b3)⟩
      case measure => simp only [intOf]; omega
    · have hlt' : ¬ (q : Int) < n := by omega
      have hltd : decide ((q : Int) < n) = false := by simpa using hlt'
      have R0 := hid (HR.out.keep (Below.next hb.out (below_drew wr)))
      have c1 := (HW.out.j.s.below hb.out).c1
      have B0 := hid (below_drew wr)
      go_upto_region 9 with fail
      go_cut [10] from 28 to 37 (fun v wx => ∃ (cn : Nat) (lv : Value), v = .pointer (some ⟨cn, 0, none⟩) ∧ Hid (AddA kw w g xs cn lv wx))
      case first =>
        go_region_with (first
          | (go_at_call 19; with_reducible (refine (clone_is R0.out hn).mono ?_); rintro e w2 ⟨a2, k2, rfl, cp, b2⟩; have B2 := hid (Below.next B0.out b2.out); have c1' := ((HW.out.j.s.below hb.out).below B2.out).c1)
          | (go_at_call 18; with_reducible (refine (clip_is cp.out).mono ?_); rintro e w3 ⟨rfl, rfl⟩))
        all_goals go_wp2_with fail
        all_goals go_meet
        all_goals exact ⟨_, _, rfl, hid (AddA.mk' (c3 := 0) HW.out.j.s hb.out B2.out cp.out.full)⟩
      case rest =>
        obtain ⟨cn, lv, rfl, ha⟩ := hcut
        clear R0 c1 B0 hb
        have c1 := ha.out.s.c1
        have f1 := ha.out.s.of 1
        have c0 := ha.out.s.c0
        have f0 := ha.out.s.of 0
        obtain ⟨r, hr⟩ : ∃ r, g.mp = r := ⟨_, rfl⟩
        rw [hr] at c0
        have qT : ∀ (w : World) (r : Option Nat), (binOp .eql 49 (.map r) (.map none)).run Tryz.prog w = .ok (.bool r.isNone) w := fun w r => run_eql_map_nil w _ _ _ r Tryz.underlying49
        have hmm := @run_makeMap Tryz.prog
        go_upto_if 49 with fail
        go_cut [] from 50 to 53 (fun wx => ∃ mb D, Hid (Mid kw wx g cn lv xs mb D) ∧ Hid (FW kw.B w wx))
        case first =>
          have F1 : Hid (FW kw.B w (wc.setCell ⟨kw.OB, 1, none⟩ (.int .i64 ((g.nx : Int) + 1)))) := hid ((FW.below ha.out.b).trans (FW.grown (grown_set wc ⟨kw.OB, 1, none⟩ _) (fun j T e t => by cases e; rw [t.one ⟨_, _, ha.out.s.c.ob⟩]; simp [Wt]) (fun j e => by cases e; exact ha.out.s.c.lo.1)))
          have HR2 := hid hr
          clear hr
          cases r with
          | none =>
            have hmp := HR2.out
            obtain ⟨wd, hwd⟩ : ∃ wd, wd = wc.setCell ⟨kw.OB, 1, none⟩ (.int .i64 ((g.nx : Int) + 1)) := ⟨_, rfl⟩
            have hsz : wd.heap.size = wc.heap.size := by rw [hwd]; simp
            have hbk : ∃ cs, wd.heap[kw.OB]? = some (.cells cs 52 (0, 0)) ∧ cs[0]? = some (.map none) := ⟨_, by rw [hwd]; exact set_same ha.out.s.c.ob _, by simp [hmp]⟩
            obtain ⟨cs, hk1, hk2⟩ := hbk
            have hk3 : (wd.alloc (.map #[] 0)).heap[kw.OB]? = some (.cells cs 52 (0, 0)) := ((grown_new wd (.map #[] 0) none).block kw.OB (blk_lt hk1) (by simp)).trans hk1
            have e0 : (wd.alloc (.map #[] 0)).cell? ⟨kw.OB, 0, none⟩ = some (.map none) := by rw [cell_of hk3]; exact hk2
            have e1 : (wd.alloc (.map #[] 0)).frozen? ⟨kw.OB, 0, none⟩ = false := frozen_of hk3
            have HM : Hid (Mid kw ((wd.alloc (.map #[] 0)).setCell ⟨kw.OB, 0, none⟩ (.map (some wd.heap.size))) g cn lv xs wd.heap.size (.map [])) := hid (by subst hwd; exact Mid.new ha.out.s ha.out.hc ha.out.hf ha.out.hl ha.out.lo hmp rfl)
            have F2 : Hid (FW kw.B wd ((wd.alloc (.map #[] 0)).setCell ⟨kw.OB, 0, none⟩ (.map (some wd.heap.size)))) := hid (FW.grown (grown_two (grown_new _ (.map #[] 0) (some kw.OB)) (grown_set _ ⟨kw.OB, 0, none⟩ _)) (fun j T e t => by cases e; rw [t.one ⟨_, _, hk1⟩]; simp [Wt]) (fun j e => by cases e; exact ha.out.s.c.lo.1))
            rw [← hwd] at F1 ⊢
            clear hmp hwd hsz c0 c1 f0 f1 hk1 hk2 hk3 HR2
            simp only [Option.isNone_none]
            go_wp2_with fail
            go_meet
            exact ⟨_, _, HM, hid (F1.out.trans F2.out)⟩
          | some mb =>
            have hmp := HR2.out
            obtain ⟨D, hM⟩ := Mid.old ha.out.s ha.out.hc ha.out.hf ha.out.hl ha.out.lo hmp
            have HM := hid hM
            clear hM hmp
            simp only [Option.isNone_some]
            go_wp2_with fail
            go_meet
            exact ⟨_, _, HM, F1⟩
        case rest =>
          have HV := hid ha.out.hv
          clear ha c1 f1 c0 f0
          obtain ⟨mb, D, hM, F3⟩ := hcut
          have d0 := hM.out.c0
          have d1 := hM.out.d1
          obtain ⟨u1, hup, su, fu⟩ := hM.out.up hnx
          obtain ⟨u2, hup2, su2, fu2⟩ := hM.out.drew.up hnx
          clear hup su fu
          obtain ⟨apv, cpv, epv, _⟩ := (hM.out.l.rw (3 * kw.n) (Nat.le_refl _)).shape
          have HPV := hid epv
          go_upto_region 13 with fail
          go_region
          clear hup2 d0 d1 hM
          have d4 := su2.out.c4
          rw [show (addG g cn lv xs mb).pv (3 * kw.n) = g.pv (3 * kw.n) from rfl, epv] at d4
          have R4 := hid (su2.out.l.rw (3 * kw.n) (Nat.le_refl _))
          rw [show (addG g cn lv xs mb).pv (3 * kw.n) = g.pv (3 * kw.n) from rfl, epv] at R4
          have hcn : (addG g cn lv xs mb).cb g.nx = cn := up_same _ _ _
          clear epv
          go_wp2_with (at_builtin; refine append_pone (w1 := u2) (cb := (addG g cn lv xs mb).cb) rfl _ _ rfl g.nx (by rw [hcn]) _ _ rfl R4.out _ rfl rfl (by show (g.P (3 * kw.n)).length + 1 ≤ _; omega) ?_; intro v6 w6 own6 g6 new6; have f6 := own6.out.one; obtain ⟨b6, o6, p6, rfl⟩ := f6; have m6 := add_push su2.out HPV.out own6.out g6.out new6.out; obtain ⟨q1, q2, s6, F6, q3⟩ := m6)
          go_ret2
          obtain ⟨h1, h2⟩ := HW.out.add s6.out (((F3.out.trans (FW.below (below_drew wc))).trans fu2.out).trans F6.out) HX.out HV.out
          exact ⟨rfl, _, hid h1, hid h2, hid (((F3.out.trans (FW.below (below_drew wc))).trans fu2.out).trans F6.out)⟩
end

end Go.Proofs.YtikdmgemhfmipaaGreat
