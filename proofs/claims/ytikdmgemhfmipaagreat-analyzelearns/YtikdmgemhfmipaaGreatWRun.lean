/-
  Run: what follows is assigned, or a clause does not hold.
-/
import Derived.Test.YtikdmgemhfmipaaGreatWMeet
namespace Go.Proofs.YtikdmgemhfmipaaGreat
open Go.RowKit Go.Maps
set_option linter.unusedVariables false

/-- The clauses are those that they were. -/
structure Sm0 (g g' : G) : Prop where
  nx : g'.nx = g.nx
  cb : g'.cb = g.cb
  lt : g'.lt = g.lt
  lv : g'.lv = g.lv
  gn : g'.gn = g.gn
  mp : g'.mp = g.mp
  rm : g'.rm = g.rm

theorem Same.sm {g g' : G} (h : Same g g') : Sm0 g g' := ⟨h.nx, h.cb, h.lt, h.lv, h.gn, h.mp, h.rm⟩
theorem Sm0.trans {a b c : G} (h : Sm0 a b) (k : Sm0 b c) : Sm0 a c := ⟨k.nx.trans h.nx, k.cb.trans h.cb, k.lt.trans h.lt, k.lv.trans h.lv, k.gn.trans h.gn, k.mp.trans h.mp, k.rm.trans h.rm⟩

/-- No clause is left by which something follows. -/
def Closed (g : G) (L : List E) : Prop := ∀ i, i < g.nx → g.gn i = false → (∃ x ∈ g.lt i, valueF L x = 1) ∨ ∃ x ∈ g.lt i, ∃ y ∈ g.lt i, x ≠ y ∧ valueF L x = 0 ∧ valueF L y = 0

theorem Inv.closed {n : Nat} {g : G} {L : List E} {d : Nat} (iv : Inv n g (litsF L) (fun _ => d) (fun _ => False)) (hd : d = L.length) (hnd : ND L) : Closed g L := by
  intro i hi hg
  rcases iv.ok i hi hg with c | ⟨c1, x, hx, q, hq, _⟩ | ⟨c1, c2, c3⟩
  · exact c.elim
  · exact .inl ⟨x, hx, val_pos hnd hq⟩
  · rcases iv.wt i hi hg with q | ⟨q1, q2, q3, q4, q5, _⟩
    · exact absurd q.1 c1
    · have lt : ∀ (r : Nat) (y : Int), (litsF L)[r]? = some y → r < d := fun r y h => by
        have := (List.getElem?_eq_some_iff.1 h).1
        rw [litsF_len] at this; omega
      rcases val_cases (L := L) (g.a i) with v1 | ⟨v1, _⟩ | ⟨v1, _, r, hr⟩
      · rcases val_cases (L := L) (g.b i) with v2 | ⟨v2, _⟩ | ⟨v2, _, r, hr⟩
        · exact .inr ⟨_, q4, _, q5, q3, v1, v2⟩
        · exact .inl ⟨_, q5, v2⟩
        · obtain ⟨s, hs, _⟩ := c3 r (lt r _ hr) hr
          exact .inl ⟨_, q4, val_pos hnd hs⟩
      · exact .inl ⟨_, q4, v1⟩
      · obtain ⟨s, hs, _⟩ := c2 r (lt r _ hr) hr
        exact .inl ⟨_, q5, val_pos hnd hs⟩

/-- What holds between the calls. -/
structure Wa (k : K) (kw : WK) (w : World) (g : G) (L : List E) (lev : Nat) (p : V) (H : List Int) : Prop where
  j : J k kw w g L lev p
  iv : Inv kw.n g H (fun _ => g.dn) (fun i => i ∈ g.P (3 * kw.n))
  ht : Told k p w g.hv H
  hf : ∃ ao n, g.hv = .slice ao n n
  hH : ∀ x ∈ H, x < 2 * kw.n
  hl : H.length ≤ 1048576
  rs : Rs g L

def RunEnd (k : K) (kw : WK) (g : G) (L : List E) (lev : Nat) (p : V) (w : World) (e : Ending) (w' : World) : Prop :=
  ∃ g' L' p', Wa k kw w' g' L' lev p' (litsF L') ∧ Sm0 g g' ∧ Ext L L' lev ∧ tot kw.n g' ≤ tot kw.n g + (kw.n * g.nx + 1) ∧ FT k kw.B p p' w w' ∧
    ((e = .returned (.tuple #[.int .i64 (-1), .bool true]) ∧ Closed g' L') ∨
     ∃ c : Nat, e = .returned (.tuple #[.int .i64 c, .bool false]) ∧ c < g.nx ∧ g.gn c = false ∧ ∀ y ∈ g.lt c, valueF L' y = -1)

section
variable {k : K} {kw : WK} {w w1 : World} {g : G} {L : List E} {lev : Nat} {p : V} {H : List Int}

theorem run_none1 (t : Option Addr) (w : World) : Calls Tryz.prog 9 #[.pointer none, .pointer t] w fun e w' => e = .returned (.tuple #[.int .i64 (-1), .bool true]) ∧ w' = w := by
  go_enter Tryz.func9, Tryz.ntmps9
  go_wp2
  go_ret2
  exact ⟨rfl, rfl⟩

theorem run_none2 (a : Addr) (w : World) : Calls Tryz.prog 9 #[.pointer (some a), .pointer none] w fun e w' => e = .returned (.tuple #[.int .i64 (-1), .bool true]) ∧ w' = w := by
  go_enter Tryz.func9, Tryz.ntmps9
  go_wp2
  go_ret2
  exact ⟨rfl, rfl⟩

theorem MeetEnd.out (h : MeetEnd k kw g L lev p w w1) : ∃ g', Hid (J k kw w1 g' L lev p) ∧ Hid (Same g g') ∧ Hid (Inv kw.n g' (litsF L) (fun _ => g'.dn) (fun i => i ∈ g'.P (3 * kw.n))) ∧ Hid (g'.dn ≤ L.length) ∧ Hid (tot kw.n g' = tot kw.n g) ∧ Hid (FW kw.B w w1) := h

theorem AllEnd.out {e : Ending} (h : AllEnd k kw g L lev p w e w1) :
    (∃ g' L' p', e = .returned (.pointer none) ∧ Hid (Mv k kw g L lev p w 0 g' L' p' w1) ∧ Hid (g'.dn = g.dn) ∧ Hid (Inv kw.n g' (litsF L') (fun _ => g.dn) (fun _ => False)) ∧ Hid (g'.P (3 * kw.n) = [])) ∨
    (∃ g' L' p' c, e = .returned (.pointer (some ⟨g.cb c, 0, none⟩)) ∧ Hid (Mv k kw g L lev p w 0 g' L' p' w1) ∧ Hid (g'.dn = g.dn) ∧ Hid (Inv kw.n g' (litsF L') (fun _ => g.dn) (fun i => i ∈ g'.P (3 * kw.n))) ∧ Hid (c < g.nx ∧ g.gn c = false ∧ ∀ x ∈ g.lt c, valueF L' x = -1)) := by
  obtain ⟨g', L', p', h1, h2, h3⟩ := h
  rcases h3 with ⟨e1, h4, h5⟩ | ⟨c, e1, c1, c2, h4, c3⟩
  · exact .inl ⟨g', L', p', e1, h1, h2, h4, h5⟩
  · exact .inr ⟨g', L', p', c, e1, h1, h2, h4, c1, c2, c3⟩

theorem SpEnd.out {e : Ending} (h : SpEnd k kw g L lev p w e w1) :
    (∃ g' L' p', e = .returned (.pointer none) ∧ Hid (Mv k kw g L lev p w (kw.n * g.nx + 1) g' L' p' w1) ∧ Hid (g'.dn = L'.length ∧ Inv kw.n g' (litsF L') (fun _ => g'.dn) (fun _ => False))) ∨
    (∃ g' L' p' c, e = .returned (.pointer (some ⟨g.cb c, 0, none⟩)) ∧ Hid (Mv k kw g L lev p w (kw.n * g.nx + 1) g' L' p' w1) ∧ Hid (Inv kw.n g' (litsF L') (fun _ => g'.dn) (fun i => i ∈ g'.P (3 * kw.n))) ∧ Hid (c < g.nx ∧ g.gn c = false ∧ ∀ x ∈ g.lt c, valueF L' x = -1)) := by
  obtain ⟨g', L', p', h1, h2, h3⟩ := h
  rcases h3 with ⟨e1, h4, h5, _⟩ | ⟨c, e1, c1, c2, c3, h4⟩
  · exact .inl ⟨g', L', p', e1, h1, h4, h5⟩
  · exact .inr ⟨g', L', p', c, e1, h1, h4, c1, c2, c3⟩

/-- What held is kept. -/
theorem Mv.keep {g0 g' : G} {L' : List E} {p' : V} {B : Nat} (hm : Mv k kw g L lev p w B g' L' p' w1) (iv : Inv kw.n g' (litsF L') (fun _ => g'.dn) (fun i => i ∈ g'.P (3 * kw.n))) :
    Wa k kw (w1.setCell ⟨kw.OB, 5, none⟩ (.slice (litA p') L'.length L'.length)) { g' with hv := .slice (litA p') L'.length L'.length } L' lev p' (litsF L') ∧ FW kw.B w1 (w1.setCell ⟨kw.OB, 5, none⟩ (.slice (litA p') L'.length L'.length)) := by
  have F : FW kw.B w1 (w1.setCell ⟨kw.OB, 5, none⟩ (.slice (litA p') L'.length L'.length)) := FW.grown (grown_set w1 ⟨kw.OB, 5, none⟩ _) (fun i T e t => by cases e; rw [t.one ⟨_, _, hm.j.s.c.ob⟩]; simp [Wt]) (fun i e => by cases e; exact hm.j.s.c.lo.1)
  refine ⟨⟨hm.j.fw F (hm.j.s.puth _) rfl rfl rfl rfl, iv.like rfl rfl rfl rfl rfl rfl rfl rfl, hm.j.t.told.ft (FT.fw F), ⟨_, _, rfl⟩, fun x hx => ?_, by rw [litsF_len]; have := hm.j.t.len; omega, hm.rs.as rfl rfl rfl⟩, F⟩
  obtain ⟨r, hr⟩ := List.mem_iff_getElem?.1 hx
  obtain ⟨e, he, rfl⟩ := lits_at.1 hr
  have h1 := hm.j.t.lits_lt e (List.mem_of_getElem? he)
  have h2 := hm.j.n
  unfold vr at h1
  omega

theorem run_d {g1 g2 : G} {L2 : List E} {p2 : V} {B : Nat} (h1 : g1.dn ≤ L.length) (h2 : g2.dn = g1.dn) (m : Mv k kw g1 L lev p w B g2 L2 p2 w1) : g2.dn ≤ L2.length := by have := m.ex.len; omega
theorem run_n {g1 g2 : G} {L2 : List E} {p2 : V} {B : Nat} (h1 : g1.nx ≤ 1000000) (m : Mv k kw g1 L lev p w B g2 L2 p2 w1) : g2.nx ≤ 1000000 := by rw [m.sm.nx]; exact h1
theorem run_s {g1 g2 : G} {L2 : List E} {p2 : V} (h1 : tot kw.n g1 = tot kw.n g) (s : Same g g1) (m : Mv k kw g1 L lev p w 0 g2 L2 p2 w1) (h2 : g2.P (3 * kw.n) = []) (hs : tot kw.n g + kw.n * g.nx ≤ 3000000) : sumL kw.n g2.P + kw.n * g2.nx ≤ 4000000 := by
  have h3 := m.su
  rw [m.sm.nx, s.nx]
  unfold tot at h3
  rw [h2] at h3
  unfold tot at h1 hs
  simp only [List.length_nil] at h3
  omega
theorem run_mv {g1 g2 g3 : G} {L2 L3 : List E} {p2 p3 : V} {w2 w3 : World} (a : Mv k kw g1 L lev p w1 0 g2 L2 p2 w2) (b : Mv k kw g2 L2 lev p2 w2 (kw.n * g2.nx + 1) g3 L3 p3 w3) : Mv k kw g1 L lev p w1 (kw.n * g1.nx + 1) g3 L3 p3 w3 := by
  have := a.trans b
  rw [a.sm.nx, Nat.zero_add] at this
  exact this

theorem inv_dn {n : Nat} {g2 : G} {H : List Int} {d : Nat} {X : Nat → Prop} (h : Inv n g2 H (fun _ => d) X) (e : g2.dn = d) : Inv n g2 H (fun _ => g2.dn) X := by rw [e]; exact h

/-- A clause that is told. -/
theorem Mv.num {g' : G} {L' : List E} {p' : V} {B c : Nat} (hm : Mv k kw g L lev p w B g' L' p' w1) (hc : c < g.nx) (hg : g.gn c = false) : w1.cell? ⟨g.cb c, 0, none⟩ = some (.int .i64 c) ∧ ¬ g.cb c = kw.OB := by
  have h1 : c < g'.nx := by rw [hm.sm.nx]; exact hc
  have h2 : g'.gn c = false := by rw [hm.sm.gn]; exact hg
  rw [← hm.sm.cb]
  exact ⟨(hm.j.s.l.ks h1 h2).1, blk_ne (hm.j.s.l.cl c h1) hm.j.s.c.ob (by decide)⟩

set_option maxHeartbeats 4000000 in
theorem run_is (W : Wa k kw w g L lev p H) (hnx : g.nx ≤ 1000000) (hsu : tot kw.n g + kw.n * g.nx ≤ 3000000) :
    Calls Tryz.prog 9 #[.pointer (some ⟨kw.OB, 0, none⟩), .pointer (some ⟨k.OB, 0, none⟩)] w fun e w' => RunEnd k kw g L lev p w e w' := by
  obtain ⟨ao, n, hv⟩ := W.hf
  have hn : n ≤ 100000000 := by
    have h1 := W.hl
    obtain ⟨_, _, _, e, h2, _⟩ := W.ht
    rw [hv] at e
    cases e
    omega
  have HW := hid W
  have HV := hid hv
  have hs0 : tot kw.n g ≤ 4000000 := by omega
  clear W hv
  go_enter Tryz.func9, Tryz.ntmps9
  go_wp2_with (first
    | (go_at_call 20; with_reducible (refine (meet_is HW.out.j HW.out.iv HW.out.ht HV.out HW.out.hH hn hs0).mono ?_); rintro e w1 ⟨rfl, hme⟩; have hme2 := MeetEnd.out hme; obtain ⟨g1, J1, S1, I1, D1, U1, F1⟩ := hme2; have R1 := hid (HW.out.rs.as S1.out.nx S1.out.gn S1.out.lt); have hn1 := hid (show g1.nx ≤ 1000000 by rw [S1.out.nx]; exact hnx); have hs1 := hid (show tot kw.n g1 ≤ 4000000 by rw [U1.out]; exact hs0))
    | (go_at_call 21; with_reducible (refine (settleAll_is J1.out I1.out R1.out D1.out hn1.out hs1.out).mono ?_); intro e w2 hae; have hae2 := AllEnd.out hae; rcases hae2 with ⟨g2, L2, p2, rfl, M2, D2, I2, P2⟩ | ⟨g2, L2, p2, c, rfl, M2, D2, I2, hbad⟩; rotate_left; have MF := hid (M2.out.weak (B' := kw.n * g1.nx + 1) (by omega)); have IF := hid (inv_dn I2.out D2.out); have c5 := MF.out.j.s.c5; have f5 := MF.out.j.s.of 5; rw [MF.out.sm.hv, S1.out.hv, HV.out] at c5; have NM := MF.out.num hbad.out.1 hbad.out.2.1; obtain ⟨nm1, nm2⟩ := NM; rotate_left)
    | (go_at_call 22; with_reducible (refine (spread_is M2.out.j (inv_dn I2.out D2.out) M2.out.rs P2.out (run_d D1.out D2.out M2.out) (run_n hn1.out M2.out) (run_s U1.out S1.out M2.out P2.out hsu)).mono ?_); intro e w3 hsp; have hsp2 := SpEnd.out hsp; rcases hsp2 with ⟨g3, L3, p3, rfl, M3, I3⟩ | ⟨g3, L3, p3, c, rfl, M3, I3, hbad⟩; have MF := hid (run_mv M2.out M3.out); have IF := hid (I3.out.2.mono (X' := fun i => i ∈ g3.P (3 * kw.n)) (fun _ => Nat.le_refl _) (fun i hi => hi.elim)); have c5 := MF.out.j.s.c5; have f5 := MF.out.j.s.of 5; rw [MF.out.sm.hv, S1.out.hv, HV.out] at c5; rotate_left; have MF := hid (run_mv M2.out M3.out); have IF := hid I3.out; have c5 := MF.out.j.s.c5; have f5 := MF.out.j.s.of 5; rw [MF.out.sm.hv, S1.out.hv, HV.out] at c5; have NM := M3.out.num hbad.out.1 hbad.out.2.1; obtain ⟨nm1, nm2⟩ := NM; rotate_left)
    | (go_at_call 23; with_reducible (refine (lits_det MF.out.j.t rfl).mono ?_); rintro e w4 ⟨rfl, rfl⟩))
  · obtain ⟨WF, FF⟩ := Mv.keep (g0 := g) MF.out IF.out
    go_ret2
    refine ⟨_, _, _, WF, (S1.out.sm.trans MF.out.sm.sm).trans ⟨rfl, rfl, rfl, rfl, rfl, rfl, rfl⟩, MF.out.ex, ?_, ((FT.fw F1.out).trans MF.out.ft).trans (FT.fw FF), .inl ⟨rfl, ?_⟩⟩
    · have := MF.out.su
      rw [U1.out, S1.out.nx] at this
      exact this
    · exact I3.out.2.closed I3.out.1 MF.out.j.t.nd
  · obtain ⟨WF, FF⟩ := Mv.keep (g0 := g) MF.out IF.out
    go_ret2
    refine ⟨_, _, _, WF, (S1.out.sm.trans MF.out.sm.sm).trans ⟨rfl, rfl, rfl, rfl, rfl, rfl, rfl⟩, MF.out.ex, ?_, ((FT.fw F1.out).trans MF.out.ft).trans (FT.fw FF), .inr ⟨c, rfl, ?_, ?_, ?_⟩⟩
    · have := MF.out.su
      rw [U1.out, S1.out.nx] at this
      exact this
    · rw [← S1.out.nx, ← M2.out.sm.nx]; exact hbad.out.1
    · rw [← S1.out.gn, ← M2.out.sm.gn]; exact hbad.out.2.1
    · rw [← S1.out.lt, ← M2.out.sm.lt]; exact hbad.out.2.2
  · obtain ⟨WF, FF⟩ := Mv.keep (g0 := g) MF.out IF.out
    go_ret2
    refine ⟨_, _, _, WF, (S1.out.sm.trans MF.out.sm.sm).trans ⟨rfl, rfl, rfl, rfl, rfl, rfl, rfl⟩, MF.out.ex, ?_, ((FT.fw F1.out).trans MF.out.ft).trans (FT.fw FF), .inr ⟨c, rfl, ?_, ?_, ?_⟩⟩
    · have := MF.out.su
      rw [U1.out, S1.out.nx] at this
      exact this
    · rw [← S1.out.nx]; exact hbad.out.1
    · rw [← S1.out.gn]; exact hbad.out.2.1
    · rw [← S1.out.lt]; exact hbad.out.2.2
end

end Go.Proofs.YtikdmgemhfmipaaGreat
