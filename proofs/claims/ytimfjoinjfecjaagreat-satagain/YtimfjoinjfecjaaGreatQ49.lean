/-
  Run, exactly.
  Run of a solver, exactly; a clause that is learned has one order.
-/
import Derived.Test.YtimfjoinjfecjaaGreatQ48
import Derived.Test.YtimfjoinjfecjaaGreatQ25
import Derived.Test.YtimfjoinjfecjaaGreatQ45

namespace Go.Proofs.YtimfjoinjfecjaaGreat
open Go.RowKit Go.Maps
set_option linter.unusedVariables false

/-- What Run makes of a watch, of what held behind the last one and of what holds. -/
def runF (n lev : Nat) (q : WP) (H : List Int) (L : List E) : Option Nat × WP × List E :=
  match allF n lev ((meetF n q H (litsF L)).P (3 * n)) (meetF n q H (litsF L)) L with
  | (some c, q2, L2) => (some c, q2, L2)
  | (none, q2, L2) => spF n lev (n + 1 - q2.dn) q2 L2

theorem run_go {n lev : Nat} {q : WP} {H : List Int} {L L2 : List E} {g1 g2 : G} (h1 : g1.pt = meetF n q H (litsF L)) (h2 : allF n lev (g1.P (3 * n)) g1.pt L = (none, g2.pt, L2)) : runF n lev q H L = spF n lev (n + 1 - g2.dn) g2.pt L2 := by
  unfold runF
  rw [← h1, show g1.pt.P = g1.P from rfl, h2]; rfl
theorem run_stop {n lev c : Nat} {q : WP} {H : List Int} {L L2 : List E} {g1 g2 : G} (h1 : g1.pt = meetF n q H (litsF L)) (h2 : allF n lev (g1.P (3 * n)) g1.pt L = (some c, g2.pt, L2)) : runF n lev q H L = (some c, g2.pt, L2) := by
  unfold runF
  rw [← h1, show g1.pt.P = g1.P from rfl, h2]

section
variable {k : K} {kw : WK} {w w1 : World} {g : G} {L : List E} {lev : Nat} {p : V} {H : List Int}

theorem MeetX.out (h : MeetX k kw g L lev p H w w1) : ∃ g', Hid (J k kw w1 g' L lev p) ∧ Hid (Same g g') ∧ Hid (Inv kw.n g' (litsF L) (fun _ => g'.dn) (fun i => i ∈ g'.P (3 * kw.n))) ∧ Hid (g'.dn ≤ L.length) ∧ Hid (tot kw.n g' = tot kw.n g) ∧ Hid (FW kw.B w w1) ∧ Hid (g'.pt = meetF kw.n g.pt H (litsF L)) := h

theorem AllX.out {e : Ending} (h : AllX k kw g L lev p w e w1) :
    (∃ g' L' p', e = .returned (.pointer none) ∧ Hid (Mv k kw g L lev p w 0 g' L' p' w1) ∧ Hid (g'.dn = g.dn) ∧ Hid (Inv kw.n g' (litsF L') (fun _ => g.dn) (fun _ => False)) ∧ Hid (g'.P (3 * kw.n) = []) ∧ Hid (allF kw.n lev (g.P (3 * kw.n)) g.pt L = (none, g'.pt, L'))) ∨
    (∃ g' L' p' c, e = .returned (.pointer (some ⟨g.cb c, 0, none⟩)) ∧ Hid (Mv k kw g L lev p w 0 g' L' p' w1) ∧ Hid (g'.dn = g.dn) ∧ Hid (Inv kw.n g' (litsF L') (fun _ => g.dn) (fun i => i ∈ g'.P (3 * kw.n))) ∧ Hid (c < g.nx ∧ g.gn c = false ∧ ∀ x ∈ g.lt c, valueF L' x = -1) ∧ Hid (allF kw.n lev (g.P (3 * kw.n)) g.pt L = (some c, g'.pt, L'))) := by
  obtain ⟨g', L', p', h1, h2, h3⟩ := h
  rcases h3 with ⟨e1, ex, h4, h5⟩ | ⟨c, e1, ex, c1, c2, h4, c3⟩
  · exact .inl ⟨g', L', p', e1, h1, h2, h4, h5, ex⟩
  · exact .inr ⟨g', L', p', c, e1, h1, h2, h4, ⟨c1, c2, c3⟩, ex⟩

theorem SpX.out {e : Ending} (h : SpX k kw g L lev p w e w1) :
    (∃ g' L' p', e = .returned (.pointer none) ∧ Hid (Mv k kw g L lev p w (kw.n * g.nx + 1) g' L' p' w1) ∧ Hid (g'.dn = L'.length ∧ Inv kw.n g' (litsF L') (fun _ => g'.dn) (fun _ => False)) ∧ Hid (spF kw.n lev (kw.n + 1 - g.dn) g.pt L = (none, g'.pt, L'))) ∨
    (∃ g' L' p' c, e = .returned (.pointer (some ⟨g.cb c, 0, none⟩)) ∧ Hid (Mv k kw g L lev p w (kw.n * g.nx + 1) g' L' p' w1) ∧ Hid (Inv kw.n g' (litsF L') (fun _ => g'.dn) (fun i => i ∈ g'.P (3 * kw.n))) ∧ Hid (c < g.nx ∧ g.gn c = false ∧ ∀ x ∈ g.lt c, valueF L' x = -1) ∧ Hid (spF kw.n lev (kw.n + 1 - g.dn) g.pt L = (some c, g'.pt, L'))) := by
  obtain ⟨g', L', p', h1, h2, h3⟩ := h
  rcases h3 with ⟨e1, ex, h4, h5, _⟩ | ⟨c, e1, ex, c1, c2, c3, h4⟩
  · exact .inl ⟨g', L', p', e1, h1, ⟨h4, h5⟩, ex⟩
  · exact .inr ⟨g', L', p', c, e1, h1, h4, ⟨c1, c2, c3⟩, ex⟩


def RunX (k : K) (kw : WK) (g : G) (L : List E) (lev : Nat) (p : V) (H : List Int) (w : World) (e : Ending) (w' : World) : Prop :=
  ∃ g' L' p', Wa k kw w' g' L' lev p' (litsF L') ∧ Sm0 g g' ∧ Ext L L' lev ∧ tot kw.n g' ≤ tot kw.n g + (kw.n * g.nx + 1) ∧ FT k kw.B p p' w w' ∧ (∀ j, g'.hv.ownBlock = some j → Mine k p' j) ∧
    ((e = .returned (.tuple #[.int .i64 (-1), .bool true]) ∧ runF kw.n lev g.pt H L = (none, g'.pt, L') ∧ Closed g' L') ∨
     ∃ c : Nat, e = .returned (.tuple #[.int .i64 c, .bool false]) ∧ runF kw.n lev g.pt H L = (some c, g'.pt, L') ∧ c < g.nx ∧ g.gn c = false ∧ ∀ y ∈ g.lt c, valueF L' y = -1)

set_option maxHeartbeats 4000000 in
theorem run_ex (W : Wa k kw w g L lev p H) (hnx : g.nx ≤ 1000000) (hsu : tot kw.n g + kw.n * g.nx ≤ 300000000000) :
    Calls Tryz.prog 31 #[.pointer (some ⟨kw.OB, 0, none⟩), .pointer (some ⟨k.OB, 0, none⟩)] w fun e w' => RunX k kw g L lev p H w e w' := by
  obtain ⟨ao, n, hv⟩ := W.hf
  have hn : n ≤ 10000000000000 := by
    have h1 := W.hl
    obtain ⟨_, _, _, e, h2, _⟩ := W.ht
    rw [hv] at e
    cases e
    omega
  have HW := hid W
  have HV := hid hv
  have hs0 : tot kw.n g ≤ 400000000000 := by omega
  clear W hv
  go_enter Tryz.func31, Tryz.ntmps31
  go_wp2_with (first
    | (go_at_call 47; with_reducible (refine (meet_ex HW.out.j HW.out.iv HW.out.ht HV.out HW.out.hH hn hs0).mono ?_); rintro e w1 ⟨rfl, hme⟩; have hme2 := MeetX.out hme; obtain ⟨g1, J1, S1, I1, D1, U1, F1, X1⟩ := hme2; have R1 := hid (HW.out.rs.as S1.out.nx S1.out.gn S1.out.lt); have hn1 := hid (show g1.nx ≤ 1000000 by rw [S1.out.nx]; exact hnx); have hs1 := hid (show tot kw.n g1 ≤ 400000000000 by rw [U1.out]; exact hs0))
    | (go_at_call 48; with_reducible (refine (settleAll_ex J1.out I1.out R1.out D1.out hn1.out hs1.out).mono ?_); intro e w2 hae; have hae2 := AllX.out hae; rcases hae2 with ⟨g2, L2, p2, rfl, M2, D2, I2, P2, X2⟩ | ⟨g2, L2, p2, c, rfl, M2, D2, I2, hbad, X2⟩; rotate_left; have MF := hid (M2.out.weak (B' := kw.n * g1.nx + 1) (by omega)); have IF := hid (inv_dn I2.out D2.out); have c5 := MF.out.j.s.c5; have f5 := MF.out.j.s.of 5; rw [MF.out.sm.hv, S1.out.hv, HV.out] at c5; have NM := MF.out.num hbad.out.1 hbad.out.2.1; obtain ⟨nm1, nm2⟩ := NM; rotate_left)
    | (go_at_call 49; with_reducible (refine (spread_ex M2.out.j (inv_dn I2.out D2.out) M2.out.rs P2.out (run_d D1.out D2.out M2.out) (run_n hn1.out M2.out) (run_s U1.out S1.out M2.out P2.out hsu)).mono ?_); intro e w3 hsp; have hsp2 := SpX.out hsp; rcases hsp2 with ⟨g3, L3, p3, rfl, M3, I3, X3⟩ | ⟨g3, L3, p3, c, rfl, M3, I3, hbad, X3⟩; have MF := hid (run_mv M2.out M3.out); have IF := hid (I3.out.2.mono (X' := fun i => i ∈ g3.P (3 * kw.n)) (fun _ => Nat.le_refl _) (fun i hi => hi.elim)); have c5 := MF.out.j.s.c5; have f5 := MF.out.j.s.of 5; rw [MF.out.sm.hv, S1.out.hv, HV.out] at c5; rotate_left; have MF := hid (run_mv M2.out M3.out); have IF := hid I3.out; have c5 := MF.out.j.s.c5; have f5 := MF.out.j.s.of 5; rw [MF.out.sm.hv, S1.out.hv, HV.out] at c5; have NM := M3.out.num hbad.out.1 hbad.out.2.1; obtain ⟨nm1, nm2⟩ := NM; rotate_left)
    | (go_at_call 50; with_reducible (refine (lits_det MF.out.j.t rfl).mono ?_); rintro e w4 ⟨rfl, rfl⟩))
  · obtain ⟨WF, FF⟩ := Mv.keep (g0 := g) MF.out IF.out
    go_ret2
    refine ⟨_, _, _, WF, (S1.out.sm.trans MF.out.sm.sm).trans ⟨rfl, rfl, rfl, rfl, rfl, rfl, rfl⟩, MF.out.ex, ?_, ((FT.fw F1.out).trans MF.out.ft).trans (FT.fw FF), fun j hj => litA_mine hj, .inl ⟨rfl, (run_go X1.out X2.out).trans X3.out, ?_⟩⟩
    · have := MF.out.su
      rw [U1.out, S1.out.nx] at this
      exact this
    · exact I3.out.2.closed I3.out.1 MF.out.j.t.nd
  · obtain ⟨WF, FF⟩ := Mv.keep (g0 := g) MF.out IF.out
    go_ret2
    refine ⟨_, _, _, WF, (S1.out.sm.trans MF.out.sm.sm).trans ⟨rfl, rfl, rfl, rfl, rfl, rfl, rfl⟩, MF.out.ex, ?_, ((FT.fw F1.out).trans MF.out.ft).trans (FT.fw FF), fun j hj => litA_mine hj, .inr ⟨c, rfl, (run_go X1.out X2.out).trans X3.out, ?_, ?_, ?_⟩⟩
    · have := MF.out.su
      rw [U1.out, S1.out.nx] at this
      exact this
    · rw [← S1.out.nx, ← M2.out.sm.nx]; exact hbad.out.1
    · rw [← S1.out.gn, ← M2.out.sm.gn]; exact hbad.out.2.1
    · rw [← S1.out.lt, ← M2.out.sm.lt]; exact hbad.out.2.2
  · obtain ⟨WF, FF⟩ := Mv.keep (g0 := g) MF.out IF.out
    go_ret2
    refine ⟨_, _, _, WF, (S1.out.sm.trans MF.out.sm.sm).trans ⟨rfl, rfl, rfl, rfl, rfl, rfl, rfl⟩, MF.out.ex, ?_, ((FT.fw F1.out).trans MF.out.ft).trans (FT.fw FF), fun j hj => litA_mine hj, .inr ⟨c, rfl, run_stop X1.out X2.out, ?_, ?_, ?_⟩⟩
    · have := MF.out.su
      rw [U1.out, S1.out.nx] at this
      exact this
    · rw [← S1.out.nx]; exact hbad.out.1
    · rw [← S1.out.gn]; exact hbad.out.2.1
    · rw [← S1.out.lt]; exact hbad.out.2.2
end
end Go.Proofs.YtimfjoinjfecjaaGreat

namespace Go.Proofs.YtimfjoinjfecjaaGreat
open Go.RowKit Go.Maps
set_option linter.unusedVariables false

theorem run_one_ex {k : K} {kw : WK} {w : World} {g : G} {L : List E} {lev : Nat} {p : V} {H : List Int} (W : Wa k kw w g L lev p H) (hnx : g.nx ≤ 1000000) (hsu : tot kw.n g + kw.n * g.nx ≤ 300000000000) :
    Calls Tryz.prog 31 #[.pointer (some ⟨kw.OB, 0, none⟩), .pointer (some ⟨k.OB, 0, none⟩)] w fun e w' => ∃ i ok g' L' p', e = .returned (.tuple #[.int .i64 i, .bool ok]) ∧ Hid (RunV g g' L' i ok) ∧ Hid (Wa k kw w' g' L' lev p' (litsF L')) ∧ Hid (Sm0 g g' ∧ tot kw.n g' ≤ tot kw.n g + (kw.n * g.nx + 1)) ∧ Hid (Ext L L' lev) ∧ Hid (FT k kw.B p p' w w' ∧ ∀ j, g'.hv.ownBlock = some j → Mine k p' j) ∧
      Hid (runF kw.n lev g.pt H L = (bif ok then none else some i.toNat, g'.pt, L')) := by
  refine (run_ex W hnx hsu).mono fun e w' h => ?_
  obtain ⟨g', L', p', h1, h2, h3, h4, h5, h5', h6⟩ := h
  rcases h6 with ⟨rfl, hx, h7⟩ | ⟨c, rfl, hx, h7, h8, h9⟩
  · exact ⟨_, _, g', L', p', rfl, .inl ⟨rfl, rfl, h7⟩, h1, ⟨h2, h4⟩, h3, ⟨h5, h5'⟩, hid hx⟩
  · exact ⟨_, _, g', L', p', rfl, .inr ⟨c, rfl, rfl, h7, h8, h9⟩, h1, ⟨h2, h4⟩, h3, ⟨h5, h5'⟩, hid hx⟩

theorem srun_ex {c : SC} {w0 w : World} {g : G} {s : SS} {m : MV} (h : Sm c w0 g s m w) (hnx : g.nx ≤ 1000000) (hsu : tot c.kw.n g + c.kw.n * g.nx ≤ 300000000000) :
    Calls Tryz.prog 31 #[.pointer (some ⟨c.kw.OB, 0, none⟩), .pointer (some ⟨c.k.OB, 0, none⟩)] w fun e w' => ∃ i ok g' L' m', e = .returned (.tuple #[.int .i64 i, .bool ok]) ∧ Hid (RunV g g' L' i ok) ∧ Hid (Sm c w0 g' (upW s L' s.lev (litsF L')) m' w') ∧ Hid (Kp w0 w m.ow w' m'.ow) ∧ Hid (Sm0 g g' ∧ tot c.kw.n g' ≤ tot c.kw.n g + (c.kw.n * g.nx + 1)) ∧ Hid (Ext s.L L' s.lev) ∧
      Hid (runF c.kw.n s.lev g.pt s.H s.L = (bif ok then none else some i.toNat, g'.pt, L')) := by
  refine (run_one_ex h.W hnx hsu).mono fun e w' q => ?_
  obtain ⟨i, ok, g', L', p', rfl, V, W, S, X, F, Y⟩ := q
  have z := h.wa W.out F.out.1 (fun i hi hg j e h0 hs => h.t.ft j (.inr (.inr (.inl ⟨i, by rw [← S.out.1.nx]; exact hi, by rw [← S.out.1.gn]; exact hg, by rw [← S.out.1.lv]; exact e, by rw [← S.out.1.lt]; exact h0⟩)))) (fun h0 j e hs => h.t.ft j (.inl (F.out.1.new j hs (F.out.2 j e))))
  exact ⟨i, ok, g', L', _, rfl, V, hid z.1, hid z.2, S, X, Y⟩

/-- There is one such order. -/
theorem fall_one {L : List E} : ∀ {es os : List Int}, es.Perm os → Fall L es → Fall L os → es = os
  | [], os, h, _, _ => h.nil_eq
  | x :: xs, os, h, f1, f2 => by
    cases os with
    | nil => exact absurd h.length_eq (by simp)
    | cons y ys =>
      have e : x = y := by
        have hx : x ∈ y :: ys := h.subset (by simp)
        have hy : y ∈ x :: xs := h.symm.subset (by simp)
        rcases List.mem_cons.1 hx with q | q
        · exact q
        · rcases List.mem_cons.1 hy with q2 | q2
          · exact q2.symm
          · have a := (List.pairwise_cons.1 f2).1 x q
            have b := (List.pairwise_cons.1 f1).1 y q2
            omega
      subst e
      rw [fall_one (h.cons_inv) (List.pairwise_cons.1 f1).2 (List.pairwise_cons.1 f2).2]

theorem fall_same {L : List E} {es es' os : List Int} (h : es.Perm os) (f : Fall L es) (h' : es'.Perm os) (f' : Fall L es') : es = es' := fall_one (h.trans h'.symm) f f'

end Go.Proofs.YtimfjoinjfecjaaGreat
