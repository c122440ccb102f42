/-
  settle, exactly.
  Literals that are met.
-/
import Derived.Test.YtimfjoinjfecjaaGreatQ14
import Derived.Test.YtimfjoinjfecjaaGreatQ11
import Derived.Test.YtimfjoinjfecjaaGreatQ13

namespace Go.Proofs.YtimfjoinjfecjaaGreat
open Go.RowKit Go.Maps
set_option linter.unusedVariables false

def standsW (q : WP) (L : List E) (c : Nat) : Bool := decide (q.a c ≠ -1 ∧ 0 ≤ valueF L (q.a c) ∧ 0 ≤ valueF L (q.b c))
def unwF (q : WP) (c : Nat) : WP := if q.a c = -1 then q else
  { q with P := up (up q.P (q.a c).toNat (outF (fun i => i == c) (q.P (q.a c).toNat))) (q.b c).toNat (outF (fun i => i == c) (q.P (q.b c).toNat)), a := up q.a c (-1), b := up q.b c (-1) }
def watF (q : WP) (c a b : Nat) : WP := { q with P := up (up q.P a (q.P a ++ [c])) b (q.P b ++ [c]), a := up q.a c a, b := up q.b c b }
def leanF (n : Nat) (q : WP) (c u : Nat) : WP := { q with P := up q.P (2 * n + u) (q.P (2 * n + u) ++ [c]) }
def plF (q : WP) (u : Nat) (z : Int) : WP := { q with pl := up q.pl u z }

/-- What settle makes of a watch and of what holds. -/
def settleF (n lev : Nat) (q : WP) (L : List E) (c : Nat) : Bool × WP × List E :=
  if q.gn c = true ∨ standsW q L c = true then (true, q, L)
  else if (twoA L (-1) (q.lt c)).1 = -1 then (false, unwF q c, L)
  else if (twoA L (-1) (q.lt c)).2 ≠ -1 then (true, watF (unwF q c) c (twoA L (-1) (q.lt c)).1.toNat (twoA L (-1) (q.lt c)).2.toNat, L)
  else if valueF L (twoA L (-1) (q.lt c)).1 = 0 then (true, leanF n (plF (unwF q c) ((twoA L (-1) (q.lt c)).1.toNat / 2) L.length) c ((twoA L (-1) (q.lt c)).1.toNat / 2), L ++ [⟨(twoA L (-1) (q.lt c)).1.toNat, lev, c⟩])
  else (true, leanF n (unwF q c) c ((twoA L (-1) (q.lt c)).1.toNat / 2), L)

section
variable {n lev c m m' : Nat} {q : WP} {L : List E}
theorem unw_none (h : q.a c = -1) : unwF q c = q := by unfold unwF; rw [if_pos h]
theorem unw_some {a b : Nat} (ea : q.a c = a) (eb : q.b c = b) : unwF q c = { q with P := up (up q.P a (outF (fun i => i == c) (q.P a))) b (outF (fun i => i == c) (q.P b)), a := up q.a c (-1), b := up q.b c (-1) } := by
  unfold unwF; rw [if_neg (by omega), ea, eb, Int.toNat_natCast, Int.toNat_natCast]
theorem settle_f0 (h : q.gn c = true ∨ standsW q L c = true) : settleF n lev q L c = (true, q, L) := by unfold settleF; rw [if_pos h]
theorem settle_no (hg : q.gn c = false) (hs : standsW q L c = false) : ¬ (q.gn c = true ∨ standsW q L c = true) := by rw [hg, hs]; simp
theorem settle_f1 (hg : q.gn c = false) (hs : standsW q L c = false) (ht : twoA L (-1) (q.lt c) = (-1, -1)) : settleF n lev q L c = (false, unwF q c, L) := by
  unfold settleF; rw [if_neg (settle_no hg hs), ht, if_pos rfl]
theorem settle_f2 (hg : q.gn c = false) (hs : standsW q L c = false) (ht : twoA L (-1) (q.lt c) = ((m : Int), (m' : Int))) : settleF n lev q L c = (true, watF (unwF q c) c m m', L) := by
  unfold settleF
  have h1 : ¬ ((m : Int), (m' : Int)).1 = -1 := by show ¬ (m : Int) = -1; omega
  have h2 : ((m : Int), (m' : Int)).2 ≠ -1 := by show (m' : Int) ≠ -1; omega
  rw [if_neg (settle_no hg hs), ht, if_neg h1, if_pos h2]; simp
theorem settle_f3 (hg : q.gn c = false) (hs : standsW q L c = false) (ht : twoA L (-1) (q.lt c) = ((m : Int), -1)) (hv : valueF L (m : Int) = 0) : settleF n lev q L c = (true, leanF n (plF (unwF q c) (m / 2) L.length) c (m / 2), L ++ [⟨m, lev, c⟩]) := by
  unfold settleF
  have h1 : ¬ ((m : Int), (-1 : Int)).1 = -1 := by show ¬ (m : Int) = -1; omega
  rw [if_neg (settle_no hg hs), ht, if_neg h1, if_neg (by simp), if_pos hv]; simp
theorem settle_f4 (hg : q.gn c = false) (hs : standsW q L c = false) (ht : twoA L (-1) (q.lt c) = ((m : Int), -1)) (hv : valueF L (m : Int) ≠ 0) : settleF n lev q L c = (true, leanF n (unwF q c) c (m / 2), L) := by
  unfold settleF
  have h1 : ¬ ((m : Int), (-1 : Int)).1 = -1 := by show ¬ (m : Int) = -1; omega
  rw [if_neg (settle_no hg hs), ht, if_neg h1, if_neg (by simp), if_neg hv]; simp
end

section
variable {k : K} {kw : WK} {w w1 w2 w3 : World} {g g1 : G} {L : List E} {lev : Nat} {p : V} {X X' : Nat → Prop} {B c : Nat}

theorem unwatch_ex (j : J k kw w g L lev p) (iv : Inv kw.n g (litsF L) (fun _ => g.dn) X) (rs : Rs g L) (hc : c < g.nx) (hg : g.gn c = false) :
    Calls Tryz.prog 111 #[.pointer (some ⟨kw.OB, 0, none⟩), .pointer (some ⟨g.cb c, 0, none⟩)] w fun e w' => e = .returned (.tuple #[]) ∧ ∃ g1, Hid (Adv k kw g L lev p w (fun i => X i ∨ i = c) 0 g1 L p w') ∧ Hid (g1.a c = -1) ∧ Hid (g1.pt = unwF g.pt c) := by
  by_cases ha : g.a c = -1
  · refine (unwatch_none j.s hc hg ha).mono ?_
    rintro e w' ⟨rfl, b⟩
    exact ⟨rfl, g, hid (((Adv.start j iv rs).below b.out).weak (Nat.le_refl _) (fun i h => .inl h)), hid ha, hid (unw_none (q := g.pt) ha).symm⟩
  · obtain ⟨a, b, ea, eb, la, lb, hab⟩ := iv.watched hc hg ha
    refine (unwatch_is j.s hc hg a b ea eb la lb hab).mono ?_
    rintro e w' ⟨rfl, v1, v2, s, f⟩
    refine ⟨rfl, (((g.slot a (outF (fun i => i == c) (g.P a)) v1).slot b (outF (fun i => i == c) (g.P b)) v2).watch c (-1) (-1)), hid ⟨j.fw f s rfl rfl rfl rfl, iv.unw hc hg ea eb la lb hab v1 v2, rs.as rfl rfl rfl, ⟨rfl, rfl, rfl, rfl, rfl, rfl, rfl, rfl⟩, rfl, ⟨?_, ?_⟩, Ext.refl _ _, ?_, FT.fw f⟩, hid (up_same _ _ _), hid (unw_some (q := g.pt) ea eb).symm⟩
    · show up (up g.P a _) b _ (3 * kw.n) = _
      rw [up_ne _ _ (by omega), up_ne _ _ (by omega)]
    · show up (up g.pv a v1) b v2 (3 * kw.n) = _
      rw [up_ne _ _ (by omega), up_ne _ _ (by omega)]
    · rw [show sumL kw.n (((g.slot a (outF (fun i => i == c) (g.P a)) v1).slot b (outF (fun i => i == c) (g.P b)) v2).watch c (-1) (-1)).P = sumL kw.n g.P from (sum_other (.inl lb) _ v2).trans (sum_other (.inl la) _ v1)]
      omega

theorem adv_watch_ex {a b : Nat} (A : Adv k kw g L lev p w (fun i => X i ∨ i = c) 0 g1 L p w1) (h1 : g1.a c = -1) (hc : c < g1.nx) (hg : g1.gn c = false) (ha : (a : Int) ∈ g1.lt c) (hb : (b : Int) ∈ g1.lt c) (hab : a ≠ b) (va : 0 ≤ valueF L a) (vb : 0 ≤ valueF L b) (e : WatchEnd kw g1 c a b w1 w2) :
    ∃ g2, Adv k kw g L lev p w (fun i => X i ∧ i ≠ c) 1 g2 L p w2 ∧ g2.pt = watF g1.pt c a b := by
  obtain ⟨v1, v2, s, f⟩ := e
  have ra := A.iv.rg c hc hg _ ha
  have rb := A.iv.rg c hc hg _ hb
  refine ⟨_, ⟨A.j.fw f s rfl rfl rfl rfl, A.iv.wat A.j.t.nd hc hg h1 ha hb hab va vb v1 v2, A.rs.as rfl rfl rfl, A.sm.trans ⟨rfl, rfl, rfl, rfl, rfl, rfl, rfl, rfl⟩, A.dn, ⟨?_, ?_⟩, A.ex, ?_, A.ft.trans (FT.fw f)⟩, rfl⟩
  · rw [← A.wa.1]
    show up (up g1.P a _) b _ (3 * kw.n) = _
    rw [up_ne _ _ (by omega), up_ne _ _ (by omega)]
  · rw [← A.wa.2]
    show up (up g1.pv a v1) b v2 (3 * kw.n) = _
    rw [up_ne _ _ (by omega), up_ne _ _ (by omega)]
  · rw [show sumL kw.n (((g1.watch c a b).slot a (g1.P a ++ [c]) v1).slot b (g1.P b ++ [c]) v2).P = sumL kw.n g1.P from (sum_other (.inl (by omega)) _ v2).trans (sum_other (.inl (by omega)) _ v1)]
    have := A.su; omega

theorem adv_lean_ex {L' : List E} {p' : V} {m u : Nat} {v : Value} (A : Adv k kw g L lev p w (fun i => X i ∨ i = c) 0 g1 L' p' w1) (h1 : g1.a c = -1) (hm : (m : Int) ∈ g1.lt c) (hu : m / 2 = u) (hun : u < kw.n) (hv : valueF L' m = 1) (s : St kw w2 (g1.slot (2 * kw.n + u) (g1.P (2 * kw.n + u) ++ [c]) v)) (f : FW kw.B w1 w2) :
    ∃ g2, Adv k kw g L lev p w (fun i => X i ∧ i ≠ c) 1 g2 L' p' w2 ∧ g2.pt = leanF kw.n g1.pt c u := by
  obtain ⟨_, q, hq⟩ := val_one hv
  have hvl : vl (m : Int) = u := by unfold vl; omega
  refine ⟨_, ⟨A.j.fw f s rfl rfl rfl rfl, Inv.leant (x := (m : Int)) (A.iv.more (by omega) (fun i hi => List.mem_append.2 (.inl hi)) v) h1 hm hq ?_, A.rs.as rfl rfl rfl, A.sm.trans ⟨rfl, rfl, rfl, rfl, rfl, rfl, rfl, rfl⟩, A.dn, ⟨?_, ?_⟩, A.ex, ?_, A.ft.trans (FT.fw f)⟩, rfl⟩
  · rw [hvl]
    show c ∈ up g1.P _ _ _
    rw [up_same]; simp
  · rw [← A.wa.1]; exact up_ne _ _ (by omega)
  · rw [← A.wa.2]; exact up_ne _ _ (by omega)
  · have := sum_slot (g := g1) hun (g1.P (2 * kw.n + u) ++ [c]) v
    simp only [List.length_append, List.length_singleton] at this
    have := A.su; omega

def SetX (k : K) (kw : WK) (g : G) (L : List E) (lev : Nat) (p : V) (X : Nat → Prop) (c : Nat) (w : World) (e : Ending) (w' : World) : Prop :=
  (e = .returned (.bool true) ∧ ∃ g' L' p', Adv k kw g L lev p w (fun i => X i ∧ i ≠ c) 1 g' L' p' w' ∧ settleF kw.n lev g.pt L c = (true, g'.pt, L')) ∨
  (e = .returned (.bool false) ∧ ∃ g', Adv k kw g L lev p w (fun i => X i ∨ i = c) 0 g' L p w' ∧ settleF kw.n lev g.pt L c = (false, g'.pt, L) ∧ g.gn c = false ∧ ∀ x ∈ g.lt c, valueF L x = -1)

set_option maxHeartbeats 4000000 in
set_option maxHeartbeats 2000000 in
theorem settle_ex (j : J k kw w g L lev p) (iv : Inv kw.n g (litsF L) (fun _ => g.dn) X) (rs : Rs g L) (hd : g.dn ≤ L.length) (hc : c < g.nx) (hnx : g.nx ≤ 1000000) (hsu : sumL kw.n g.P ≤ 500000000000) :
    Calls Tryz.prog 77 #[.pointer (some ⟨kw.OB, 0, none⟩), .pointer (some ⟨k.OB, 0, none⟩), .pointer (some ⟨g.cb c, 0, none⟩)] w fun e w' => SetX k kw g L lev p X c w e w' := by
  have c5 := j.s.l.k5 hc
  have A0 := Adv.start j iv rs
  cases hg : g.gn c
  · rw [hg] at c5
    obtain ⟨m1, m2⟩ := iv.max j.s hc hg
    cases hs : standsF g L c
    · have HJ := hid j
      have HI := hid iv
      have HR := hid rs
      have HS := hid hs
      have hN := nat_none
      have hM := nat_some
      clear j iv rs hs A0
      go_enter Tryz.func77, Tryz.ntmps77
      go_wp2_with (first
        | (go_at_call 110; with_reducible (refine (stands_is HJ.out hc hg m1 m2 HS.out).mono ?_); rintro e w1 ⟨rfl, b1⟩; have J1 := hid (HJ.out.below b1.out))
        | (go_at_call 111; with_reducible (refine (unwatch_ex J1.out HI.out HR.out hc hg).mono ?_); rintro e w2 ⟨rfl, g1, A0, ha1, hu1⟩; have A1 := hid (adv_from b1.out A0.out); have hc1 := hid (show c < g1.nx by rw [A1.out.sm.nx]; exact hc); have hg1 := hid (show g1.gn c = false by rw [A1.out.sm.gn]; exact hg); have h01 := hid (fun x hx => (A1.out.iv.rg c hc1.out hg1.out x hx).1))
        | (go_at_call 112; have T := two_ex A1.out.j hc1.out hg1.out h01.out; rw [A1.out.sm.cb] at T; with_reducible (refine T.mono ?_); rintro e w3 ⟨a, b, rfl, htw, b3⟩; have A3 := hid (A1.out.below b3.out); have htx := hid htw.out.2; have htw2 := TwoR.out htw.out.1; rcases htw2 with ⟨rfl, rfl, hno⟩ | ⟨m, rfl, rfl, hm, hv | hv⟩ | ⟨m, m', rfl, rfl, hmm⟩)
        | (go_at_call 113; have r1 := A3.out.iv.rg c hc1.out hg1.out _ hmm.out.1; have r2 := A3.out.iv.rg c hc1.out hg1.out _ hmm.out.2.1; have l1 : m < 2 * kw.n := (by omega); have l2 : m' < 2 * kw.n := (by omega); have T := watch_is A3.out.j.s hc1.out hg1.out m m' l1 l2 hmm.out.2.2.1 (A3.out.small hnx l1) (A3.out.small hnx l2); rw [A3.out.sm.cb] at T; with_reducible (refine T.mono ?_); rintro e w4 ⟨rfl, hw4⟩)
        | (go_at_call 114; have r1 := A3.out.iv.rg c hc1.out hg1.out _ hm.out.1; have hn9 := A3.out.j.s.l.hn; have T := follow_held A3.out.j hc1.out (m : Int) (by omega) hv.out; rw [A3.out.sm.cb] at T; with_reducible (refine T.mono ?_); rintro e w4 ⟨rfl, b4⟩; have A5 := hid (A3.out.below b4.out); have hv5 := hv)
        | (go_at_call 114; have r1 := A3.out.iv.rg c hc1.out hg1.out _ hm.out.1; have T := follow_new A3.out.j hc1.out hg1.out m (m / 2) rfl (by omega) hv.out; rw [A3.out.sm.cb] at T; with_reducible (refine T.mono ?_); rintro e w4 ⟨rfl, p5, j5, f5⟩; have A5 := hid (adv_new A3.out hd hc1.out hg1.out hm.out.1 rfl hv.out hm.out.2 j5.out f5.out); have hv5 := hid (val_last A5.out.j.t.nd))
        | (go_at_call 115; have hc5 := hid hc1.out; have T := lean_is A5.out.j.s hc5.out m (m / 2) rfl (by omega) (A5.out.leans (by omega) (by omega)); rw [A5.out.sm.cb] at T; with_reducible (refine T.mono ?_); rintro e w6 ⟨rfl, v6, s6, f6⟩))
      all_goals go_ret
      · exact .inr ⟨rfl, g1, A3.out, by rw [hu1.out]; exact settle_f1 hg HS.out (by rw [← htx.out, A3.out.sm.lt]; rfl), hg, fun x hx => (val_neg (hno.out x (by rw [A3.out.sm.lt]; exact hx))).1⟩
      · obtain ⟨g9, A9, e9⟩ := adv_lean_ex A5.out ha1.out hm.out.1 rfl (by omega) hv5.out s6.out f6.out
        exact .inl ⟨rfl, g9, _, _, A9, by rw [e9]; exact (settle_f3 (q := g.pt) hg HS.out (by rw [← htx.out, A3.out.sm.lt]; rfl) hv.out).trans (by rw [← hu1.out]; rfl)⟩
      · obtain ⟨g9, A9, e9⟩ := adv_lean_ex A5.out ha1.out hm.out.1 rfl (by omega) hv5.out s6.out f6.out
        exact .inl ⟨rfl, g9, _, _, A9, by rw [e9]; exact (settle_f4 (q := g.pt) hg HS.out (by rw [← htx.out, A3.out.sm.lt]; rfl) (by rw [hv.out]; decide)).trans (by rw [← hu1.out])⟩
      · obtain ⟨g9, A9, e9⟩ := adv_watch_ex A3.out ha1.out hc1.out hg1.out hmm.out.1 hmm.out.2.1 hmm.out.2.2.1 hmm.out.2.2.2.1 hmm.out.2.2.2.2 hw4
        exact .inl ⟨rfl, g9, _, _, A9, by rw [e9]; exact (settle_f2 (q := g.pt) hg HS.out (by rw [← htx.out, A3.out.sm.lt]; rfl)).trans (by rw [← hu1.out])⟩
    · have HJ := hid j
      have HS := hid hs
      have HA : Hid (Adv k kw g L lev p w (fun i => X i ∧ i ≠ c) 0 g L p w) := hid (A0.off fun i hi hgi hX => by
        by_cases e : i = c
        · subst e
          simp only [standsF, decide_eq_true_eq] at hs
          obtain ⟨h1, h2, h3⟩ := hs
          obtain ⟨a, b, ea, eb, _⟩ := iv.watched hi hgi h1
          refine .inr (.inr ⟨h1, fun q _ hq => absurd hq (val_may j.t.nd (by omega) h2 q), fun q _ hq => absurd hq (val_may j.t.nd (by omega) h3 q)⟩)
        · exact .inl ⟨hX, e⟩)
      clear j iv rs hs A0
      go_enter Tryz.func77, Tryz.ntmps77
      go_wp2_with (go_at_call 110; with_reducible (refine (stands_is HJ.out hc hg m1 m2 HS.out).mono ?_); rintro e w1 ⟨rfl, b1⟩)
      go_ret
      exact .inl ⟨rfl, _, _, _, (HA.out.below b1.out).weak (by omega) (fun _ h => h), settle_f0 (.inr HS.out)⟩
  · rw [hg] at c5
    have HA : Hid (Adv k kw g L lev p w (fun i => X i ∧ i ≠ c) 0 g L p w) := hid (A0.off fun i hi hgi hX => .inl ⟨hX, fun e => by rw [e, hg] at hgi; cases hgi⟩)
    clear j iv rs A0
    go_enter Tryz.func77, Tryz.ntmps77
    go_wp2
    go_ret
    exact .inl ⟨rfl, _, _, _, HA.out.weak (by omega) (fun _ h => h), settle_f0 (.inl hg)⟩
end
end Go.Proofs.YtimfjoinjfecjaaGreat

namespace Go.Proofs.YtimfjoinjfecjaaGreat
open Go.RowKit
set_option linter.unusedVariables false

/-- What stands behind the way: a trail, clauses, all older than it. -/
structure Cm (k : SK) (w0 : World) (kt : K) (L : List E) (lev : Nat) (p : V) (cls : List (List Int)) : Prop where
  hB : k.B = w0.heap.size
  t : Trl kt w0 L lev p
  tv : k.tv = .pointer (some ⟨kt.OB, 0, none⟩)
  lv : k.lv = lev
  gr : ∃ la n cap, k.cv = .slice la n cap ∧ U.Grid w0 la n cap cls
  hn : kt.n ≤ 4096

structure Rn (k : SK) (w0 : World) (n : Nat) (w : World) (s : PS) (v : SV) : Prop where
  r : Sr k w s v
  b : Below w0.heap.size w0 w
  wf : Wf n s
  m2 : Mk2 s

section
variable {k : SK} {w0 w w1 w' : World} {kt : K} {L : List E} {lev : Nat} {p : V} {cls : List (List Int)} {s s' : PS} {v v' : SV} {n : Nat}

theorem Rn.below (h : Rn k w0 n w s v) (b : Below w.heap.size w w') : Rn k w0 n w' s v := ⟨h.r.below b, Below.next h.b b, h.wf, h.m2⟩

theorem Cm.trl (c : Cm k w0 kt L lev p cls) (h : Rn k w0 n w s v) : Trl kt w L lev p := c.t.below h.b

theorem Cm.cell (c : Cm k w0 kt L lev p cls) (h : Rn k w0 n w s v) : w.cell? ⟨k.SB, 0, none⟩ = some (.pointer (some ⟨kt.OB, 0, none⟩)) ∧ w.cell? ⟨k.SB, 2, none⟩ = some (.int .i64 lev) := by
  have := h.r.c
  rw [← c.tv, ← c.lv]; exact ⟨this.1, this.2.2.1⟩

theorem Rn.next (c : Cm k w0 kt L lev p cls) (h : Rn k w0 n w s v) (r : Sr k w' s' v') (f : SF k v v' w w') (wf : Wf n s') (m2 : Mk2 s') : Rn k w0 n w' s' v' := ⟨r, by
  have := h.r.be f
  rw [c.hB] at this
  exact h.b.trans this, wf, m2⟩

theorem Sr.as (h : Sr k w s v) (e : s = s') : Sr k w s' v := e ▸ h

/-- Behind the mark: a variable more. -/
theorem Sr.app1 (h : Sr k w s v) {x : Value} {u : Nat} (own : OwnL w1 (k.SB + 1) x (natI s.met ++ [(u : Int)])) (g : w.grownBy w1 v.mv.ownBlock) (nw : Nw w v.mv x) :
    ∃ g8 c8, x = .slice (some ⟨g8, 0, none⟩) (s.met.length + 1) c8 ∧ w1.cell? ⟨k.SB, 259, none⟩ = some v.mv ∧ w1.frozen? ⟨k.SB, 259, none⟩ = false ∧ Hid (Sr k (w1.setCell ⟨k.SB, 259, none⟩ x) { s with met := s.met ++ [u] } { v with mv := x }) ∧ Hid (SF k v { v with mv := x } w (w1.setCell ⟨k.SB, 259, none⟩ x)) := by
  have e : natI s.met ++ [(u : Int)] = natI (s.met ++ [u]) := by simp [natI]
  rw [e] at own
  obtain ⟨a, b, c, d⟩ := h.putme own g nw
  have hl : (natI (s.met ++ [u])).length = s.met.length + 1 := by simp [natI]
  obtain ⟨g8, c8, e8, _⟩ := (LRow.of_own own).filled (by omega)
  rw [hl] at e8
  exact ⟨g8, c8, e8, a, b, c, d⟩

theorem Sr.app2 (h : Sr k w s v) {x : Value} {y : Int} (own : OwnL w1 (k.SB + 1) x (s.oth ++ [y])) (g : w.grownBy w1 v.ov.ownBlock) (nw : Nw w v.ov x) :
    ∃ g8 c8, x = .slice (some ⟨g8, 0, none⟩) (s.oth.length + 1) c8 ∧ w1.cell? ⟨k.SB, 261, none⟩ = some v.ov ∧ w1.frozen? ⟨k.SB, 261, none⟩ = false ∧ Hid (Sr k (w1.setCell ⟨k.SB, 261, none⟩ x) { s with oth := s.oth ++ [y] } { v with ov := x }) ∧ Hid (SF k v { v with ov := x } w (w1.setCell ⟨k.SB, 261, none⟩ x)) := by
  obtain ⟨a, b, c, d⟩ := h.putot own g nw
  have hl : (s.oth ++ [y]).length = s.oth.length + 1 := by simp
  obtain ⟨g8, c8, e8, _⟩ := (LRow.of_own own).filled (by omega)
  rw [hl] at e8
  exact ⟨g8, c8, e8, a, b, c, d⟩

theorem Sr.shapes (h : Sr k w s v) : (∃ a c, v.mv = .slice a s.met.length c) ∧ (∃ a c, v.ov = .slice a s.oth.length c) ∧ LRow w (k.SB + 1) v.mv (natI s.met) ∧ LRow w (k.SB + 1) v.ov s.oth ∧ k.SB + 1 ≤ w.heap.size := by
  obtain ⟨a, c, e, _⟩ := (LRow.of_own h.me).shape
  obtain ⟨a', c', e', _⟩ := (LRow.of_own h.ot).shape
  have hl : (natI s.met).length = s.met.length := by simp [natI]
  rw [hl] at e
  exact ⟨⟨a, c, e⟩, ⟨a', c', e'⟩, LRow.of_own h.me, LRow.of_own h.ot, h.lt⟩

def AddEnd (k : SK) (w0 : World) (n : Nat) (w : World) (s' : PS) (v : SV) (w' : World) : Prop := ∃ v', Rn k w0 n w' s' v' ∧ SF k v v' w w'

set_option maxHeartbeats 2000000 in
theorem add_zero (c : Cm k w0 kt L lev p cls) (h : Rn k w0 kt.n w s v) (x : Int) (u : Nat) (hl : levelF L u = 0) :
    Calls Tryz.prog 142 #[.pointer (some ⟨k.SB, 0, none⟩), .int .i64 x, .int .i64 u] w fun e w' => e = .returned (.tuple #[]) ∧ w' = w := by
  have HT := hid (c.trl h)
  obtain ⟨c0, c2⟩ := c.cell h
  have HL := hid hl
  clear hl h c
  go_enter Tryz.func142, Tryz.ntmps142
  go_wp2_with (go_at_call 88; with_reducible (refine (level_is HT.out _ HL.out).mono ?_); rintro e w ⟨rfl, rfl⟩)
  refine bodyPost_ret (results_none rfl _ _ _) rfl ?_
  exact ⟨rfl, rfl⟩

theorem add_wf (h : Rn k w0 n w s v) {x : Int} {u : Nat} (hu : u < n) (h0 : s.mrk u = 0) (hx : 0 ≤ x ∧ x < 2 * (n : Int)) : Wf n (addP L lev s x u) ∧ Mk2 (addP L lev s x u) := by
  refine ⟨(h.wf.add L lev x hu h0 hx).1, ?_⟩
  unfold addP
  split
  · exact h.m2
  · intro i
    simp only [upN]
    split
    · omega
    · exact h.m2 i

set_option maxHeartbeats 4000000 in
theorem add_lev (c : Cm k w0 kt L lev p cls) (h : Rn k w0 kt.n w s v) (x : Int) (u : Nat) (hu : u < kt.n) (hx : 0 ≤ x ∧ x < 2 * (kt.n : Int)) (h0 : s.mrk u = 0) (hl : levelF L u = lev) (hl0 : lev ≠ 0) (hop : -1000000 ≤ s.op) :
    Calls Tryz.prog 142 #[.pointer (some ⟨k.SB, 0, none⟩), .int .i64 x, .int .i64 u] w fun e w' => e = .returned (.tuple #[]) ∧ AddEnd k w0 kt.n w (addP L lev s x u) v w' := by
  have HT := hid (c.trl h)
  obtain ⟨c0, c2⟩ := c.cell h
  have HL := hid hl
  have hln : (lev : Int) ≠ 0 := by omega
  have hlb : ((lev : Int) == 0) = false := by simpa using hln
  have hu4 : u < 4096 := by have := c.hn; omega
  have hml := h.wf.len
  have hn := c.hn
  have hou := h.wf.ou
  have HP : Hid (addP L lev s x u = { mrk := upN s.mrk u 1, met := s.met ++ [u], op := s.op + 1, oth := s.oth }) := hid (by unfold addP; rw [hl, if_neg hln, if_pos rfl, if_pos rfl])
  have HW := hid (add_wf (L := L) (lev := lev) (x := x) h hu h0 hx)
  obtain ⟨cs, hcs, hcs3⟩ : ∃ cs, w.heap[k.SB]? = some (.cells cs 124 (0, 0)) ∧ cs[3]? = some (ptrO v.pb) := by obtain ⟨cs, a, _, _, _, b, _⟩ := h.r.blk; exact ⟨cs, a, b⟩
  have HC := hid hcs
  have HC3 := hid hcs3
  have HR := hid h
  have HM := hid c
  have HPL : Hid (∀ b, v.pb = some b → b ≠ k.SB) := hid (fun b e => by have := h.r.pl b e; omega)
  have H1 : Hid (((1 : Nat) : Int) = 1) := hid rfl
  clear hl h c hcs hcs3 h0 hx
  go_enter Tryz.func142, Tryz.ntmps142
  go_wp2_with (first
    | (go_at_call 88; with_reducible (refine (level_is HT.out _ HL.out).mono ?_); rintro e w ⟨rfl, rfl⟩)
    | (go_at_call 91; with_reducible (refine (set_is HC.out HC3.out HR.out.r.pg HPL.out u hu4 1 H1.out).mono ?_); rintro e w1 ⟨rfl, pb1, cs1, he1⟩; have q1 := hid (HR.out.r.putmk he1.out HC.out); have sh1 := q1.out.1.shapes; obtain ⟨⟨am, cm, em⟩, _, lm, _, hsz⟩ := sh1; have c259 := q1.out.1.c.2.2.2.2.1; have HLm := hid lm; simp only at em c259; rw [em] at c259; clear lm)
    | (at_builtin; refine append_new (w1 := w1) rfl _ _ rfl u rfl (k.SB + 1) v.mv (natI s.met) em.symm HLm.out _ rfl (by simp) (by simp [natI]; omega) hsz ?_; intro v7 w7 own7 g7 new7; have m7 := q1.out.1.app1 own7.out g7.out new7.out.1; obtain ⟨g8, c8, rfl, d1, d2, r8, f8⟩ := m7; simp only at d1; rw [em] at d1; have d3 := r8.out.c.2.2.1; have d4 := r8.out.c.2.2.2.2.2.1; have d5 := r8.out.f 260; rw [HM.out.lv] at d3))
  go_end0
  obtain ⟨r9, f9⟩ := r8.out.putop (s.op + 1)
  have F := (q1.out.2.trans f8.out).trans f9
  refine ⟨rfl, _, Rn.next HM.out HR.out (r9.as HP.out.symm) F HW.out.1 HW.out.2, F⟩

set_option maxHeartbeats 4000000 in
theorem add_oth (c : Cm k w0 kt L lev p cls) (h : Rn k w0 kt.n w s v) (x : Int) (u : Nat) (hu : u < kt.n) (hx : 0 ≤ x ∧ x < 2 * (kt.n : Int)) (h0 : s.mrk u = 0) (ll : Nat) (hl : levelF L u = ll) (hl0 : ll ≠ 0) (hl1 : ll ≠ lev) :
    Calls Tryz.prog 142 #[.pointer (some ⟨k.SB, 0, none⟩), .int .i64 x, .int .i64 u] w fun e w' => e = .returned (.tuple #[]) ∧ AddEnd k w0 kt.n w (addP L lev s x u) v w' := by
  have HT := hid (c.trl h)
  obtain ⟨c0, c2⟩ := c.cell h
  have HL := hid hl
  have hln : (ll : Int) ≠ 0 := by omega
  have hlv : ¬ (ll : Int) = (lev : Int) := by omega
  have hlvb : ((ll : Int) == (lev : Int)) = false := by simpa using hlv
  have hlb : ((ll : Int) == 0) = false := by simpa using hln
  have hu4 : u < 4096 := by have := c.hn; omega
  have hml := h.wf.len
  have hn := c.hn
  have hol := h.wf.ol
  have HP : Hid (addP L lev s x u = { mrk := upN s.mrk u 1, met := s.met ++ [u], op := s.op, oth := s.oth ++ [x] }) := hid (by unfold addP; rw [hl, if_neg hln, if_neg hlv, if_neg hlv])
  have HW := hid (add_wf (L := L) (lev := lev) (x := x) h hu h0 hx)
  obtain ⟨cs, hcs, hcs3⟩ : ∃ cs, w.heap[k.SB]? = some (.cells cs 124 (0, 0)) ∧ cs[3]? = some (ptrO v.pb) := by obtain ⟨cs, a, _, _, _, b, _⟩ := h.r.blk; exact ⟨cs, a, b⟩
  have HC := hid hcs
  have HC3 := hid hcs3
  have HR := hid h
  have HM := hid c
  have HPL : Hid (∀ b, v.pb = some b → b ≠ k.SB) := hid (fun b e => by have := h.r.pl b e; omega)
  have H1 : Hid (((1 : Nat) : Int) = 1) := hid rfl
  clear hl h c hcs hcs3 h0 hx
  go_enter Tryz.func142, Tryz.ntmps142
  go_wp2_with (first
    | (go_at_call 88; with_reducible (refine (level_is HT.out _ HL.out).mono ?_); rintro e w ⟨rfl, rfl⟩)
    | (go_at_call 91; with_reducible (refine (set_is HC.out HC3.out HR.out.r.pg HPL.out u hu4 1 H1.out).mono ?_); rintro e w1 ⟨rfl, pb1, cs1, he1⟩; have q1 := hid (HR.out.r.putmk he1.out HC.out); have sh1 := q1.out.1.shapes; obtain ⟨⟨am, cm, em⟩, _, lm, _, hsz⟩ := sh1; have c259 := q1.out.1.c.2.2.2.2.1; have HLm := hid lm; simp only at em c259; rw [em] at c259; clear lm)
    | (at_builtin; refine append_new (w1 := w1) rfl _ _ rfl u rfl (k.SB + 1) v.mv (natI s.met) em.symm HLm.out _ rfl (by simp) (by simp [natI]; omega) hsz ?_; intro v7 w7 own7 g7 new7; have m7 := q1.out.1.app1 own7.out g7.out new7.out.1; obtain ⟨g8, c8, rfl, d1, d2, r8, f8⟩ := m7; simp only at d1; rw [em] at d1; have d3 := r8.out.c.2.2.1; have d4 := r8.out.c.2.2.2.2.2.2; rw [HM.out.lv] at d3; have sh8 := r8.out.shapes; obtain ⟨_, ⟨ao, co, eo⟩, _, lo, hsz8⟩ := sh8; simp only at eo d4; rw [eo] at d4; have HLo := hid lo; clear lo)
    | (at_builtin; refine append_new (w1 := w7.setCell ⟨k.SB, 259, none⟩ (.slice (some ⟨g8, 0, none⟩) (s.met.length + 1) c8)) rfl _ _ rfl x rfl (k.SB + 1) v.ov s.oth eo.symm HLo.out _ rfl (by simp) (by omega) hsz8 ?_; intro v9 w9 own9 g9 new9; have m9 := r8.out.app2 own9.out g9.out new9.out.1; obtain ⟨g10, c10, rfl, x1, x2, r10, f10⟩ := m9; simp only at x1; rw [eo] at x1))
  go_end0
  have F := (q1.out.2.trans f8.out).trans f10.out
  refine ⟨rfl, _, Rn.next HM.out HR.out (r10.out.as HP.out.symm) F HW.out.1 HW.out.2, F⟩
end

end Go.Proofs.YtimfjoinjfecjaaGreat
