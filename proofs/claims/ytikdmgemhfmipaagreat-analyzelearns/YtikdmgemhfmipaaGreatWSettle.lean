/-
  settle: a clause that waits is looked at.
-/
import Derived.Test.YtikdmgemhfmipaaGreatWInv
import Derived.Test.YtikdmgemhfmipaaGreatWFollow
import Derived.Test.YtikdmgemhfmipaaGreatWSeek
namespace Go.Proofs.YtikdmgemhfmipaaGreat
open Go.RowKit Go.Maps
set_option linter.unusedVariables false

/-- What holds behind a step of Run, against what did ahead of it. -/
structure Adv (k : K) (kw : WK) (g : G) (L : List E) (lev : Nat) (p : V) (w : World) (X : Nat → Prop) (B : Nat) (g' : G) (L' : List E) (p' : V) (w' : World) : Prop where
  j : J k kw w' g' L' lev p'
  iv : Inv kw.n g' (litsF L') (fun _ => g'.dn) X
  rs : Rs g' L'
  sm : Same g g'
  dn : g'.dn = g.dn
  wa : g'.P (3 * kw.n) = g.P (3 * kw.n) ∧ g'.pv (3 * kw.n) = g.pv (3 * kw.n)
  ex : Ext L L' lev
  su : sumL kw.n g'.P ≤ sumL kw.n g.P + B
  ft : FT k kw.B p p' w w'

section
variable {k : K} {kw : WK} {w w1 w2 w3 : World} {g g1 : G} {L : List E} {lev : Nat} {p : V} {X X' : Nat → Prop} {B c : Nat}

theorem Adv.start (j : J k kw w g L lev p) (iv : Inv kw.n g (litsF L) (fun _ => g.dn) X) (rs : Rs g L) : Adv k kw g L lev p w X 0 g L p w :=
  ⟨j, iv, rs, Same.refl g, rfl, ⟨rfl, rfl⟩, Ext.refl _ _, by omega, FT.refl _ _ _ _⟩

theorem Adv.below {g' : G} {L' : List E} {p' : V} (a : Adv k kw g L lev p w X B g' L' p' w1) (b : Below w1.heap.size w1 w2) : Adv k kw g L lev p w X B g' L' p' w2 :=
  ⟨a.j.below b, a.iv, a.rs, a.sm, a.dn, a.wa, a.ex, a.su, a.ft.trans (FT.below b)⟩

theorem Adv.weak {g' : G} {L' : List E} {p' : V} {B' : Nat} (a : Adv k kw g L lev p w X B g' L' p' w1) (hB : B ≤ B') (hX : ∀ i, X i → X' i) : Adv k kw g L lev p w X' B' g' L' p' w1 :=
  ⟨a.j, a.iv.mono (fun _ => Nat.le_refl _) hX, a.rs, a.sm, a.dn, a.wa, a.ex, by have := a.su; omega, a.ft⟩

theorem Adv.off {g' : G} {L' : List E} {p' : V} (a : Adv k kw g L lev p w X B g' L' p' w1) (hX : ∀ i, i < g'.nx → g'.gn i = false → X i → X' i ∨ OkAt kw.n g' (litsF L') g'.dn i) : Adv k kw g L lev p w X' B g' L' p' w1 :=
  ⟨a.j, a.iv.off hX, a.rs, a.sm, a.dn, a.wa, a.ex, a.su, a.ft⟩

theorem Adv.trans {g1 g2 : G} {L1 L2 : List E} {p1 p2 : V} {B' : Nat} (a : Adv k kw g L lev p w X B g1 L1 p1 w1) (b : Adv k kw g1 L1 lev p1 w1 X' B' g2 L2 p2 w2) : Adv k kw g L lev p w X' (B + B') g2 L2 p2 w2 :=
  ⟨b.j, b.iv, b.rs, a.sm.trans b.sm, b.dn.trans a.dn, ⟨b.wa.1.trans a.wa.1, b.wa.2.trans a.wa.2⟩, a.ex.trans b.ex, by have := a.su; have := b.su; omega, a.ft.trans b.ft⟩

theorem Inv.max (iv : Inv kw.n g (litsF L) (fun _ => g.dn) X) (s : St kw w g) {i : Nat} (hi : i < g.nx) (hg : g.gn i = false) : g.a i ≤ 9223372036854775807 ∧ g.b i ≤ 9223372036854775807 := by
  have hn := s.l.hn
  rcases iv.wt i hi hg with ⟨h1, h2⟩ | ⟨h1, h2, h3, h4, h5, _⟩
  · omega
  · have := iv.rg i hi hg _ h4; have := iv.rg i hi hg _ h5; omega

theorem Inv.watched (iv : Inv kw.n g (litsF L) (fun _ => g.dn) X) {i : Nat} (hi : i < g.nx) (hg : g.gn i = false) (ha : g.a i ≠ -1) : ∃ a b : Nat, g.a i = a ∧ g.b i = b ∧ a < 2 * kw.n ∧ b < 2 * kw.n ∧ a ≠ b := by
  rcases iv.wt i hi hg with ⟨h1, h2⟩ | ⟨h1, h2, h3, h4, h5, _⟩
  · exact absurd h1 ha
  · have := iv.rg i hi hg _ h4; have := iv.rg i hi hg _ h5
    exact ⟨(g.a i).toNat, (g.b i).toNat, by omega, by omega, by omega, by omega, by omega⟩

theorem unwatch_adv (j : J k kw w g L lev p) (iv : Inv kw.n g (litsF L) (fun _ => g.dn) X) (rs : Rs g L) (hc : c < g.nx) (hg : g.gn c = false) :
    Calls Tryz.prog 64 #[.pointer (some ⟨kw.OB, 0, none⟩), .pointer (some ⟨g.cb c, 0, none⟩)] w fun e w' => e = .returned (.tuple #[]) ∧ ∃ g1, Hid (Adv k kw g L lev p w (fun i => X i ∨ i = c) 0 g1 L p w') ∧ Hid (g1.a c = -1) := by
  by_cases ha : g.a c = -1
  · refine (unwatch_none j.s hc hg ha).mono ?_
    rintro e w' ⟨rfl, b⟩
    exact ⟨rfl, g, hid (((Adv.start j iv rs).below b.out).weak (Nat.le_refl _) (fun i h => .inl h)), hid ha⟩
  · obtain ⟨a, b, ea, eb, la, lb, hab⟩ := iv.watched hc hg ha
    refine (unwatch_is j.s hc hg a b ea eb la lb hab).mono ?_
    rintro e w' ⟨rfl, v1, v2, s, f⟩
    refine ⟨rfl, (((g.slot a (outF (fun i => i == c) (g.P a)) v1).slot b (outF (fun i => i == c) (g.P b)) v2).watch c (-1) (-1)), hid ⟨j.fw f s rfl rfl rfl rfl, iv.unw hc hg ea eb la lb hab v1 v2, rs.as rfl rfl rfl, ⟨rfl, rfl, rfl, rfl, rfl, rfl, rfl, rfl⟩, rfl, ⟨?_, ?_⟩, Ext.refl _ _, ?_, FT.fw f⟩, hid (up_same _ _ _)⟩
    · show up (up g.P a _) b _ (3 * kw.n) = _
      rw [up_ne _ _ (by omega), up_ne _ _ (by omega)]
    · show up (up g.pv a v1) b v2 (3 * kw.n) = _
      rw [up_ne _ _ (by omega), up_ne _ _ (by omega)]
    · rw [show sumL kw.n (((g.slot a (outF (fun i => i == c) (g.P a)) v1).slot b (outF (fun i => i == c) (g.P b)) v2).watch c (-1) (-1)).P = sumL kw.n g.P from (sum_other (.inl lb) _ v2).trans (sum_other (.inl la) _ v1)]
      omega

theorem adv_from {g' : G} {L' : List E} {p' : V} (b : Below w.heap.size w w1) (a : Adv k kw g L lev p w1 X B g' L' p' w2) : Adv k kw g L lev p w X B g' L' p' w2 :=
  ⟨a.j, a.iv, a.rs, a.sm, a.dn, a.wa, a.ex, a.su, (FT.below b).trans a.ft⟩

theorem adv_watch {a b : Nat} (A : Adv k kw g L lev p w (fun i => X i ∨ i = c) 0 g1 L p w1) (h1 : g1.a c = -1) (hc : c < g1.nx) (hg : g1.gn c = false) (ha : (a : Int) ∈ g1.lt c) (hb : (b : Int) ∈ g1.lt c) (hab : a ≠ b) (va : 0 ≤ valueF L a) (vb : 0 ≤ valueF L b) (e : WatchEnd kw g1 c a b w1 w2) :
    ∃ g2, Adv k kw g L lev p w (fun i => X i ∧ i ≠ c) 1 g2 L p w2 := by
  obtain ⟨v1, v2, s, f⟩ := e
  have ra := A.iv.rg c hc hg _ ha
  have rb := A.iv.rg c hc hg _ hb
  refine ⟨_, A.j.fw f s rfl rfl rfl rfl, A.iv.wat A.j.t.nd hc hg h1 ha hb hab va vb v1 v2, A.rs.as rfl rfl rfl, A.sm.trans ⟨rfl, rfl, rfl, rfl, rfl, rfl, rfl, rfl⟩, A.dn, ⟨?_, ?_⟩, A.ex, ?_, A.ft.trans (FT.fw f)⟩
  · rw [← A.wa.1]
    show up (up g1.P a _) b _ (3 * kw.n) = _
    rw [up_ne _ _ (by omega), up_ne _ _ (by omega)]
  · rw [← A.wa.2]
    show up (up g1.pv a v1) b v2 (3 * kw.n) = _
    rw [up_ne _ _ (by omega), up_ne _ _ (by omega)]
  · rw [show sumL kw.n (((g1.watch c a b).slot a (g1.P a ++ [c]) v1).slot b (g1.P b ++ [c]) v2).P = sumL kw.n g1.P from (sum_other (.inl (by omega)) _ v2).trans (sum_other (.inl (by omega)) _ v1)]
    have := A.su; omega

/-- It holds by one literal, and leans on that. -/
theorem adv_lean {L' : List E} {p' : V} {m u : Nat} {v : Value} (A : Adv k kw g L lev p w (fun i => X i ∨ i = c) 0 g1 L' p' w1) (h1 : g1.a c = -1) (hm : (m : Int) ∈ g1.lt c) (hu : m / 2 = u) (hun : u < kw.n) (hv : valueF L' m = 1) (s : St kw w2 (g1.slot (2 * kw.n + u) (g1.P (2 * kw.n + u) ++ [c]) v)) (f : FW kw.B w1 w2) :
    ∃ g2, Adv k kw g L lev p w (fun i => X i ∧ i ≠ c) 1 g2 L' p' w2 := by
  obtain ⟨_, q, hq⟩ := val_one hv
  have hvl : vl (m : Int) = u := by unfold vl; omega
  refine ⟨_, A.j.fw f s rfl rfl rfl rfl, Inv.leant (x := (m : Int)) (A.iv.more (by omega) (fun i hi => List.mem_append.2 (.inl hi)) v) h1 hm hq ?_, A.rs.as rfl rfl rfl, A.sm.trans ⟨rfl, rfl, rfl, rfl, rfl, rfl, rfl, rfl⟩, A.dn, ⟨?_, ?_⟩, A.ex, ?_, A.ft.trans (FT.fw f)⟩
  · rw [hvl]
    show c ∈ up g1.P _ _ _
    rw [up_same]; simp
  · rw [← A.wa.1]; exact up_ne _ _ (by omega)
  · rw [← A.wa.2]; exact up_ne _ _ (by omega)
  · have := sum_slot (g := g1) hun (g1.P (2 * kw.n + u) ++ [c]) v
    simp only [List.length_append, List.length_singleton] at this
    have := A.su; omega

/-- One more holds, for a clause all others of which do not. -/
theorem adv_new {p' : V} {m u : Nat} {X : Nat → Prop} {B : Nat} (A : Adv k kw g L lev p w X B g1 L p w1) (hd : g.dn ≤ L.length) (hc : c < g1.nx) (hg : g1.gn c = false) (hm : (m : Int) ∈ g1.lt c) (hu : m / 2 = u) (hv : valueF L m = 0) (ho : ∀ x ∈ g1.lt c, x ≠ (m : Int) → valueF L x < 0)
    (j : J k kw w2 (g1.place u L.length) (L ++ [⟨m, lev, c⟩]) lev p') (f : FT k kw.B p p' w1 w2) : Adv k kw g L lev p w X B (g1.place u L.length) (L ++ [⟨m, lev, c⟩]) p' w2 := by
  have hvl : vl (m : Int) = u := by unfold vl; omega
  have e1 : litsF (L ++ [⟨m, lev, c⟩]) = litsF L ++ [(m : Int)] := by rw [litsF_app]; rfl
  have e2 : ((litsF L).length) = L.length := litsF_len L
  refine ⟨j, ?_, A.rs.snoc (g := g1) (e := ⟨m, lev, c⟩) (fun _ => ⟨c, rfl, hc, hg, hm, fun y hy hne => (val_neg (ho y hy hne)).2.2⟩) |>.as rfl rfl rfl, A.sm.trans ⟨rfl, rfl, rfl, rfl, rfl, rfl, rfl, rfl⟩, A.dn, A.wa, A.ex.trans (Ext.one _ _ _ _), A.su, A.ft.trans f⟩
  have key := A.iv.grow (x := (m : Int)) (fun y hy c2 => ?_) (fun _ => by rw [e2, A.dn]; exact hd)
  · rw [hvl, e2] at key
    rw [e1]; exact key
  · obtain ⟨r, hr⟩ := List.mem_iff_getElem?.1 hy
    obtain ⟨e, he, rfl⟩ := lits_at.1 hr
    have := at_of A.j.t.nd he
    have hvr : ((vr e : Nat) : Int) = (m : Int) / 2 := by unfold vl at c2; unfold vr; omega
    rw [hvr] at this
    unfold valueF at hv
    rw [if_neg (by omega), this] at hv
    simp only at hv
    split at hv <;> omega

def SetEnd (k : K) (kw : WK) (g : G) (L : List E) (lev : Nat) (p : V) (X : Nat → Prop) (c : Nat) (w : World) (e : Ending) (w' : World) : Prop :=
  (e = .returned (.bool true) ∧ ∃ g' L' p', Adv k kw g L lev p w (fun i => X i ∧ i ≠ c) 1 g' L' p' w') ∨
  (e = .returned (.bool false) ∧ ∃ g', Adv k kw g L lev p w (fun i => X i ∨ i = c) 0 g' L p w' ∧ g.gn c = false ∧ ∀ x ∈ g.lt c, valueF L x = -1)

theorem TwoR.out {xs : List Int} {a b : Int} (h : TwoR L xs a b) : (a = -1 ∧ b = -1 ∧ Hid (∀ x ∈ xs, valueF L x < 0)) ∨
    (∃ m : Nat, a = m ∧ b = -1 ∧ Hid ((m : Int) ∈ xs ∧ (∀ x ∈ xs, x ≠ (m : Int) → valueF L x < 0)) ∧ (Hid (valueF L m = 0) ∨ Hid (valueF L m = 1))) ∨
    (∃ m m' : Nat, a = m ∧ b = m' ∧ Hid ((m : Int) ∈ xs ∧ (m' : Int) ∈ xs ∧ m ≠ m' ∧ 0 ≤ valueF L m ∧ 0 ≤ valueF L m')) := by
  rcases h with ⟨h1, h2, h3⟩ | ⟨h1, h2, h3, h4, h5⟩ | ⟨h1, h2, h3, h4, h5, h6, h7⟩
  · exact .inl ⟨h1, h2, h3⟩
  · obtain ⟨m, rfl⟩ := Int.eq_ofNat_of_zero_le h2
    refine .inr (.inl ⟨m, rfl, h4, ⟨h1, h5⟩, ?_⟩)
    rcases val_cases (L := L) (m : Int) with q | ⟨q, _⟩ | ⟨q, _⟩
    · exact .inl q
    · exact .inr q
    · omega
  · obtain ⟨m, rfl⟩ := Int.eq_ofNat_of_zero_le h3
    obtain ⟨m', rfl⟩ := Int.eq_ofNat_of_zero_le h4
    exact .inr (.inr ⟨m, m', rfl, rfl, h1, h2, fun e => h5 (by rw [e]), h6, h7⟩)

theorem val_last {m c : Nat} {L : List E} {lev : Nat} (h : ND (L ++ [⟨m, lev, c⟩])) : valueF (L ++ [⟨m, lev, c⟩]) (m : Int) = 1 := by
  refine val_pos h (q := L.length) ?_
  rw [litsF_app, List.getElem?_append_right (by rw [litsF_len]; exact Nat.le_refl _), litsF_len]
  simp [litsF]

theorem Adv.small {X : Nat → Prop} {B : Nat} {g1 : G} {L1 : List E} {p1 : V} (A : Adv k kw g L lev p w X B g1 L1 p1 w1) (hnx : g.nx ≤ 1000000) {l : Nat} (hl : l < 2 * kw.n) : (g1.P l).length ≤ 10000000 := by
  have := nodup_len (A.iv.nd l hl) (A.j.s.l.sub l (by omega))
  rw [A.sm.nx] at this
  omega

theorem Adv.leans {X : Nat → Prop} {B : Nat} {g1 : G} {L1 : List E} {p1 : V} (A : Adv k kw g L lev p w X B g1 L1 p1 w1) (hB : sumL kw.n g.P + B ≤ 10000000) {u : Nat} (hu : u < kw.n) : (g1.P (2 * kw.n + u)).length ≤ 10000000 := by
  have := sum_le (P := g1.P) hu
  have := A.su
  omega

theorem nat_none (m : Nat) : ((m : Int) == -1) = false := beq_eq_false_iff_ne.2 (by omega)
theorem nat_some (m : Nat) : ((m : Int) != -1) = true := by rw [bne, nat_none]; rfl

set_option maxHeartbeats 2000000 in
theorem settle_is (j : J k kw w g L lev p) (iv : Inv kw.n g (litsF L) (fun _ => g.dn) X) (rs : Rs g L) (hd : g.dn ≤ L.length) (hc : c < g.nx) (hnx : g.nx ≤ 1000000) (hsu : sumL kw.n g.P ≤ 5000000) :
    Calls Tryz.prog 44 #[.pointer (some ⟨kw.OB, 0, none⟩), .pointer (some ⟨k.OB, 0, none⟩), .pointer (some ⟨g.cb c, 0, none⟩)] w fun e w' => SetEnd k kw g L lev p X c w e w' := by
  have c5 := j.s.l.k5 hc
  have A0 := Adv.start j iv rs
  cases hg : g.gn c
  · rw [hg] at c5
    obtain ⟨m1, m2⟩ := iv.max j.s hc hg
    cases hs : standsF g L c
    · have HJ := hid j
      have HI := hid iv
      have HR := hid rs
      have HS := hid hs
      have hN := nat_none
      have hM := nat_some
      clear j iv rs hs A0
      go_enter Tryz.func44, Tryz.ntmps44
      go_wp2_with (first
        | (go_at_call 63; with_reducible (refine (stands_is HJ.out hc hg m1 m2 HS.out).mono ?_); rintro e w1 ⟨rfl, b1⟩; have J1 := hid (HJ.out.below b1.out))
        | (go_at_call 64; with_reducible (refine (unwatch_adv J1.out HI.out HR.out hc hg).mono ?_); rintro e w2 ⟨rfl, g1, A0, ha1⟩; have A1 := hid (adv_from b1.out A0.out); have hc1 := hid (show c < g1.nx by rw [A1.out.sm.nx]; exact hc); have hg1 := hid (show g1.gn c = false by rw [A1.out.sm.gn]; exact hg); have h01 := hid (fun x hx => (A1.out.iv.rg c hc1.out hg1.out x hx).1))
        | (go_at_call 65; have T := two_is A1.out.j hc1.out hg1.out h01.out; rw [A1.out.sm.cb] at T; with_reducible (refine T.mono ?_); rintro e w3 ⟨a, b, rfl, htw, b3⟩; have A3 := hid (A1.out.below b3.out); have htw2 := TwoR.out htw.out; rcases htw2 with ⟨rfl, rfl, hno⟩ | ⟨m, rfl, rfl, hm, hv | hv⟩ | ⟨m, m', rfl, rfl, hmm⟩)
        | (go_at_call 66; have r1 := A3.out.iv.rg c hc1.out hg1.out _ hmm.out.1; have r2 := A3.out.iv.rg c hc1.out hg1.out _ hmm.out.2.1; have l1 : m < 2 * kw.n := (by omega); have l2 : m' < 2 * kw.n := (by omega); have T := watch_is A3.out.j.s hc1.out hg1.out m m' l1 l2 hmm.out.2.2.1 (A3.out.small hnx l1) (A3.out.small hnx l2); rw [A3.out.sm.cb] at T; with_reducible (refine T.mono ?_); rintro e w4 ⟨rfl, hw4⟩)
        | (go_at_call 67; have r1 := A3.out.iv.rg c hc1.out hg1.out _ hm.out.1; have hn9 := A3.out.j.s.l.hn; have T := follow_held A3.out.j hc1.out (m : Int) (by omega) hv.out; rw [A3.out.sm.cb] at T; with_reducible (refine T.mono ?_); rintro e w4 ⟨rfl, b4⟩; have A5 := hid (A3.out.below b4.out); have hv5 := hv)
        | (go_at_call 67; have r1 := A3.out.iv.rg c hc1.out hg1.out _ hm.out.1; have T := follow_new A3.out.j hc1.out hg1.out m (m / 2) rfl (by omega) hv.out; rw [A3.out.sm.cb] at T; with_reducible (refine T.mono ?_); rintro e w4 ⟨rfl, p5, j5, f5⟩; have A5 := hid (adv_new A3.out hd hc1.out hg1.out hm.out.1 rfl hv.out hm.out.2 j5.out f5.out); have hv5 := hid (val_last A5.out.j.t.nd))
        | (go_at_call 68; have hc5 := hid hc1.out; have T := lean_is A5.out.j.s hc5.out m (m / 2) rfl (by omega) (A5.out.leans (by omega) (by omega)); rw [A5.out.sm.cb] at T; with_reducible (refine T.mono ?_); rintro e w6 ⟨rfl, v6, s6, f6⟩))
      all_goals go_ret
      · exact .inr ⟨rfl, g1, A3.out, hg, fun x hx => (val_neg (hno.out x (by rw [A3.out.sm.lt]; exact hx))).1⟩
      · obtain ⟨g9, A9⟩ := adv_lean A5.out ha1.out hm.out.1 rfl (by omega) hv5.out s6.out f6.out
        exact .inl ⟨rfl, g9, _, _, A9⟩
      · obtain ⟨g9, A9⟩ := adv_lean A5.out ha1.out hm.out.1 rfl (by omega) hv5.out s6.out f6.out
        exact .inl ⟨rfl, g9, _, _, A9⟩
      · obtain ⟨g9, A9⟩ := adv_watch A3.out ha1.out hc1.out hg1.out hmm.out.1 hmm.out.2.1 hmm.out.2.2.1 hmm.out.2.2.2.1 hmm.out.2.2.2.2 hw4
        exact .inl ⟨rfl, g9, _, _, A9⟩
    · have HJ := hid j
      have HS := hid hs
      have HA : Hid (Adv k kw g L lev p w (fun i => X i ∧ i ≠ c) 0 g L p w) := hid (A0.off fun i hi hgi hX => by
        by_cases e : i = c
        · subst e
          simp only [standsF, decide_eq_true_eq] at hs
          obtain ⟨h1, h2, h3⟩ := hs
          obtain ⟨a, b, ea, eb, _⟩ := iv.watched hi hgi h1
          refine .inr (.inr ⟨h1, fun q _ hq => absurd hq (val_may j.t.nd (by omega) h2 q), fun q _ hq => absurd hq (val_may j.t.nd (by omega) h3 q)⟩)
        · exact .inl ⟨hX, e⟩)
      clear j iv rs hs A0
      go_enter Tryz.func44, Tryz.ntmps44
      go_wp2_with (go_at_call 63; with_reducible (refine (stands_is HJ.out hc hg m1 m2 HS.out).mono ?_); rintro e w1 ⟨rfl, b1⟩)
      go_ret
      exact .inl ⟨rfl, _, _, _, (HA.out.below b1.out).weak (by omega) (fun _ h => h)⟩
  · rw [hg] at c5
    have HA : Hid (Adv k kw g L lev p w (fun i => X i ∧ i ≠ c) 0 g L p w) := hid (A0.off fun i hi hgi hX => .inl ⟨hX, fun e => by rw [e, hg] at hgi; cases hgi⟩)
    clear j iv rs A0
    go_enter Tryz.func44, Tryz.ntmps44
    go_wp2
    go_ret
    exact .inl ⟨rfl, _, _, _, HA.out.weak (by omega) (fun _ h => h)⟩
end

end Go.Proofs.YtikdmgemhfmipaaGreat
