/-
  strike: the clauses that watch a literal are told that it does not hold.
-/
import Derived.Test.YtimfjoinjfecjaaGreatG20

namespace Go.Proofs.YtimfjoinjfecjaaGreat
open Go.RowKit Go.Maps
set_option linter.unusedVariables false

/-- How far it is. -/
structure StrI (k : K) (kw : WK) (g : G) (L : List E) (lev : Nat) (p : V) (w : World) (x : Nat) (Q : List Nat) (a : Nat) (T : List Nat) (bd : Option Nat) (g1 : G) (L1 : List E) (p1 : V) (w1 : World) : Prop where
  j : J k kw w1 g1 L1 lev p1
  rs : Rs g1 L1
  sm : Same g g1
  dn : g1.dn = g.dn
  wa : g1.P (3 * kw.n) = g.P (3 * kw.n) ∧ g1.pv (3 * kw.n) = g.pv (3 * kw.n)
  pv : g1.pv x = g.pv x
  ml : (g1.P x).length = Q.length
  m1 : (g1.P x).take T.length = T
  m2 : (g1.P x).drop a = Q.drop a
  tl : T.length ≤ a
  al : a ≤ Q.length
  iv : Inv kw.n (g1.vir x (T ++ Q.drop a)) (litsF L1) (dT T g.dn) (fun i => bd = some i)
  bd : ∀ c, bd = some c → c < g.nx ∧ g.gn c = false ∧ ∀ y ∈ g.lt c, valueF L1 y = -1
  ex : Ext L L1 lev
  su : sumL kw.n g1.P ≤ sumL kw.n g.P + a
  ft : FT k kw.B p p1 w w1

section
variable {k : K} {kw : WK} {w w1 w2 : World} {g g1 : G} {L L1 : List E} {lev : Nat} {p p1 : V} {x a : Nat} {Q T : List Nat} {bd : Option Nat}

theorem StrI.at (h : StrI k kw g L lev p w x Q a T bd g1 L1 p1 w1) {c : Nat} (hc : Q[a]? = some c) : (g1.P x)[a]? = some c := by
  have := congrArg (fun l => l[0]?) h.m2
  simp only [List.getElem?_drop, Nat.add_zero] at this
  rw [this]; exact hc

theorem drop_next {α : Type} {A B : List α} {a : Nat} (h : A.drop a = B.drop a) : A.drop (a + 1) = B.drop (a + 1) := by
  have := congrArg (List.drop 1) h
  simpa [List.drop_drop] using this

/-- One that is gone. -/
theorem StrI.gone (h : StrI k kw g L lev p w x Q a T none g1 L1 p1 w1) (hx : x < 2 * kw.n) {c : Nat} (hc : Q[a]? = some c) (hg : g.gn c = true) : StrI k kw g L lev p w x Q (a + 1) T none g1 L1 p1 w1 := by
  have hal := (List.getElem?_eq_some_iff.1 hc).1
  refine ⟨h.j, h.rs, h.sm, h.dn, h.wa, h.pv, h.ml, h.m1, drop_next h.m2, by have := h.tl; omega, hal, ?_, h.bd, h.ex, by have := h.su; omega, h.ft⟩
  have iv := h.iv
  rw [drop_cons hc] at iv
  exact iv.vdrop hx (by rw [h.sm.gn]; exact hg)

theorem StrI.below (h : StrI k kw g L lev p w x Q a T bd g1 L1 p1 w1) (b : Below w1.heap.size w1 w2) : StrI k kw g L lev p w x Q a T bd g1 L1 p1 w2 :=
  ⟨h.j.below b, h.rs, h.sm, h.dn, h.wa, h.pv, h.ml, h.m1, h.m2, h.tl, h.al, h.iv, h.bd, h.ex, h.su, h.ft.trans (FT.below b)⟩

/-- It watches another literal now. -/
theorem StrI.moved (h : StrI k kw g L lev p w x Q a T none g1 L1 p1 w1) (hx : x < 2 * kw.n) {c z f : Nat} {y : Int} {v : Value} (hc : Q[a]? = some c) (hcn : c < g.nx) (hg : g.gn c = false) (hy : besideF g1 c x = y) (hq : (litsF L1)[g.dn]? = some (U.notF x)) (hz : (f < (g1.lt c).length ∨ g1.lt c = []) ∧ (z : Int) ∈ g1.lt c ∧ (z : Int) ≠ y ∧ 0 ≤ valueF L1 z)
    (j : J k kw w2 (((g1.from c f).watch c y z).slot z (g1.P z ++ [c]) v) L1 lev p1) (F : FW kw.B w1 w2) : StrI k kw g L lev p w x Q (a + 1) T none (((g1.from c f).watch c y z).slot z (g1.P z ++ [c]) v) L1 p1 w2 := by
  have hal := (List.getElem?_eq_some_iff.1 hc).1
  obtain ⟨z1, z2, z3, z4⟩ := hz
  have iv := h.iv
  rw [drop_cons hc] at iv
  have hg1 : g1.gn c = false := by rw [h.sm.gn]; exact hg
  have hc1 : c < g1.nx := by rw [h.sm.nx]; exact hcn
  have rz := iv.rg c hc1 hg1 _ z2
  have vx : valueF L1 x = -1 := val_not h.j.t.nd (by omega) hq
  have hzx : z ≠ x := fun e => by rw [e] at z4; omega
  have hcT : c ∉ T := by
    have := iv.nd x hx
    rw [vir_P, List.nodup_append] at this
    intro hm
    exact this.2.2 c hm c (by simp) rfl
  have hPx : (((g1.from c f).watch c y z).slot z (g1.P z ++ [c]) v).P x = g1.P x := up_ne _ _ (fun e => hzx e.symm)
  have key := iv.moved (f := f) h.j.t.nd hx hc1 hg1 hy (by rw [show dT T g.dn c = g.dn by simp [dT, hcT]]; exact hq) z2 z3 z4 z1 v
  refine ⟨j, h.rs.as rfl rfl rfl, h.sm.trans ⟨rfl, rfl, rfl, rfl, rfl, rfl, rfl, rfl⟩, h.dn, ⟨?_, ?_⟩, ?_, by rw [hPx]; exact h.ml, by rw [hPx]; exact h.m1, by rw [hPx]; exact drop_next h.m2, by have := h.tl; omega, hal, key, h.bd, h.ex, ?_, h.ft.trans (FT.fw F)⟩
  · rw [← h.wa.1]; exact up_ne _ _ (by omega)
  · rw [← h.wa.2]; exact up_ne _ _ (by omega)
  · rw [← h.pv]; exact up_ne _ _ (fun e => hzx e.symm)
  · have : sumL kw.n (((g1.from c f).watch c y z).slot z (g1.P z ++ [c]) v).P = sumL kw.n g1.P := sum_other (.inl (by omega)) _ v
    rw [this]; have := h.su; omega

/-- A pointer is written over one of a list, which lies where it lay. -/
theorem St.over {kw : WK} {w1 w2 : World} {g : G} {M : List Nat} (s : St kw w1 g) {x : Nat} (hx : x ≤ 3 * kw.n) (own : PRow w2 g.cb (g.pv x) M) (gr : w1.grownBy w2 (g.pv x).ownBlock) (hM : ∀ i ∈ M, i < g.nx) : St kw w2 (g.slot x M (g.pv x)) ∧ FW kw.B w1 w2 := by
  obtain ⟨c5, l5⟩ := s.list hx gr own (fun j hj => .inl hj) hM
  refine ⟨⟨?_, l5⟩, FW.grown gr (s.ty hx) (s.l.lo.p _ hx)⟩
  have e : (g.slot x M (g.pv x)).pv = g.pv := up_self _ _
  exact ⟨by rw [e]; exact c5.ob, by rw [e]; exact c5.wb, by rw [e]; exact c5.fb, c5.lo⟩

/-- It stays in the list. -/
structure StayI (k : K) (kw : WK) (g : G) (L : List E) (lev : Nat) (p : V) (w : World) (x : Nat) (Q : List Nat) (a : Nat) (T : List Nat) (c : Nat) (g1 : G) (L1 : List E) (p1 : V) (w1 : World) : Prop where
  j : J k kw w1 g1 L1 lev p1
  rs : Rs g1 L1
  sm : Same g g1
  dn : g1.dn = g.dn
  wa : g1.P (3 * kw.n) = g.P (3 * kw.n) ∧ g1.pv (3 * kw.n) = g.pv (3 * kw.n)
  pv : g1.pv x = g.pv x
  ml : (g1.P x).length = Q.length
  m1 : (g1.P x).take (T ++ [c]).length = T ++ [c]
  m2 : (g1.P x).drop (a + 1) = Q.drop (a + 1)
  tl : (T ++ [c]).length ≤ a + 1
  al : a + 1 ≤ Q.length
  iv : Inv kw.n (g1.vir x (T ++ [c] ++ Q.drop (a + 1))) (litsF L1) (dT T g.dn) (fun _ => False)
  ex : Ext L L1 lev
  su : sumL kw.n g1.P ≤ sumL kw.n g.P + a
  ft : FT k kw.B p p1 w w1

theorem StrI.stay {w3 : World} {g2 : G} (h : StrI k kw g L lev p w x Q a T none g1 L1 p1 w1) (hx : x < 2 * kw.n) {c : Nat} (hc : Q[a]? = some c) (j : J k kw w2 g2 L1 lev p1) (F : FW kw.B w1 w2) (e2 : g2 = g1 ∨ ∃ f, (f < (g1.lt c).length ∨ g1.lt c = []) ∧ g2 = g1.from c f)
    (own : PRow w3 g2.cb (g2.pv x) ((g2.P x).set T.length c)) (gr : w2.grownBy w3 (g2.pv x).ownBlock) : StayI k kw g L lev p w x Q a T c (g2.slot x ((g2.P x).set T.length c) (g2.pv x)) L1 p1 w3 := by
  have hal := (List.getElem?_eq_some_iff.1 hc).1
  have q1 : g2.P = g1.P ∧ g2.pv = g1.pv ∧ Same g1 g2 ∧ g2.dn = g1.dn := by
    rcases e2 with rfl | ⟨f, _, rfl⟩
    · exact ⟨rfl, rfl, Same.refl _, rfl⟩
    · exact ⟨rfl, rfl, ⟨rfl, rfl, rfl, rfl, rfl, rfl, rfl, rfl⟩, rfl⟩
  obtain ⟨eP, epv, hsm, hdn⟩ := q1
  have hlen : T.length < (g1.P x).length := by rw [h.ml]; have := h.tl; omega
  have hsub : ∀ i ∈ (g2.P x).set T.length c, i < g2.nx := fun i hi => by
    rcases List.mem_or_eq_of_mem_set hi with q | q
    · exact j.s.l.sub x (by omega) i q
    · rw [q, hsm.nx]
      exact h.j.s.l.sub x (by omega) c (List.mem_of_getElem? (h.at hc))
  obtain ⟨s3, F3⟩ := j.s.over (by omega) own gr hsub
  have hPx : (g2.slot x ((g2.P x).set T.length c) (g2.pv x)).P x = (g1.P x).set T.length c := by rw [eP]; exact up_same _ _ _
  have htl := h.tl
  have iv := h.iv
  rw [drop_cons hc] at iv
  have iv2 : Inv kw.n ((g2.slot x ((g2.P x).set T.length c) (g2.pv x)).vir x (T ++ [c] ++ Q.drop (a + 1))) (litsF L1) (dT T g.dn) (fun _ => False) := by
    rw [vir_over]
    have e3 : T ++ [c] ++ Q.drop (a + 1) = T ++ c :: Q.drop (a + 1) := by simp
    rw [e3]
    have iv3 := iv.mono (X' := fun _ => False) (fun _ => Nat.le_refl _) (fun i hi => by cases hi)
    rcases e2 with rfl | ⟨f, hf, rfl⟩
    · exact iv3
    · exact iv3.from hf
  refine ⟨j.fw F3 s3 rfl rfl rfl rfl, (h.rs.as hsm.nx hsm.gn hsm.lt).as rfl rfl rfl, (h.sm.trans hsm).trans ⟨rfl, rfl, rfl, rfl, rfl, rfl, rfl, rfl⟩, hdn.trans h.dn, ⟨?_, ?_⟩, ?_, by rw [hPx, List.length_set]; exact h.ml, ?_, ?_, by simp; omega, hal, iv2, h.ex, ?_, (h.ft.trans (FT.fw F)).trans (FT.fw F3)⟩
  · rw [← h.wa.1, ← eP]; exact up_ne _ _ (by omega)
  · rw [← h.wa.2, ← epv]; exact up_ne _ _ (by omega)
  · rw [← h.pv, ← epv]; exact up_same _ _ _
  · rw [hPx, List.length_append, List.length_singleton]
    have e : ((g1.P x).set T.length c)[T.length]? = some c := List.getElem?_set_self hlen
    rw [tk_next e, List.take_set_of_le (Nat.le_refl _), h.m1]
  · rw [hPx, List.drop_set_of_lt (by omega)]
    exact drop_next h.m2
  · have : sumL kw.n (g2.slot x ((g2.P x).set T.length c) (g2.pv x)).P = sumL kw.n g1.P := by
      rw [sum_other (.inl hx) _ (g2.pv x), eP]
    rw [this]; exact h.su

theorem StayI.below {c : Nat} (h : StayI k kw g L lev p w x Q a T c g1 L1 p1 w1) (b : Below w1.heap.size w1 w2) : StayI k kw g L lev p w x Q a T c g1 L1 p1 w2 :=
  ⟨h.j.below b, h.rs, h.sm, h.dn, h.wa, h.pv, h.ml, h.m1, h.m2, h.tl, h.al, h.iv, h.ex, h.su, h.ft.trans (FT.below b)⟩

/-- .. and comes to hold by the other literal. -/
theorem StayI.new {c m u : Nat} {p2 : V} (h : StayI k kw g L lev p w x Q a T c g1 L1 p1 w1) (hd : g.dn < L.length) (hcn : c < g.nx) (hg : g.gn c = false) (hm : (m : Int) ∈ g.lt c) (hu : m / 2 = u) (hv : valueF L1 m = 0) (ho : ∀ y ∈ g.lt c, y ≠ (m : Int) → valueF L1 y < 0)
    (j : J k kw w2 (g1.place u L1.length) (L1 ++ [⟨m, lev, c⟩]) lev p2) (f : FT k kw.B p1 p2 w1 w2) : StayI k kw g L lev p w x Q a T c (g1.place u L1.length) (L1 ++ [⟨m, lev, c⟩]) p2 w2 := by
  have hvl : vl (m : Int) = u := by unfold vl; omega
  have e1 : litsF (L1 ++ [⟨m, lev, c⟩]) = litsF L1 ++ [(m : Int)] := by rw [litsF_app]; rfl
  have e2 : ((litsF L1).length) = L1.length := litsF_len L1
  have hlen := h.ex.len
  refine ⟨j, (h.rs.snoc (e := ⟨m, lev, c⟩) (fun _ => ⟨c, rfl, by rw [h.sm.nx]; exact hcn, fun _ => by rw [h.sm.gn]; exact hg, by rw [h.sm.lt]; exact hm, fun y hy hne => (val_neg (ho y (by rw [← h.sm.lt]; exact hy) hne)).2.2⟩)).as rfl rfl rfl, h.sm.trans ⟨rfl, rfl, rfl, rfl, rfl, rfl, rfl, rfl⟩, h.dn, h.wa, h.pv, h.ml, h.m1, h.m2, h.tl, h.al, ?_, h.ex.trans (Ext.one _ _ _ _), h.su, h.ft.trans f⟩
  have key := h.iv.grow (x := (m : Int)) (fun y hy c2 => ?_) (fun i => by rw [e2]; unfold dT; split <;> omega)
  · rw [hvl, e2] at key
    rw [e1]; exact key
  · obtain ⟨r, hr⟩ := List.mem_iff_getElem?.1 hy
    obtain ⟨e, he, rfl⟩ := lits_at.1 hr
    have := at_of h.j.t.nd he
    have hvr : ((vr e : Nat) : Int) = (m : Int) / 2 := by unfold vl at c2; unfold vr; omega
    rw [hvr] at this
    unfold valueF at hv
    rw [if_neg (by omega), this] at hv
    simp only at hv
    split at hv <;> omega

/-- .. and that is all. -/
theorem StayI.done {c : Nat} {y : Int} {r : Nat} (h : StayI k kw g L lev p w x Q a T c g1 L1 p1 w1) (hx : x < 2 * kw.n) (hcn : c < g.nx) (hg : g.gn c = false) (hy : besideF g1 c x = y) (hq : (litsF L1)[g.dn]? = some (U.notF x)) (hr : (litsF L1)[r]? = some y) (hl : r ≤ g.dn) : StrI k kw g L lev p w x Q (a + 1) (T ++ [c]) none g1 L1 p1 w1 := by
  refine ⟨h.j, h.rs, h.sm, h.dn, h.wa, h.pv, h.ml, h.m1, h.m2, h.tl, h.al, ?_, (fun c' e => by cases e), h.ex, by have := h.su; omega, h.ft⟩
  refine (h.iv.stays h.j.t.nd hx (by rw [vir_P]; simp) (show c < g1.nx by rw [h.sm.nx]; exact hcn) (show g1.gn c = false by rw [h.sm.gn]; exact hg) hy hq hr (.inl hl)).mono (fun _ => Nat.le_refl _) (fun i hi => hi.elim)

/-- .. and it leans on that literal. -/
theorem StayI.lean {c m u : Nat} {r : Nat} {v : Value} (h : StayI k kw g L lev p w x Q a T c g1 L1 p1 w1) (hx : x < 2 * kw.n) (hcn : c < g.nx) (hg : g.gn c = false) (hy : besideF g1 c x = (m : Int)) (hu : m / 2 = u) (hun : u < kw.n) (hq : (litsF L1)[g.dn]? = some (U.notF x)) (hr : (litsF L1)[r]? = some (m : Int))
    (s : St kw w2 (g1.slot (2 * kw.n + u) (g1.P (2 * kw.n + u) ++ [c]) v)) (F : FW kw.B w1 w2) : StrI k kw g L lev p w x Q (a + 1) (T ++ [c]) none (g1.slot (2 * kw.n + u) (g1.P (2 * kw.n + u) ++ [c]) v) L1 p1 w2 := by
  have hvl : vl (m : Int) = u := by unfold vl; omega
  have hPx : (g1.slot (2 * kw.n + u) (g1.P (2 * kw.n + u) ++ [c]) v).P x = g1.P x := up_ne _ _ (by omega)
  refine ⟨h.j.fw F s rfl rfl rfl rfl, h.rs.as rfl rfl rfl, h.sm.trans ⟨rfl, rfl, rfl, rfl, rfl, rfl, rfl, rfl⟩, h.dn, ⟨?_, ?_⟩, ?_, by rw [hPx]; exact h.ml, by rw [hPx]; exact h.m1, by rw [hPx]; exact h.m2, h.tl, h.al, ?_, (fun c' e => by cases e), h.ex, ?_, h.ft.trans (FT.fw F)⟩
  · rw [← h.wa.1]; exact up_ne _ _ (by omega)
  · rw [← h.wa.2]; exact up_ne _ _ (by omega)
  · rw [← h.pv]; exact up_ne _ _ (by omega)
  · rw [vir_slot _ (by omega)]
    have hP2 : (g1.vir x (T ++ [c] ++ Q.drop (a + 1))).P (2 * kw.n + u) = g1.P (2 * kw.n + u) := vir_ne _ (by omega) _
    have iv2 := h.iv.more (s := 2 * kw.n + u) (by omega) (xs := g1.P (2 * kw.n + u) ++ [c]) (fun i hi => by rw [hP2] at hi; exact List.mem_append.2 (.inl hi)) v
    refine (iv2.stays (y := (m : Int)) (r := r) h.j.t.nd hx ?_ (show c < g1.nx by rw [h.sm.nx]; exact hcn) (show g1.gn c = false by rw [h.sm.gn]; exact hg) hy hq hr (.inr ?_)).mono (fun _ => Nat.le_refl _) (fun i hi => hi.elim)
    · show c ∈ up (up g1.P x _) _ _ x
      rw [up_ne _ _ (by omega), up_same]; simp
    · rw [hvl]
      show c ∈ up (up g1.P x _) _ _ (2 * kw.n + u)
      rw [up_same]; simp
  · have := sum_slot (g := g1) hun (g1.P (2 * kw.n + u) ++ [c]) v
    simp only [List.length_append, List.length_singleton] at this
    have := h.su; omega

/-- .. or it does not hold. -/
theorem StayI.bad {c : Nat} (h : StayI k kw g L lev p w x Q a T c g1 L1 p1 w1) (hcn : c < g.nx) (hg : g.gn c = false) (hb : ∀ y ∈ g.lt c, valueF L1 y = -1) : StrI k kw g L lev p w x Q (a + 1) (T ++ [c]) (some c) g1 L1 p1 w1 := by
  refine ⟨h.j, h.rs, h.sm, h.dn, h.wa, h.pv, h.ml, h.m1, h.m2, h.tl, h.al, ?_, fun c' e => by cases e; exact ⟨hcn, hg, hb⟩, h.ex, by have := h.su; omega, h.ft⟩
  refine ⟨h.iv.rg, h.iv.fr, h.iv.wt, h.iv.sd, h.iv.nd, h.iv.pl, fun i hi hgi => ?_⟩
  by_cases e : i = c
  · exact .inl (by rw [e])
  · have e1 : dT (T ++ [c]) g.dn i = dT T g.dn i := by simp [dT, e]
    rw [e1]
    exact (h.iv.ok i hi hgi).elim (fun q => q.elim) .inr
end

end Go.Proofs.YtimfjoinjfecjaaGreat
