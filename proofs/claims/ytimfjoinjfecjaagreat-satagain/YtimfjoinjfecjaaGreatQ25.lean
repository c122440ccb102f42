/-
  strike: the clauses that watch a literal are told that it does not hold.
  strike: the walk.
  spread: clauses are told of all that holds.
  alike: how many literals two lists have in common.
  meet: what a trail has lost, and what is new.
  Run: what follows is assigned, or a clause does not hold.
  New: a watch with no clauses.
  slices.Clone, slices.Clip: a list of literals of one's own.
  A clause more: what becomes of the watch.
  A clause more, between its steps.
  Add: a clause more.
-/
import Derived.Test.YtimfjoinjfecjaaGreatQ23
import Derived.Test.YtimfjoinjfecjaaGreatQ24
import Derived.Test.YtimfjoinjfecjaaGreatQ03
import Derived.LaidEqlPtr
import Derived.WalkSpells
import Derived.Carry
import Derived.Deep.Cut
import Derived.Deep.CutRange

namespace Go.Proofs.YtimfjoinjfecjaaGreat
open Go.RowKit Go.Maps
set_option linter.unusedVariables false

/-- How far it is. -/
structure StrI (k : K) (kw : WK) (g : G) (L : List E) (lev : Nat) (p : V) (w : World) (x : Nat) (Q : List Nat) (a : Nat) (T : List Nat) (bd : Option Nat) (g1 : G) (L1 : List E) (p1 : V) (w1 : World) : Prop where
  j : J k kw w1 g1 L1 lev p1
  rs : Rs g1 L1
  sm : Same g g1
  dn : g1.dn = g.dn
  wa : g1.P (3 * kw.n) = g.P (3 * kw.n) ∧ g1.pv (3 * kw.n) = g.pv (3 * kw.n)
  pv : g1.pv x = g.pv x
  ml : (g1.P x).length = Q.length
  m1 : (g1.P x).take T.length = T
  m2 : (g1.P x).drop a = Q.drop a
  tl : T.length ≤ a
  al : a ≤ Q.length
  iv : Inv kw.n (g1.vir x (T ++ Q.drop a)) (litsF L1) (dT T g.dn) (fun i => bd = some i)
  bd : ∀ c, bd = some c → c < g.nx ∧ g.gn c = false ∧ ∀ y ∈ g.lt c, valueF L1 y = -1
  ex : Ext L L1 lev
  su : sumL kw.n g1.P ≤ sumL kw.n g.P + a
  ft : FT k kw.B p p1 w w1

section
variable {k : K} {kw : WK} {w w1 w2 : World} {g g1 : G} {L L1 : List E} {lev : Nat} {p p1 : V} {x a : Nat} {Q T : List Nat} {bd : Option Nat}

theorem StrI.at (h : StrI k kw g L lev p w x Q a T bd g1 L1 p1 w1) {c : Nat} (hc : Q[a]? = some c) : (g1.P x)[a]? = some c := by
  have := congrArg (fun l => l[0]?) h.m2
  simp only [List.getElem?_drop, Nat.add_zero] at this
  rw [this]; exact hc

theorem drop_next {α : Type} {A B : List α} {a : Nat} (h : A.drop a = B.drop a) : A.drop (a + 1) = B.drop (a + 1) := by
  have := congrArg (List.drop 1) h
  simpa [List.drop_drop] using this

/-- One that is gone. -/
theorem StrI.gone (h : StrI k kw g L lev p w x Q a T none g1 L1 p1 w1) (hx : x < 2 * kw.n) {c : Nat} (hc : Q[a]? = some c) (hg : g.gn c = true) : StrI k kw g L lev p w x Q (a + 1) T none g1 L1 p1 w1 := by
  have hal := (List.getElem?_eq_some_iff.1 hc).1
  refine ⟨h.j, h.rs, h.sm, h.dn, h.wa, h.pv, h.ml, h.m1, drop_next h.m2, by have := h.tl; omega, hal, ?_, h.bd, h.ex, by have := h.su; omega, h.ft⟩
  have iv := h.iv
  rw [drop_cons hc] at iv
  exact iv.vdrop hx (by rw [h.sm.gn]; exact hg)

theorem StrI.below (h : StrI k kw g L lev p w x Q a T bd g1 L1 p1 w1) (b : Below w1.heap.size w1 w2) : StrI k kw g L lev p w x Q a T bd g1 L1 p1 w2 :=
  ⟨h.j.below b, h.rs, h.sm, h.dn, h.wa, h.pv, h.ml, h.m1, h.m2, h.tl, h.al, h.iv, h.bd, h.ex, h.su, h.ft.trans (FT.below b)⟩

/-- It watches another literal now. -/
theorem StrI.moved (h : StrI k kw g L lev p w x Q a T none g1 L1 p1 w1) (hx : x < 2 * kw.n) {c z f : Nat} {y : Int} {v : Value} (hc : Q[a]? = some c) (hcn : c < g.nx) (hg : g.gn c = false) (hy : besideF g1 c x = y) (hq : (litsF L1)[g.dn]? = some (U.notF x)) (hz : (f < (g1.lt c).length ∨ g1.lt c = []) ∧ (z : Int) ∈ g1.lt c ∧ (z : Int) ≠ y ∧ 0 ≤ valueF L1 z)
    (j : J k kw w2 (((g1.from c f).watch c y z).slot z (g1.P z ++ [c]) v) L1 lev p1) (F : FW kw.B w1 w2) : StrI k kw g L lev p w x Q (a + 1) T none (((g1.from c f).watch c y z).slot z (g1.P z ++ [c]) v) L1 p1 w2 := by
  have hal := (List.getElem?_eq_some_iff.1 hc).1
  obtain ⟨z1, z2, z3, z4⟩ := hz
  have iv := h.iv
  rw [drop_cons hc] at iv
  have hg1 : g1.gn c = false := by rw [h.sm.gn]; exact hg
  have hc1 : c < g1.nx := by rw [h.sm.nx]; exact hcn
  have rz := iv.rg c hc1 hg1 _ z2
  have vx : valueF L1 x = -1 := val_not h.j.t.nd (by omega) hq
  have hzx : z ≠ x := fun e => by rw [e] at z4; omega
  have hcT : c ∉ T := by
    have := iv.nd x hx
    rw [vir_P, List.nodup_append] at this
    intro hm
    exact this.2.2 c hm c (by simp) rfl
  have hPx : (((g1.from c f).watch c y z).slot z (g1.P z ++ [c]) v).P x = g1.P x := up_ne _ _ (fun e => hzx e.symm)
  have key := iv.moved (f := f) h.j.t.nd hx hc1 hg1 hy (by rw [show dT T g.dn c = g.dn by simp [dT, hcT]]; exact hq) z2 z3 z4 z1 v
  refine ⟨j, h.rs.as rfl rfl rfl, h.sm.trans ⟨rfl, rfl, rfl, rfl, rfl, rfl, rfl, rfl⟩, h.dn, ⟨?_, ?_⟩, ?_, by rw [hPx]; exact h.ml, by rw [hPx]; exact h.m1, by rw [hPx]; exact drop_next h.m2, by have := h.tl; omega, hal, key, h.bd, h.ex, ?_, h.ft.trans (FT.fw F)⟩
  · rw [← h.wa.1]; exact up_ne _ _ (by omega)
  · rw [← h.wa.2]; exact up_ne _ _ (by omega)
  · rw [← h.pv]; exact up_ne _ _ (fun e => hzx e.symm)
  · have : sumL kw.n (((g1.from c f).watch c y z).slot z (g1.P z ++ [c]) v).P = sumL kw.n g1.P := sum_other (.inl (by omega)) _ v
    rw [this]; have := h.su; omega

/-- A pointer is written over one of a list, which lies where it lay. -/
theorem St.over {kw : WK} {w1 w2 : World} {g : G} {M : List Nat} (s : St kw w1 g) {x : Nat} (hx : x ≤ 3 * kw.n) (own : PRow w2 g.cb (g.pv x) M) (gr : w1.grownBy w2 (g.pv x).ownBlock) (hM : ∀ i ∈ M, i < g.nx) : St kw w2 (g.slot x M (g.pv x)) ∧ FW kw.B w1 w2 := by
  obtain ⟨c5, l5⟩ := s.list hx gr own (fun j hj => .inl hj) hM
  refine ⟨⟨?_, l5⟩, FW.grown gr (s.ty hx) (s.l.lo.p _ hx)⟩
  have e : (g.slot x M (g.pv x)).pv = g.pv := up_self _ _
  exact ⟨by rw [e]; exact c5.ob, by rw [e]; exact c5.wb, by rw [e]; exact c5.fb, c5.lo⟩

/-- It stays in the list. -/
structure StayI (k : K) (kw : WK) (g : G) (L : List E) (lev : Nat) (p : V) (w : World) (x : Nat) (Q : List Nat) (a : Nat) (T : List Nat) (c : Nat) (g1 : G) (L1 : List E) (p1 : V) (w1 : World) : Prop where
  j : J k kw w1 g1 L1 lev p1
  rs : Rs g1 L1
  sm : Same g g1
  dn : g1.dn = g.dn
  wa : g1.P (3 * kw.n) = g.P (3 * kw.n) ∧ g1.pv (3 * kw.n) = g.pv (3 * kw.n)
  pv : g1.pv x = g.pv x
  ml : (g1.P x).length = Q.length
  m1 : (g1.P x).take (T ++ [c]).length = T ++ [c]
  m2 : (g1.P x).drop (a + 1) = Q.drop (a + 1)
  tl : (T ++ [c]).length ≤ a + 1
  al : a + 1 ≤ Q.length
  iv : Inv kw.n (g1.vir x (T ++ [c] ++ Q.drop (a + 1))) (litsF L1) (dT T g.dn) (fun _ => False)
  ex : Ext L L1 lev
  su : sumL kw.n g1.P ≤ sumL kw.n g.P + a
  ft : FT k kw.B p p1 w w1

theorem StrI.stay {w3 : World} {g2 : G} (h : StrI k kw g L lev p w x Q a T none g1 L1 p1 w1) (hx : x < 2 * kw.n) {c : Nat} (hc : Q[a]? = some c) (j : J k kw w2 g2 L1 lev p1) (F : FW kw.B w1 w2) (e2 : g2 = g1 ∨ ∃ f, (f < (g1.lt c).length ∨ g1.lt c = []) ∧ g2 = g1.from c f)
    (own : PRow w3 g2.cb (g2.pv x) ((g2.P x).set T.length c)) (gr : w2.grownBy w3 (g2.pv x).ownBlock) : StayI k kw g L lev p w x Q a T c (g2.slot x ((g2.P x).set T.length c) (g2.pv x)) L1 p1 w3 := by
  have hal := (List.getElem?_eq_some_iff.1 hc).1
  have q1 : g2.P = g1.P ∧ g2.pv = g1.pv ∧ Same g1 g2 ∧ g2.dn = g1.dn := by
    rcases e2 with rfl | ⟨f, _, rfl⟩
    · exact ⟨rfl, rfl, Same.refl _, rfl⟩
    · exact ⟨rfl, rfl, ⟨rfl, rfl, rfl, rfl, rfl, rfl, rfl, rfl⟩, rfl⟩
  obtain ⟨eP, epv, hsm, hdn⟩ := q1
  have hlen : T.length < (g1.P x).length := by rw [h.ml]; have := h.tl; omega
  have hsub : ∀ i ∈ (g2.P x).set T.length c, i < g2.nx := fun i hi => by
    rcases List.mem_or_eq_of_mem_set hi with q | q
    · exact j.s.l.sub x (by omega) i q
    · rw [q, hsm.nx]
      exact h.j.s.l.sub x (by omega) c (List.mem_of_getElem? (h.at hc))
  obtain ⟨s3, F3⟩ := j.s.over (by omega) own gr hsub
  have hPx : (g2.slot x ((g2.P x).set T.length c) (g2.pv x)).P x = (g1.P x).set T.length c := by rw [eP]; exact up_same _ _ _
  have htl := h.tl
  have iv := h.iv
  rw [drop_cons hc] at iv
  have iv2 : Inv kw.n ((g2.slot x ((g2.P x).set T.length c) (g2.pv x)).vir x (T ++ [c] ++ Q.drop (a + 1))) (litsF L1) (dT T g.dn) (fun _ => False) := by
    rw [vir_over]
    have e3 : T ++ [c] ++ Q.drop (a + 1) = T ++ c :: Q.drop (a + 1) := by simp
    rw [e3]
    have iv3 := iv.mono (X' := fun _ => False) (fun _ => Nat.le_refl _) (fun i hi => by cases hi)
    rcases e2 with rfl | ⟨f, hf, rfl⟩
    · exact iv3
    · exact iv3.from hf
  refine ⟨j.fw F3 s3 rfl rfl rfl rfl, (h.rs.as hsm.nx hsm.gn hsm.lt).as rfl rfl rfl, (h.sm.trans hsm).trans ⟨rfl, rfl, rfl, rfl, rfl, rfl, rfl, rfl⟩, hdn.trans h.dn, ⟨?_, ?_⟩, ?_, by rw [hPx, List.length_set]; exact h.ml, ?_, ?_, by simp; omega, hal, iv2, h.ex, ?_, (h.ft.trans (FT.fw F)).trans (FT.fw F3)⟩
  · rw [← h.wa.1, ← eP]; exact up_ne _ _ (by omega)
  · rw [← h.wa.2, ← epv]; exact up_ne _ _ (by omega)
  · rw [← h.pv, ← epv]; exact up_same _ _ _
  · rw [hPx, List.length_append, List.length_singleton]
    have e : ((g1.P x).set T.length c)[T.length]? = some c := List.getElem?_set_self hlen
    rw [tk_next e, List.take_set_of_le (Nat.le_refl _), h.m1]
  · rw [hPx, List.drop_set_of_lt (by omega)]
    exact drop_next h.m2
  · have : sumL kw.n (g2.slot x ((g2.P x).set T.length c) (g2.pv x)).P = sumL kw.n g1.P := by
      rw [sum_other (.inl hx) _ (g2.pv x), eP]
    rw [this]; exact h.su

theorem StayI.below {c : Nat} (h : StayI k kw g L lev p w x Q a T c g1 L1 p1 w1) (b : Below w1.heap.size w1 w2) : StayI k kw g L lev p w x Q a T c g1 L1 p1 w2 :=
  ⟨h.j.below b, h.rs, h.sm, h.dn, h.wa, h.pv, h.ml, h.m1, h.m2, h.tl, h.al, h.iv, h.ex, h.su, h.ft.trans (FT.below b)⟩

/-- .. and comes to hold by the other literal. -/
theorem StayI.new {c m u : Nat} {p2 : V} (h : StayI k kw g L lev p w x Q a T c g1 L1 p1 w1) (hd : g.dn < L.length) (hcn : c < g.nx) (hg : g.gn c = false) (hm : (m : Int) ∈ g.lt c) (hu : m / 2 = u) (hv : valueF L1 m = 0) (ho : ∀ y ∈ g.lt c, y ≠ (m : Int) → valueF L1 y < 0)
    (j : J k kw w2 (g1.place u L1.length) (L1 ++ [⟨m, lev, c⟩]) lev p2) (f : FT k kw.B p1 p2 w1 w2) : StayI k kw g L lev p w x Q a T c (g1.place u L1.length) (L1 ++ [⟨m, lev, c⟩]) p2 w2 := by
  have hvl : vl (m : Int) = u := by unfold vl; omega
  have e1 : litsF (L1 ++ [⟨m, lev, c⟩]) = litsF L1 ++ [(m : Int)] := by rw [litsF_app]; rfl
  have e2 : ((litsF L1).length) = L1.length := litsF_len L1
  have hlen := h.ex.len
  refine ⟨j, (h.rs.snoc (e := ⟨m, lev, c⟩) (fun _ => ⟨c, rfl, by rw [h.sm.nx]; exact hcn, fun _ => by rw [h.sm.gn]; exact hg, by rw [h.sm.lt]; exact hm, fun y hy hne => (val_neg (ho y (by rw [← h.sm.lt]; exact hy) hne)).2.2⟩)).as rfl rfl rfl, h.sm.trans ⟨rfl, rfl, rfl, rfl, rfl, rfl, rfl, rfl⟩, h.dn, h.wa, h.pv, h.ml, h.m1, h.m2, h.tl, h.al, ?_, h.ex.trans (Ext.one _ _ _ _), h.su, h.ft.trans f⟩
  have key := h.iv.grow (x := (m : Int)) (fun y hy c2 => ?_) (fun i => by rw [e2]; unfold dT; split <;> omega)
  · rw [hvl, e2] at key
    rw [e1]; exact key
  · obtain ⟨r, hr⟩ := List.mem_iff_getElem?.1 hy
    obtain ⟨e, he, rfl⟩ := lits_at.1 hr
    have := at_of h.j.t.nd he
    have hvr : ((vr e : Nat) : Int) = (m : Int) / 2 := by unfold vl at c2; unfold vr; omega
    rw [hvr] at this
    unfold valueF at hv
    rw [if_neg (by omega), this] at hv
    simp only at hv
    split at hv <;> omega

/-- .. and that is all. -/
theorem StayI.done {c : Nat} {y : Int} {r : Nat} (h : StayI k kw g L lev p w x Q a T c g1 L1 p1 w1) (hx : x < 2 * kw.n) (hcn : c < g.nx) (hg : g.gn c = false) (hy : besideF g1 c x = y) (hq : (litsF L1)[g.dn]? = some (U.notF x)) (hr : (litsF L1)[r]? = some y) (hl : r ≤ g.dn) : StrI k kw g L lev p w x Q (a + 1) (T ++ [c]) none g1 L1 p1 w1 := by
  refine ⟨h.j, h.rs, h.sm, h.dn, h.wa, h.pv, h.ml, h.m1, h.m2, h.tl, h.al, ?_, (fun c' e => by cases e), h.ex, by have := h.su; omega, h.ft⟩
  refine (h.iv.stays h.j.t.nd hx (by rw [vir_P]; simp) (show c < g1.nx by rw [h.sm.nx]; exact hcn) (show g1.gn c = false by rw [h.sm.gn]; exact hg) hy hq hr (.inl hl)).mono (fun _ => Nat.le_refl _) (fun i hi => hi.elim)

/-- .. and it leans on that literal. -/
theorem StayI.lean {c m u : Nat} {r : Nat} {v : Value} (h : StayI k kw g L lev p w x Q a T c g1 L1 p1 w1) (hx : x < 2 * kw.n) (hcn : c < g.nx) (hg : g.gn c = false) (hy : besideF g1 c x = (m : Int)) (hu : m / 2 = u) (hun : u < kw.n) (hq : (litsF L1)[g.dn]? = some (U.notF x)) (hr : (litsF L1)[r]? = some (m : Int))
    (s : St kw w2 (g1.slot (2 * kw.n + u) (g1.P (2 * kw.n + u) ++ [c]) v)) (F : FW kw.B w1 w2) : StrI k kw g L lev p w x Q (a + 1) (T ++ [c]) none (g1.slot (2 * kw.n + u) (g1.P (2 * kw.n + u) ++ [c]) v) L1 p1 w2 := by
  have hvl : vl (m : Int) = u := by unfold vl; omega
  have hPx : (g1.slot (2 * kw.n + u) (g1.P (2 * kw.n + u) ++ [c]) v).P x = g1.P x := up_ne _ _ (by omega)
  refine ⟨h.j.fw F s rfl rfl rfl rfl, h.rs.as rfl rfl rfl, h.sm.trans ⟨rfl, rfl, rfl, rfl, rfl, rfl, rfl, rfl⟩, h.dn, ⟨?_, ?_⟩, ?_, by rw [hPx]; exact h.ml, by rw [hPx]; exact h.m1, by rw [hPx]; exact h.m2, h.tl, h.al, ?_, (fun c' e => by cases e), h.ex, ?_, h.ft.trans (FT.fw F)⟩
  · rw [← h.wa.1]; exact up_ne _ _ (by omega)
  · rw [← h.wa.2]; exact up_ne _ _ (by omega)
  · rw [← h.pv]; exact up_ne _ _ (by omega)
  · rw [vir_slot _ (by omega)]
    have hP2 : (g1.vir x (T ++ [c] ++ Q.drop (a + 1))).P (2 * kw.n + u) = g1.P (2 * kw.n + u) := vir_ne _ (by omega) _
    have iv2 := h.iv.more (s := 2 * kw.n + u) (by omega) (xs := g1.P (2 * kw.n + u) ++ [c]) (fun i hi => by rw [hP2] at hi; exact List.mem_append.2 (.inl hi)) v
    refine (iv2.stays (y := (m : Int)) (r := r) h.j.t.nd hx ?_ (show c < g1.nx by rw [h.sm.nx]; exact hcn) (show g1.gn c = false by rw [h.sm.gn]; exact hg) hy hq hr (.inr ?_)).mono (fun _ => Nat.le_refl _) (fun i hi => hi.elim)
    · show c ∈ up (up g1.P x _) _ _ x
      rw [up_ne _ _ (by omega), up_same]; simp
    · rw [hvl]
      show c ∈ up (up g1.P x _) _ _ (2 * kw.n + u)
      rw [up_same]; simp
  · have := sum_slot (g := g1) hun (g1.P (2 * kw.n + u) ++ [c]) v
    simp only [List.length_append, List.length_singleton] at this
    have := h.su; omega

/-- .. or it does not hold. -/
theorem StayI.bad {c : Nat} (h : StayI k kw g L lev p w x Q a T c g1 L1 p1 w1) (hcn : c < g.nx) (hg : g.gn c = false) (hb : ∀ y ∈ g.lt c, valueF L1 y = -1) : StrI k kw g L lev p w x Q (a + 1) (T ++ [c]) (some c) g1 L1 p1 w1 := by
  refine ⟨h.j, h.rs, h.sm, h.dn, h.wa, h.pv, h.ml, h.m1, h.m2, h.tl, h.al, ?_, fun c' e => by cases e; exact ⟨hcn, hg, hb⟩, h.ex, by have := h.su; omega, h.ft⟩
  refine ⟨h.iv.rg, h.iv.fr, h.iv.wt, h.iv.sd, h.iv.nd, h.iv.pl, fun i hi hgi => ?_⟩
  by_cases e : i = c
  · exact .inl (by rw [e])
  · have e1 : dT (T ++ [c]) g.dn i = dT T g.dn i := by simp [dT, e]
    rw [e1]
    exact (h.iv.ok i hi hgi).elim (fun q => q.elim) .inr
end

end Go.Proofs.YtimfjoinjfecjaaGreat

namespace Go.Proofs.YtimfjoinjfecjaaGreat
open Go.RowKit Go.Maps
set_option linter.unusedVariables false

theorem append_pstay {w w1 : World} {ops : Array Oper} {rest : List Oper} {o : Oper} {a : Act} {Q : Exit → Act → World → Prop} (hgd : o.guard = none) (s x : Operand)
    (ho : o.op = .call { callee := .builtin .append, args := #[s, x], argTypes := #[82, 82] })
    {cb : Nat → Nat} (c : Nat) (hw : w = w1.alloc (.cells #[.pointer (some ⟨cb c, 0, none⟩)] 92)) {b off n cap m : Nat} (xs : List Nat) (hs : a.eval s = .slice (some ⟨b, off, none⟩) m cap) (own : PRow w1 cb (.slice (some ⟨b, off, none⟩) n cap) xs) (hm : m < n)
    (q : Nat) (hx : a.eval x = .slice (some ⟨q, 0, none⟩) 1 1) (hq : q = w1.heap.size)
    (h : ∀ w', Hid (PRow w' cb (.slice (some ⟨b, off, none⟩) n cap) (xs.set m c)) → Hid (w1.grownBy w' (some b)) → wpList Tryz.prog ops Q rest (a.put o.dst (.slice (some ⟨b, off, none⟩) (m + 1) cap)) w') : wpList Tryz.prog ops Q (o :: rest) a w := by
  obtain ⟨w', hr, h2, h3⟩ := run_pstay o.type c hw own hm q hq
  refine wpList_plain hgd fun K hK => ?_
  unfold Oper.wp execOp
  simp only [ho, resolve, invoke, builtin, Sem.run_bind, Sem.run_pure, Result.andThen_ok, List.map_toArray, List.map_cons, List.map_nil, hs, hx, hr]
  exact hK _ _ (h w' h2 h3)

theorem append_run {w w' : World} {ops : Array Oper} {rest : List Oper} {o : Oper} {a : Act} {Q : Exit → Act → World → Prop} {u v v' : Value} (hgd : o.guard = none) (s x : Operand)
    (ho : o.op = .call { callee := .builtin .append, args := #[s, x], argTypes := #[82, 82] }) (hs : a.eval s = v) (hx : a.eval x = u)
    (hr : ∀ ty, (Builtin.append_ #[82, 82] ty #[v, u]).run Tryz.prog w = .ok v' w') (h : wpList Tryz.prog ops Q rest (a.put o.dst v') w') : wpList Tryz.prog ops Q (o :: rest) a w := by
  refine wpList_plain hgd fun K hK => ?_
  unfold Oper.wp execOp
  simp only [ho, resolve, invoke, builtin, Sem.run_bind, Sem.run_pure, Result.andThen_ok, List.map_toArray, List.map_cons, List.map_nil, hs, hx, hr]
  exact hK _ _ h

section
variable {k : K} {kw : WK} {w w1 w2 w3 : World} {g g1 : G} {L L1 : List E} {lev : Nat} {p p1 : V} {x a c : Nat} {Q T : List Nat} {bd : Option Nat}

theorem StrI.small (h : StrI k kw g L lev p w x Q a T bd g1 L1 p1 w1) (hnx : g.nx ≤ 1000000) (hQ : Q.length ≤ 1000000) : ∀ l, l < 2 * kw.n → (g1.P l).length ≤ 1000000000000 := by
  intro l hl
  by_cases e : l = x
  · subst e; rw [h.ml]; omega
  · have h1 := h.iv.nd l hl
    rw [vir_ne _ e] at h1
    have := nodup_len h1 (h.j.s.l.sub l (by omega))
    rw [h.sm.nx] at this
    omega

theorem StrI.row {b off n cap : Nat} (h : StrI k kw g L lev p w x Q a T bd g1 L1 p1 w1) (hx : x < 2 * kw.n) (ev : g.pv x = .slice (some ⟨b, off, none⟩) n cap) : PRow w1 g.cb (.slice (some ⟨b, off, none⟩) n cap) (g1.P x) := by
  have := h.j.s.l.rw x (by omega)
  rw [h.pv, ev, h.sm.cb] at this
  exact this

theorem StrI.row2 {b off n cap : Nat} {g2 : G} (h : StrI k kw g L lev p w x Q a T bd g1 L1 p1 w1) (hx : x < 2 * kw.n) (ev : g.pv x = .slice (some ⟨b, off, none⟩) n cap) (j : J k kw w2 g2 L1 lev p1) (e2 : g2 = g1 ∨ ∃ f, (f < (g1.lt c).length ∨ g1.lt c = []) ∧ g2 = g1.from c f) : PRow w2 g.cb (.slice (some ⟨b, off, none⟩) n cap) (g1.P x) := by
  have := j.s.l.rw x (by omega)
  rcases e2 with rfl | ⟨f, _, rfl⟩
  · rw [h.pv, ev, h.sm.cb] at this; exact this
  · rw [show (g1.from c f).pv x = g1.pv x from rfl, show (g1.from c f).cb = g1.cb from rfl, h.pv, ev, h.sm.cb] at this; exact this

theorem StrI.stay2 {b off n cap : Nat} {g2 : G} (h : StrI k kw g L lev p w x Q a T none g1 L1 p1 w1) (hx : x < 2 * kw.n) (hc : Q[a]? = some c) (j : J k kw w2 g2 L1 lev p1) (F : FW kw.B w1 w2) (e2 : g2 = g1 ∨ ∃ f, (f < (g1.lt c).length ∨ g1.lt c = []) ∧ g2 = g1.from c f)
    (ev : g.pv x = .slice (some ⟨b, off, none⟩) n cap) (own : PRow w3 g.cb (.slice (some ⟨b, off, none⟩) n cap) ((g1.P x).set T.length c)) (gr : w2.grownBy w3 (some b)) :
    ∃ g3, Hid (StayI k kw g L lev p w x Q a T c g3 L1 p1 w3) ∧ Hid (∀ y, besideF g3 c y = besideF g1 c y) ∧ Hid (g3.pl = g1.pl) := by
  have q1 : g2.P = g1.P ∧ g2.pv = g1.pv ∧ g2.cb = g1.cb ∧ g2.a = g1.a ∧ g2.b = g1.b ∧ g2.pl = g1.pl := by
    rcases e2 with rfl | ⟨f, _, rfl⟩ <;> exact ⟨rfl, rfl, rfl, rfl, rfl, rfl⟩
  obtain ⟨eP, epv, ecb, ea, eb, epl⟩ := q1
  have hv2 : g2.pv x = .slice (some ⟨b, off, none⟩) n cap := by rw [epv, h.pv, ev]
  refine ⟨_, hid (h.stay hx hc j F e2 (by rw [hv2, ecb, h.sm.cb, eP]; exact own) (by rw [hv2]; exact gr)), hid (fun y => ?_), hid epl⟩
  show (if g2.a c = y then g2.b c else g2.a c) = _
  rw [ea, eb]; rfl

theorem self_or (g1 : G) (c : Nat) : g1 = g1 ∨ ∃ f, (f < (g1.lt c).length ∨ g1.lt c = []) ∧ g1 = g1.from c f := .inl rfl

theorem from_or {f : Nat} (hf : f < (g1.lt c).length ∨ g1.lt c = []) : g1.from c f = g1 ∨ ∃ f', (f' < (g1.lt c).length ∨ g1.lt c = []) ∧ g1.from c f = g1.from c f' := .inr ⟨f, hf, rfl⟩

theorem StayI.plx (h : StayI k kw g L lev p w x Q a T c g1 L1 p1 w1) (hq : (litsF L)[g.dn]? = some (U.notF x)) : g1.pl (x / 2) = g.dn := by
  have := h.iv.pl _ _ (h.ex.at hq)
  rw [vl_not (by omega)] at this
  exact this

theorem StayI.ply {m r : Nat} (h : StayI k kw g L lev p w x Q a T c g1 L1 p1 w1) (hr : (litsF L1)[r]? = some (m : Int)) : g1.pl (m / 2) = r := h.iv.pl _ _ hr

theorem StayI.leans {u : Nat} (h : StayI k kw g L lev p w x Q a T c g1 L1 p1 w1) (hsu : sumL kw.n g.P ≤ 400000000000) (ha : a < Q.length) (hQ : Q.length ≤ g.nx) (hnx : g.nx ≤ 1000000) (hu : u < kw.n) : (g1.P (2 * kw.n + u)).length ≤ 1000000000000 := by
  have := sum_le (P := g1.P) hu
  have := h.su
  omega

theorem len_last {L : List E} {e : E} : (litsF (L ++ [e]))[L.length]? = some (e.l : Int) := by
  rw [litsF_app, List.getElem?_append_right (by rw [litsF_len]; exact Nat.le_refl _), litsF_len]
  simp [litsF]

theorem len_lt {d : Nat} (h : d < L.length) (e : Ext L L1 lev) : d < L1.length := Nat.lt_of_lt_of_le h e.len

def StkEnd (k : K) (kw : WK) (g : G) (L : List E) (lev : Nat) (p : V) (w : World) (e : Ending) (w' : World) : Prop :=
  ∃ g' L' p', J k kw w' g' L' lev p' ∧ Rs g' L' ∧ Same g g' ∧ g'.dn = g.dn ∧ (g'.P (3 * kw.n) = g.P (3 * kw.n) ∧ g'.pv (3 * kw.n) = g.pv (3 * kw.n)) ∧ Ext L L' lev ∧ sumL kw.n g'.P ≤ sumL kw.n g.P + g.nx ∧ FT k kw.B p p' w w' ∧
    ((e = .returned (.pointer none) ∧ Inv kw.n g' (litsF L') (fun _ => g.dn + 1) (fun _ => False)) ∨
     ∃ c : Nat, e = .returned (.pointer (some ⟨g.cb c, 0, none⟩)) ∧ c < g.nx ∧ g.gn c = false ∧ (∀ y ∈ g.lt c, valueF L' y = -1) ∧ Inv kw.n g' (litsF L') (fun _ => g.dn) (fun i => i = c))

/-- The list is put back. -/
theorem StrI.fin {v : Value} {m' : Nat} (h : StrI k kw g L lev p w x Q a T bd g1 L1 p1 w1) (hx : x < 2 * kw.n) (hQn : Q.length ≤ g.nx) (hq : (litsF L1)[g.dn]? = some (U.notF x)) (s : St kw w2 (g1.slot x (T ++ Q.drop a) v)) (F : FW kw.B w1 w2) (hend : bd = none → a = Q.length) {e : Ending}
    (he : (bd = none ∧ e = .returned (.pointer none)) ∨ ∃ c, bd = some c ∧ e = .returned (.pointer (some ⟨g.cb c, 0, none⟩))) : StkEnd k kw g L lev p w e w2 := by
  refine ⟨_, L1, p1, h.j.fw F s rfl rfl rfl rfl, h.rs.as rfl rfl rfl, h.sm.trans ⟨rfl, rfl, rfl, rfl, rfl, rfl, rfl, rfl⟩, h.dn, ⟨?_, ?_⟩, h.ex, ?_, h.ft.trans (FT.fw F), ?_⟩
  · rw [← h.wa.1]; exact up_ne _ _ (by omega)
  · rw [← h.wa.2]; exact up_ne _ _ (by omega)
  · have : sumL kw.n (g1.slot x (T ++ Q.drop a) v).P = sumL kw.n g1.P := sum_other (.inl hx) _ v
    rw [this]; have := h.su; have := h.al; omega
  · have iv2 : Inv kw.n (g1.slot x (T ++ Q.drop a) v) (litsF L1) (dT T g.dn) (fun i => bd = some i) := h.iv.like rfl rfl rfl rfl rfl rfl rfl rfl
    rcases he with ⟨e1, e2⟩ | ⟨c, e1, e2⟩
    · refine .inl ⟨e2, ?_⟩
      have ea := hend e1
      have hT : (g1.slot x (T ++ Q.drop a) v).P x = T := by
        rw [show (g1.slot x (T ++ Q.drop a) v).P x = T ++ Q.drop a from up_same _ _ _, ea, List.drop_length, List.append_nil]
      exact (iv2.told hx hT hq).mono (fun _ => Nat.le_refl _) (fun i hi => by rw [e1] at hi; cases hi)
    · obtain ⟨b1, b2, b3⟩ := h.bd c e1
      refine .inr ⟨c, e2, b1, b2, b3, iv2.mono (fun i => ?_) (fun i hi => ?_)⟩
      · unfold dT; split <;> omega
      · rw [e1] at hi; exact (Option.some.inj hi).symm

/-- .. by three steps. -/
theorem StrI.rest {b off n cap : Nat} (h : StrI k kw g L lev p w x Q a T bd g1 L1 p1 w1) (hx : x < 2 * kw.n) (ev : g.pv x = .slice (some ⟨b, off, none⟩) n cap) (hn : n = Q.length) {M : Nat} (hM : T.length + (n - a) = M) (ad ad2 : Addr) (cp cp2 : Nat) (ha : a < n → ad = ⟨b, off + a, none⟩) (ha2 : M < n → ad2 = ⟨b, off + M, none⟩) :
    ∃ w2 w3, (∀ ty, (Builtin.append_ #[82, 82] ty #[.slice (some ⟨b, off, none⟩) T.length cap, .slice (some ad) (n - a) cp]).run Tryz.prog w1 = .ok (.slice (some ⟨b, off, none⟩) M cap) w2) ∧
      (∀ ty, (Builtin.clear_ #[82] ty #[.slice (some ad2) (n - M) cp2]).run Tryz.prog w2 = .ok (.tuple #[]) w3) ∧
      w3.cell? ⟨kw.OB, 2, none⟩ = some (.slice (some ⟨kw.WB, 0, none⟩) (2 * kw.n) (2 * kw.n)) ∧ w3.cell? ⟨kw.WB, x, none⟩ = some (.slice (some ⟨b, off, none⟩) n cap) ∧ w3.frozen? ⟨kw.WB, x, none⟩ = false ∧
      Hid (St kw (w3.setCell ⟨kw.WB, x, none⟩ (.slice (some ⟨b, off, none⟩) M cap)) (g1.slot x (T ++ Q.drop a) (.slice (some ⟨b, off, none⟩) M cap))) ∧ Hid (FW kw.B w1 (w3.setCell ⟨kw.WB, x, none⟩ (.slice (some ⟨b, off, none⟩) M cap))) := by
  subst hM
  subst hn
  have own := h.row hx ev
  have htl := h.tl
  have hal := h.al
  obtain ⟨w2, r1, o1, g1'⟩ := run_prest w1 0 own htl hal ad cp ha
  have hlen : T.length + (Q.length - a) ≤ Q.length := by omega
  obtain ⟨w3, r2, o2, g2'⟩ := run_pcut (m := T.length + (Q.length - a)) w2 0 o1 hlen ad2 cp2 ha2
  have e1 : ((g1.P x).take T.length ++ (g1.P x).drop a ++ (g1.P x).drop (T.length + (Q.length - a))).take (T.length + (Q.length - a)) = T ++ Q.drop a := by
    rw [h.m1, h.m2]
    have : (T ++ Q.drop a).length = T.length + (Q.length - a) := by simp
    rw [← this]; exact List.take_left
  rw [e1] at o2
  have hsub : ∀ i ∈ T ++ Q.drop a, i < g1.nx := fun i hi => by
    refine h.j.s.l.sub x (by omega) i ?_
    rcases List.mem_append.1 hi with q | q
    · rw [← h.m1] at q; exact List.mem_of_mem_take q
    · rw [← h.m2] at q; exact List.mem_of_mem_drop q
  have hpv : g1.pv x = .slice (some ⟨b, off, none⟩) Q.length cap := h.pv.trans ev
  obtain ⟨q0, q1, q2, s6, F6⟩ := h.j.s.setw hx hsub (by rw [h.sm.cb]; exact o2) (by rw [hpv]; exact grown_two g1' g2') (by rw [hpv]; exact fun j hj => .inl hj)
  rw [hpv] at q1
  exact ⟨w2, w3, fun ty => r1, fun ty => r2, q0, q1, q2, s6, F6⟩
end

section
variable {k : K} {kw : WK} {w : World} {g : G} {L : List E} {lev : Nat} {p : V}

set_option maxHeartbeats 4000000 in
theorem strike_row (j : J k kw w g L lev p) (iv : Inv kw.n g (litsF L) (fun _ => g.dn) (fun _ => False)) (rs : Rs g L) (x : Nat) (hx : x < 2 * kw.n) (hq : (litsF L)[g.dn]? = some (U.notF x)) (hnx : g.nx ≤ 1000000) (hsu : sumL kw.n g.P ≤ 400000000000) {b off n cap : Nat} (ev : g.pv x = .slice (some ⟨b, off, none⟩) n cap) :
    Calls Tryz.prog 78 #[.pointer (some ⟨kw.OB, 0, none⟩), .pointer (some ⟨k.OB, 0, none⟩), .int .i64 x] w fun e w' => StkEnd k kw g L lev p w e w' := by
  obtain ⟨Q, hQ⟩ : ∃ Q, g.P x = Q := ⟨_, rfl⟩
  have hn : n = Q.length ∧ n ≤ cap ∧ cap ≤ maxLen := by
    obtain ⟨_, _, e, h1, h2⟩ := (j.s.l.rw x (by omega)).shape
    rw [ev] at e; cases e
    rw [hQ] at h1 ⊢
    exact ⟨rfl, h1, h2⟩
  obtain ⟨hn, hc1, hc2⟩ := hn
  unfold maxLen at hc2
  have hc3 : (cap : Int) ≤ 9223372036854775807 := by omega
  have hQn : Q.length ≤ g.nx := by rw [← hQ]; exact nodup_len (iv.nd x hx) (j.s.l.sub x (by omega))
  have c2 := j.s.c2
  have cx := j.s.c.wc hx
  rw [ev] at cx
  have hx' : (x : Int) < 2 * kw.n := by omega
  have hkn := j.s.l.hn
  have hdl : g.dn < L.length := by have := (List.getElem?_eq_some_iff.1 hq).1; rw [litsF_len] at this; exact this
  have SI : Hid (StrI k kw g L lev p w x Q 0 [] none g L p w) := hid (by
    refine ⟨j, rs, Same.refl g, rfl, ⟨rfl, rfl⟩, rfl, by rw [hQ], by simp, by rw [hQ], by simp, by simp, ?_, (fun c e => by cases e), Ext.refl _ _, by omega, FT.refl _ _ _ _⟩
    have e1 : ([] : List Nat) ++ Q.drop 0 = g.P x := by rw [hQ]; simp
    rw [e1, vir_self]
    exact iv.mono (fun i => by simp [dT]) (fun i hi => hi.elim))
  have HQ := hid hq
  have HEV := hid ev
  have HN := hid hn
  subst hn
  clear j iv rs ev hq hQ
  go_enter Tryz.func78, Tryz.ntmps78
  go_wp2
  go_loopw [8, 9, 10, 11, 12] (fun st at_ bd _ _ wr => ∃ (a : Nat) (T : List Nat) (bdo : Option Nat) (g1 : G) (L1 : List E) (p1 : V), st = .slice (some ⟨b, off, none⟩) T.length cap ∧ at_ = .int .i64 a ∧ a ≤ Q.length ∧ ((bdo = none ∧ bd = .pointer none) ∨ ∃ c, bdo = some c ∧ bd = .pointer (some ⟨g.cb c, 0, none⟩)) ∧ Hid (StrI k kw g L lev p w x Q a T bdo g1 L1 p1 wr)) (fun _ at_ _ _ _ _ => Q.length - (intOf at_).toNat)
  case atStart => exact ⟨0, [], none, g, L, p, rfl, rfl, Nat.zero_le _, .inl ⟨rfl, rfl⟩, SI⟩
  case round =>
    clear SI c2 cx
    obtain ⟨a, T, bdo, g1, L1, p1, rfl, rfl, ha, hbd, si⟩ := hrel
    have HQ1 : Hid ((litsF L1)[g.dn]? = some (U.notF x)) := hid (si.out.ex.at HQ.out)
    have htl := si.out.tl
    rcases hbd with ⟨rfl, rfl⟩ | ⟨cbad, rfl, rfl⟩
    · by_cases hlt : a < Q.length
      · obtain ⟨c, hc⟩ : ∃ c, Q[a]? = some c := ⟨_, List.getElem?_eq_getElem hlt⟩
        have HC := hid hc
        have cc := (si.out.row hx HEV.out).at (si.out.at hc)
        have hcm1 : c ∈ g1.P x := List.mem_of_getElem? (si.out.at hc)
        have hcn1 := si.out.j.s.l.sub x (by omega) c hcm1
        have hcn : c < g.nx := by rw [← si.out.sm.nx]; exact hcn1
        have c5 := si.out.j.s.l.k5 hcn1
        rw [si.out.sm.cb, si.out.sm.gn] at c5
        have hlt' : (a : Int) < Q.length := by omega
        cases hg : g.gn c
        · rw [hg] at c5
          have hg1 : g1.gn c = false := by rw [si.out.sm.gn]; exact hg
          obtain ⟨y, hy⟩ : ∃ y, besideF g1 c x = y := ⟨_, rfl⟩
          have hmv : c ∈ (g1.vir x (T ++ Q.drop a)).P x := by rw [vir_P, drop_cons hc]; simp
          obtain ⟨y0, yx, yl, xl, _, hab⟩ := si.out.iv.two (y := y) hx hmv hcn1 hg1 hy
          obtain ⟨m, rfl⟩ := Int.eq_ofNat_of_zero_le y0
          have ry := si.out.iv.rg c hcn1 hg1 _ yl
          have hml : m < 2 * kw.n := by omega
          have hmx : (m : Int) ≤ 9223372036854775807 := by omega
          have hmu : m / 2 < kw.n := by omega
          have hxu : x / 2 < kw.n := by omega
          have HY := hid hy
          have HRG : Hid (∀ z ∈ g1.lt c, 0 ≤ z ∧ z < 2 * kw.n) := hid (fun z hz => si.out.iv.rg c hcn1 hg1 z hz)
          have HFR : Hid (g1.fr c < (g1.lt c).length ∨ g1.lt c = []) := hid (si.out.iv.fr c hcn1 hg1)
          have hd1 := len_lt hdl si.out.ex
          have hd2 : (g.dn : Int) < L1.length := by omega
          have HSM := hid (si.out.small hnx (by omega))
          have HYL : Hid ((m : Int) ∈ g.lt c) := hid (by rw [← si.out.sm.lt]; exact yl)
          have plx : Hid (g1.pl (x / 2) = g.dn) := hid (by
            have := si.out.iv.pl _ _ HQ1.out
            rw [vl_not (by omega)] at this
            exact this)
          have hTl : T.length < Q.length := by omega
          have hsu1 : sumL kw.n g1.P ≤ 500000000000 := by have := si.out.su; omega
          have ROW0 := hid (si.out.row hx HEV.out)
          clear hc hy y0 yl xl hab hmv ry hcm1
          rcases val_cases (L := L1) (m : Int) with hv | ⟨hv, _, r, hr⟩ | ⟨hv, _, _⟩
          · have HV := hid hv
            have HV0 : Hid (valueF L1 (m : Int) ≤ 0) := hid (by omega)
            clear hv
            go_wp2_with (first
              | (go_at_call 116; have T0 := move_seek si.out.j hcn1 hg1 x m HY.out hmx HRG.out HFR.out HSM.out HV0.out; rw [si.out.sm.cb] at T0; with_reducible (refine T0.mono ?_); rintro e w2 (⟨f, rfl, hno, hf, J2, F2⟩ | ⟨f, z, v, rfl, hz, J2, F2⟩); have E2 := hid (from_or hf.out); have ROW := hid (si.out.row2 hx HEV.out J2.out E2.out))
              | (at_builtin; refine append_pstay (w1 := w2) (cb := g.cb) rfl _ _ rfl c rfl (g1.P x) rfl ROW.out hTl _ rfl rfl ?_; intro w3 own3 gr3; have S3 := si.out.stay2 hx HC.out J2.out F2.out E2.out HEV.out own3.out gr3.out; obtain ⟨g3, S3, hb3, hp3⟩ := S3; have HB3 := hid ((hb3.out x).trans HY.out); have hc3 := hid (show c < g3.nx by rw [S3.out.sm.nx]; exact hcn); have hg3 := hid (show g3.gn c = false by rw [S3.out.sm.gn]; exact hg))
              | (go_at_call 117; have T0 := beside_is S3.out.j.s.l hc3.out hg3.out x m HB3.out; rw [S3.out.sm.cb] at T0; with_reducible (refine T0.mono ?_); rintro e w3 ⟨rfl, rfl⟩)
              | (go_at_call 114; have T0 := follow_new S3.out.j hc3.out hg3.out m (m / 2) rfl hmu HV.out; rw [S3.out.sm.cb] at T0; with_reducible (refine T0.mono ?_); rintro e w4 ⟨rfl, p4, J4, F4⟩; have S4 := hid (S3.out.new hdl hcn hg HYL.out rfl HV.out (fun y hy hne => hno.out y (by rw [si.out.sm.lt]; exact hy) hne) J4.out F4.out); have HP1 := hid (S4.out.ply (r := L1.length) len_last); have HP2 := hid (S4.out.plx HQ.out))
              | (go_at_call 118; have T0 := place_is S4.out.j.s m (m / 2) rfl hmu; rw [HP1.out] at T0; with_reducible (refine T0.mono ?_); rintro e w5 ⟨rfl, b5⟩; have S5 := hid (S4.out.below b5.out))
              | (go_at_call 118; have T0 := place_is S5.out.j.s x (x / 2) rfl hxu; rw [HP2.out] at T0; with_reducible (refine T0.mono ?_); rintro e w6 ⟨rfl, b6⟩; have S6 := hid (S5.out.below b6.out))
              | (go_at_call 115; have T0 := lean_is S6.out.j.s hc3.out m (m / 2) rfl hmu (S6.out.leans hsu hlt hQn hnx hmu); rw [S6.out.sm.cb] at T0; with_reducible (refine T0.mono ?_); rintro e w7 ⟨rfl, v7, s7, f7⟩))
            · have S8 := S6.out.lean hx hcn hg HB3.out rfl hmu (S6.out.ex.at HQ.out) len_last s7.out f7.out
              refine ⟨⟨a + 1, T ++ [c], none, _, _, _, by simp, by go_num, by omega, .inl ⟨rfl, rfl⟩, hid S8⟩, by simp only [intOf]; omega⟩
            · have S8 := si.out.moved hx HC.out hcn hg HY.out HQ1.out hz.out J2.out F2.out
              refine ⟨⟨a + 1, T, none, _, _, _, rfl, by go_num, by omega, .inl ⟨rfl, rfl⟩, hid S8⟩, by simp only [intOf]; omega⟩
          · have HV := hid hv
            have HR := hid hr
            clear hv hr
            by_cases hrd : g.dn < r
            · have hrd' : (g.dn : Int) < r := by omega
              go_wp2_with (first
                | (go_at_call 116; have T0 := move_held si.out.j hcn1 hg1 x m HY.out hmx HRG.out HFR.out HSM.out HV.out; rw [si.out.sm.cb] at T0; with_reducible (refine T0.mono ?_); rintro e w2 ⟨rfl, b2⟩; have J2 := hid (si.out.j.below b2.out); have ROW := hid (si.out.row2 hx HEV.out J2.out (self_or g1 c)))
                | (at_builtin; refine append_pstay (w1 := w2) (cb := g.cb) rfl _ _ rfl c rfl (g1.P x) rfl ROW.out hTl _ rfl rfl ?_; intro w3 own3 gr3; have S3 := si.out.stay2 hx HC.out J2.out (FW.below b2.out) (self_or g1 c) HEV.out own3.out gr3.out; obtain ⟨g3, S3, hb3, hp3⟩ := S3; have HB3 := hid ((hb3.out x).trans HY.out); have hc3 := hid (show c < g3.nx by rw [S3.out.sm.nx]; exact hcn); have hg3 := hid (show g3.gn c = false by rw [S3.out.sm.gn]; exact hg))
                | (go_at_call 117; have T0 := beside_is S3.out.j.s.l hc3.out hg3.out x m HB3.out; rw [S3.out.sm.cb] at T0; with_reducible (refine T0.mono ?_); rintro e w3 ⟨rfl, rfl⟩)
                | (go_at_call 114; have T0 := follow_held S3.out.j hc3.out (m : Int) hmx HV.out; rw [S3.out.sm.cb] at T0; with_reducible (refine T0.mono ?_); rintro e w4 ⟨rfl, b4⟩; have S4 := hid (S3.out.below b4.out); have HP1 := hid (S4.out.ply HR.out); have HP2 := hid (S4.out.plx HQ.out))
                | (go_at_call 118; have T0 := place_is S4.out.j.s m (m / 2) rfl hmu; rw [HP1.out] at T0; with_reducible (refine T0.mono ?_); rintro e w5 ⟨rfl, b5⟩; have S5 := hid (S4.out.below b5.out))
                | (go_at_call 118; have T0 := place_is S5.out.j.s x (x / 2) rfl hxu; rw [HP2.out] at T0; with_reducible (refine T0.mono ?_); rintro e w6 ⟨rfl, b6⟩; have S6 := hid (S5.out.below b6.out))
                | (go_at_call 115; have T0 := lean_is S6.out.j.s hc3.out m (m / 2) rfl hmu (S6.out.leans hsu hlt hQn hnx hmu); rw [S6.out.sm.cb] at T0; with_reducible (refine T0.mono ?_); rintro e w7 ⟨rfl, v7, s7, f7⟩))
              have S8 := S6.out.lean hx hcn hg HB3.out rfl hmu (S6.out.ex.at HQ.out) HR.out s7.out f7.out
              refine ⟨⟨a + 1, T ++ [c], none, _, _, _, by simp, by go_num, by omega, .inl ⟨rfl, rfl⟩, hid S8⟩, by simp only [intOf]; omega⟩
            · have hrd' : ¬ (g.dn : Int) < r := by omega
              have hrdd : decide (g.dn < r) = false := by simpa using hrd
              go_wp2_with (first
                | (go_at_call 116; have T0 := move_held si.out.j hcn1 hg1 x m HY.out hmx HRG.out HFR.out HSM.out HV.out; rw [si.out.sm.cb] at T0; with_reducible (refine T0.mono ?_); rintro e w2 ⟨rfl, b2⟩; have J2 := hid (si.out.j.below b2.out); have ROW := hid (si.out.row2 hx HEV.out J2.out (self_or g1 c)))
                | (at_builtin; refine append_pstay (w1 := w2) (cb := g.cb) rfl _ _ rfl c rfl (g1.P x) rfl ROW.out hTl _ rfl rfl ?_; intro w3 own3 gr3; have S3 := si.out.stay2 hx HC.out J2.out (FW.below b2.out) (self_or g1 c) HEV.out own3.out gr3.out; obtain ⟨g3, S3, hb3, hp3⟩ := S3; have HB3 := hid ((hb3.out x).trans HY.out); have hc3 := hid (show c < g3.nx by rw [S3.out.sm.nx]; exact hcn); have hg3 := hid (show g3.gn c = false by rw [S3.out.sm.gn]; exact hg))
                | (go_at_call 117; have T0 := beside_is S3.out.j.s.l hc3.out hg3.out x m HB3.out; rw [S3.out.sm.cb] at T0; with_reducible (refine T0.mono ?_); rintro e w3 ⟨rfl, rfl⟩)
                | (go_at_call 114; have T0 := follow_held S3.out.j hc3.out (m : Int) hmx HV.out; rw [S3.out.sm.cb] at T0; with_reducible (refine T0.mono ?_); rintro e w4 ⟨rfl, b4⟩; have S4 := hid (S3.out.below b4.out); have HP1 := hid (S4.out.ply HR.out); have HP2 := hid (S4.out.plx HQ.out))
                | (go_at_call 118; have T0 := place_is S4.out.j.s m (m / 2) rfl hmu; rw [HP1.out] at T0; with_reducible (refine T0.mono ?_); rintro e w5 ⟨rfl, b5⟩; have S5 := hid (S4.out.below b5.out))
                | (go_at_call 118; have T0 := place_is S5.out.j.s x (x / 2) rfl hxu; rw [HP2.out] at T0; with_reducible (refine T0.mono ?_); rintro e w6 ⟨rfl, b6⟩; have S6 := hid (S5.out.below b6.out)))
              have S8 := S6.out.done hx hcn hg HB3.out (S6.out.ex.at HQ.out) HR.out (by omega)
              refine ⟨⟨a + 1, T ++ [c], none, _, _, _, by simp, by go_num, by omega, .inl ⟨rfl, rfl⟩, hid S8⟩, by simp only [intOf]; omega⟩
          · have HV := hid hv
            have HV0 : Hid (valueF L1 (m : Int) ≤ 0) := hid (by omega)
            clear hv
            go_wp2_with (first
              | (go_at_call 116; have T0 := move_seek si.out.j hcn1 hg1 x m HY.out hmx HRG.out HFR.out HSM.out HV0.out; rw [si.out.sm.cb] at T0; with_reducible (refine T0.mono ?_); rintro e w2 (⟨f, rfl, hno, hf, J2, F2⟩ | ⟨f, z, v, rfl, hz, J2, F2⟩); have E2 := hid (from_or hf.out); have ROW := hid (si.out.row2 hx HEV.out J2.out E2.out))
              | (at_builtin; refine append_pstay (w1 := w2) (cb := g.cb) rfl _ _ rfl c rfl (g1.P x) rfl ROW.out hTl _ rfl rfl ?_; intro w3 own3 gr3; have S3 := si.out.stay2 hx HC.out J2.out F2.out E2.out HEV.out own3.out gr3.out; obtain ⟨g3, S3, hb3, hp3⟩ := S3; have HB3 := hid ((hb3.out x).trans HY.out); have hc3 := hid (show c < g3.nx by rw [S3.out.sm.nx]; exact hcn); have hg3 := hid (show g3.gn c = false by rw [S3.out.sm.gn]; exact hg))
              | (go_at_call 117; have T0 := beside_is S3.out.j.s.l hc3.out hg3.out x m HB3.out; rw [S3.out.sm.cb] at T0; with_reducible (refine T0.mono ?_); rintro e w3 ⟨rfl, rfl⟩)
              | (go_at_call 114; have T0 := follow_no S3.out.j hc3.out (m : Int) hmx HV.out; rw [S3.out.sm.cb] at T0; with_reducible (refine T0.mono ?_); rintro e w4 ⟨rfl, b4⟩; have S4 := hid (S3.out.below b4.out)))
            · have S8 := S4.out.bad hcn hg (fun y hy => by
                by_cases e : y = m
                · rw [e]; exact HV.out
                · exact (val_neg (hno.out y (by rw [si.out.sm.lt]; exact hy) e)).1)
              refine ⟨⟨a + 1, T ++ [c], some c, _, _, _, by simp, by go_num, by omega, .inr ⟨c, rfl, rfl⟩, hid S8⟩, by simp only [intOf]; omega⟩
            · have S8 := si.out.moved hx HC.out hcn hg HY.out HQ1.out hz.out J2.out F2.out
              refine ⟨⟨a + 1, T, none, _, _, _, rfl, by go_num, by omega, .inl ⟨rfl, rfl⟩, hid S8⟩, by simp only [intOf]; omega⟩
        · rw [hg] at c5
          have S8 := hid (si.out.gone hx hc hg)
          clear hc
          go_wp2
          refine ⟨⟨a + 1, T, none, _, _, _, rfl, by go_num, by omega, .inl ⟨rfl, rfl⟩, S8⟩, by simp only [intOf]; omega⟩
      · obtain ⟨M, hM⟩ : ∃ M, T.length + (Q.length - a) = M := ⟨_, rfl⟩
        have HM := hid hM
        have hMl : M ≤ Q.length := by omega
        have hi1 : (a : Int) ≤ Q.length := by omega
        have hi2 : (a : Int) ≤ cap := by omega
        have hi3 : (M : Int) ≤ Q.length := by omega
        have hi4 : (M : Int) ≤ cap := by omega
        by_cases h1 : cap = a
        · subst h1
          by_cases h2 : cap = M
          · subst h2
            obtain ⟨w2, w3, r1, r2, q0, q1, q2, s6, F6⟩ := si.out.rest hx HEV.out rfl hM ⟨b, off, none⟩ ⟨b, off, none⟩ 0 0 (fun h => by omega) (fun h => by omega)
            have hz : Q.length - cap = 0 := by omega
            rw [hz] at r1 r2
            clear hM hMl hz
            have R1 := hid r1
            clear r1
            go_wp2_with (at_builtin; refine append_run rfl _ _ rfl rfl rfl R1.out ?_)
            all_goals go_ret
            all_goals exact si.out.fin (m' := 0) hx hQn HQ1.out s6.out F6.out (fun _ => by omega) (.inl ⟨rfl, rfl⟩)
          · obtain ⟨w2, w3, r1, r2, q0, q1, q2, s6, F6⟩ := si.out.rest hx HEV.out rfl hM ⟨b, off, none⟩ ⟨b, off + M, none⟩ 0 (cap - M) (fun h => by omega) (fun h => rfl)
            have hz : Q.length - cap = 0 := by omega
            rw [hz] at r1
            clear hM hMl hz
            have R1 := hid r1
            clear r1
            go_wp2_with (at_builtin; refine append_run rfl _ _ rfl rfl rfl R1.out ?_)
            all_goals go_ret
            all_goals exact si.out.fin (m' := 0) hx hQn HQ1.out s6.out F6.out (fun _ => by omega) (.inl ⟨rfl, rfl⟩)
        · by_cases h2 : cap = M
          · exfalso; omega
          · obtain ⟨w2, w3, r1, r2, q0, q1, q2, s6, F6⟩ := si.out.rest hx HEV.out rfl hM ⟨b, off + a, none⟩ ⟨b, off + M, none⟩ (cap - a) (cap - M) (fun h => rfl) (fun h => rfl)
            clear hM hMl
            have R1 := hid r1
            clear r1
            go_wp2_with (at_builtin; refine append_run rfl _ _ rfl rfl rfl R1.out ?_)
            all_goals go_ret
            all_goals exact si.out.fin (m' := 0) hx hQn HQ1.out s6.out F6.out (fun _ => by omega) (.inl ⟨rfl, rfl⟩)
    · obtain ⟨M, hM⟩ : ∃ M, T.length + (Q.length - a) = M := ⟨_, rfl⟩
      have HM := hid hM
      have hMl : M ≤ Q.length := by omega
      have hi1 : (a : Int) ≤ Q.length := by omega
      have hi2 : (a : Int) ≤ cap := by omega
      have hi3 : (M : Int) ≤ Q.length := by omega
      have hi4 : (M : Int) ≤ cap := by omega
      by_cases h1 : cap = a
      · subst h1
        by_cases h2 : cap = M
        · subst h2
          obtain ⟨w2, w3, r1, r2, q0, q1, q2, s6, F6⟩ := si.out.rest hx HEV.out rfl hM ⟨b, off, none⟩ ⟨b, off, none⟩ 0 0 (fun h => by omega) (fun h => by omega)
          have hz : Q.length - cap = 0 := by omega
          rw [hz] at r1 r2
          clear hM hMl hz
          have R1 := hid r1
          clear r1
          go_wp2_with (at_builtin; refine append_run rfl _ _ rfl rfl rfl R1.out ?_)
          all_goals go_ret
          all_goals exact si.out.fin (m' := 0) hx hQn HQ1.out s6.out F6.out (fun h => by cases h) (.inr ⟨cbad, rfl, rfl⟩)
        · obtain ⟨w2, w3, r1, r2, q0, q1, q2, s6, F6⟩ := si.out.rest hx HEV.out rfl hM ⟨b, off, none⟩ ⟨b, off + M, none⟩ 0 (cap - M) (fun h => by omega) (fun h => rfl)
          have hz : Q.length - cap = 0 := by omega
          rw [hz] at r1
          clear hM hMl hz
          have R1 := hid r1
          clear r1
          go_wp2_with (at_builtin; refine append_run rfl _ _ rfl rfl rfl R1.out ?_)
          all_goals go_ret
          all_goals exact si.out.fin (m' := 0) hx hQn HQ1.out s6.out F6.out (fun h => by cases h) (.inr ⟨cbad, rfl, rfl⟩)
      · by_cases h2 : cap = M
        · subst h2
          obtain ⟨w2, w3, r1, r2, q0, q1, q2, s6, F6⟩ := si.out.rest hx HEV.out rfl hM ⟨b, off + a, none⟩ ⟨b, off, none⟩ (cap - a) 0 (fun h => rfl) (fun h => by omega)
          have hz : Q.length - cap = 0 := by omega
          rw [hz] at r2
          clear hM hMl hz
          have R1 := hid r1
          clear r1
          go_wp2_with (at_builtin; refine append_run rfl _ _ rfl rfl rfl R1.out ?_)
          all_goals go_ret
          all_goals exact si.out.fin (m' := 0) hx hQn HQ1.out s6.out F6.out (fun h => by cases h) (.inr ⟨cbad, rfl, rfl⟩)
        · obtain ⟨w2, w3, r1, r2, q0, q1, q2, s6, F6⟩ := si.out.rest hx HEV.out rfl hM ⟨b, off + a, none⟩ ⟨b, off + M, none⟩ (cap - a) (cap - M) (fun h => rfl) (fun h => rfl)
          clear hM hMl
          have R1 := hid r1
          clear r1
          go_wp2_with (at_builtin; refine append_run rfl _ _ rfl rfl rfl R1.out ?_)
          all_goals go_ret
          all_goals exact si.out.fin (m' := 0) hx hQn HQ1.out s6.out F6.out (fun h => by cases h) (.inr ⟨cbad, rfl, rfl⟩)

theorem strike_nil (j : J k kw w g L lev p) (iv : Inv kw.n g (litsF L) (fun _ => g.dn) (fun _ => False)) (rs : Rs g L) (x : Nat) (hx : x < 2 * kw.n) (hq : (litsF L)[g.dn]? = some (U.notF x)) (ev : g.pv x = .slice none 0 0) (hP : g.P x = []) :
    Calls Tryz.prog 78 #[.pointer (some ⟨kw.OB, 0, none⟩), .pointer (some ⟨k.OB, 0, none⟩), .int .i64 x] w fun e w' => StkEnd k kw g L lev p w e w' := by
  have c2 := j.s.c2
  have cx := j.s.c.wc hx
  have fx := j.s.c.wf x
  rw [ev] at cx
  have hx' : (x : Int) < 2 * kw.n := by omega
  have hkn := j.s.l.hn
  have own : PRow w g.cb (.slice none 0 0) [] := .inl ⟨rfl, rfl⟩
  have r1 : ∀ ty, (Builtin.append_ #[82, 82] ty #[.slice none 0 0, .slice none 0 0]).run Tryz.prog w = .ok (.slice none 0 0) w := fun ty => run_pnone w ty own
  have r2 := run_clear0 w 0 none 0
  obtain ⟨q0, q1, q2, s6, F6⟩ := j.s.setw hx (zs := []) (fun i hi => by simp at hi) own (by rw [ev]; exact ⟨rfl, rfl, rfl, Nat.le_refl _, fun _ _ _ => rfl⟩) (fun j hj => by simp [Value.ownBlock] at hj)
  have HE : Hid (StkEnd k kw g L lev p w (.returned (.pointer none)) (w.setCell ⟨kw.WB, x, none⟩ (.slice none 0 0))) := hid (by
    refine ⟨_, L, p, j.fw F6.out s6.out rfl rfl rfl rfl, rs.as rfl rfl rfl, ⟨rfl, rfl, rfl, rfl, rfl, rfl, rfl, rfl⟩, rfl, ⟨up_ne _ _ (by omega), up_ne _ _ (by omega)⟩, Ext.refl _ _, ?_, FT.fw F6.out, .inl ⟨rfl, ?_⟩⟩
    · have : sumL kw.n (g.slot x [] (.slice none 0 0)).P = sumL kw.n g.P := sum_other (.inl hx) _ (.slice none 0 0)
      rw [this]; omega
    · have iv2 : Inv kw.n (g.slot x [] (.slice none 0 0)) (litsF L) (dT [] g.dn) (fun _ => False) := by
        refine Inv.like (g := g) (iv.mono (fun i => by simp [dT]) (fun i hi => hi)) rfl rfl rfl rfl rfl rfl ?_ rfl
        show up g.P x [] = g.P
        rw [← hP]; exact up_self _ _
      exact iv2.told hx (up_same _ _ _) hq)
  have R1 := hid r1
  clear j iv rs ev hq hP own r1 s6 F6 q0 q1 q2
  go_enter Tryz.func78, Tryz.ntmps78
  go_wp2_with (at_builtin; refine append_run rfl _ _ rfl rfl rfl R1.out ?_)
  go_loopw [8, 9, 10, 11, 12] (fun st at_ bd _ _ wr => st = .slice none 0 0 ∧ at_ = .int .i64 0 ∧ bd = .pointer none ∧ wr = w) (fun _ _ _ _ _ _ => 0)
  case atStart => exact ⟨rfl, rfl, rfl, rfl⟩
  case round =>
    obtain ⟨rfl, rfl, rfl, rfl⟩ := hrel
    go_wp2_with (at_builtin; refine append_run rfl _ _ rfl rfl rfl R1.out ?_)
    go_ret
    exact HE.out

theorem strike_is (j : J k kw w g L lev p) (iv : Inv kw.n g (litsF L) (fun _ => g.dn) (fun _ => False)) (rs : Rs g L) (x : Nat) (hx : x < 2 * kw.n) (hq : (litsF L)[g.dn]? = some (U.notF x)) (hnx : g.nx ≤ 1000000) (hsu : sumL kw.n g.P ≤ 400000000000) :
    Calls Tryz.prog 78 #[.pointer (some ⟨kw.OB, 0, none⟩), .pointer (some ⟨k.OB, 0, none⟩), .int .i64 x] w fun e w' => StkEnd k kw g L lev p w e w' := by
  rcases j.s.l.rw x (by omega) with ⟨h1, h2⟩ | ⟨b, off, cap, cur, h1, _⟩
  · exact strike_nil j iv rs x hx hq h1 h2
  · exact strike_row j iv rs x hx hq hnx hsu h1
end

end Go.Proofs.YtimfjoinjfecjaaGreat

namespace Go.Proofs.YtimfjoinjfecjaaGreat
open Go.RowKit Go.Maps
set_option linter.unusedVariables false

/-! ### Where the literals lie -/
def litA (p : V) : Option Addr := match p.l with
  | .slice ao _ _ => ao
  | _ => none

theorem lits_det {k : K} {w : World} {L : List E} {lev : Nat} {p : V} (t : Trl k w L lev p) {m : Nat} (hm : L.length = m) : Calls Tryz.prog 50 #[.pointer (some ⟨k.OB, 0, none⟩)] w fun e w' => e = .returned (.slice (litA p) m m) ∧ w' = w := by
  subst hm
  have hl := litsF_len L
  have ha : (p.l = .slice none 0 0 ∧ litsF L = []) ∨ ∃ g n cap, p.l = .slice (some ⟨g, 0, none⟩) n cap := by
    obtain ⟨F, S, s, _⟩ := id t
    rcases s.rl with h | ⟨b, cap, cur, h, _⟩
    · exact .inl h
    · exact .inr ⟨b, _, cap, h⟩
  refine (lits_is t).mono fun e w' h => ?_
  obtain ⟨ao, rfl, h, rfl⟩ := h
  obtain ⟨h1, h2⟩ := h.out
  refine ⟨?_, rfl⟩
  have e : ao = litA p := by
    unfold litA
    rcases ha with ⟨h3, h4⟩ | ⟨g, n, cap, h3⟩
    · rw [h3] at h2 ⊢
      rcases h1 with ⟨h5, _⟩ | ⟨b, cap, cur, h5, _⟩
      · exact (Value.slice.inj h5).1
      · rw [h5] at h2; simp [Value.ownBlock] at h2
    · rw [h3] at h2 ⊢
      rcases h1 with ⟨h5, _⟩ | ⟨b, cap, cur, h5, _⟩
      · rw [h5] at h2; simp [Value.ownBlock] at h2
      · rw [(Value.slice.inj h5).1] at h2 ⊢
        simp [Value.ownBlock] at h2
        rw [h2]
  rw [e]

theorem lits_ad {k : K} {w : World} {L : List E} {lev : Nat} {p : V} (t : Trl k w L lev p) {m : Nat} (hm : L.length = m) {a : Option Addr} (ha : litA p = a) : Calls Tryz.prog 50 #[.pointer (some ⟨k.OB, 0, none⟩)] w fun e w' => e = .returned (.slice a m m) ∧ w' = w := by
  subst ha; exact lits_det t hm

/-- What a trail tells. -/
theorem Trl.told {k : K} {w : World} {L : List E} {lev : Nat} {p : V} (t : Trl k w L lev p) : Told k p w (.slice (litA p) L.length L.length) (litsF L) := by
  have hb : ∀ x ∈ litsF L, 0 ≤ x ∧ x ≤ 9223372036854775807 := fun x hx => by
    obtain ⟨r, hr⟩ := List.mem_iff_getElem?.1 hx
    obtain ⟨e, he, rfl⟩ := lits_at.1 hr
    have h1 := t.lits_lt e (List.mem_of_getElem? he)
    have h2 := t.len
    unfold vr at h1
    omega
  have hlen := t.len
  obtain ⟨F, S, s, _⟩ := t
  have hl := litsF_len L
  have hf := s.fb_lt
  have hlt := s.lt
  rcases s.rl with ⟨h1, h2⟩ | ⟨b, cap, cur, h1, h2, h3, h4, h5, h6, h7⟩
  · have hL : L.length = 0 := by rw [← hl, h2]; rfl
    have ea : litA p = none := by unfold litA; rw [h1]
    rw [ea, hL, h2]
    exact Told.nil k p w
  · have ea : litA p = some ⟨b, 0, none⟩ := by unfold litA; rw [h1]
    rw [ea]
    refine ⟨_, _, _, rfl, hl, Nat.le_refl _, by unfold maxLen; omega, (fun e => by cases e), (fun b' off e => by cases e; rfl), hb, fun j x hx => ⟨b, rfl, ?_, ⟨_, _, h3⟩, ?_, ?_, ?_, ?_⟩⟩
    · have q : LRow w (k.OB + 1) (.slice (some ⟨b, 0, none⟩) (litsF L).length cap) (litsF L) := .inr ⟨b, cap, cur, rfl, h2, h3, h4, h5, h6, h7⟩
      exact q.at hx
    · omega
    · omega
    · exact s.ne b (by rw [h1]; rfl)
    · rintro ⟨n', c', e, e1, e2⟩
      rw [h1] at e
      cases e
      have := (List.getElem?_eq_some_iff.1 hx).1
      omega

def dnOf (kw : WK) (w : World) : Nat := match w.cell? ⟨kw.OB, 6, none⟩ with
  | some (.int _ i) => i.toNat
  | _ => 0

theorem dn_of {kw : WK} {w : World} {g : G} (s : St kw w g) : dnOf kw w = g.dn := by unfold dnOf; rw [s.c6]; simp

section
variable {k : K} {kw : WK} {w w1 w2 : World} {g g1 : G} {L L1 : List E} {lev : Nat} {p p1 : V}

/-- How far it is. -/
structure SprI (k : K) (kw : WK) (g : G) (L : List E) (lev : Nat) (p : V) (w : World) (g1 : G) (L1 : List E) (p1 : V) (w1 : World) : Prop where
  j : J k kw w1 g1 L1 lev p1
  rs : Rs g1 L1
  sm : Same g g1
  wa : g1.P (3 * kw.n) = []
  iv : Inv kw.n g1 (litsF L1) (fun _ => g1.dn) (fun _ => False)
  dl : g1.dn ≤ L1.length
  ex : Ext L L1 lev
  su : sumL kw.n g1.P ≤ sumL kw.n g.P + g1.dn * g.nx
  ft : FT k kw.B p p1 w w1

theorem Inv.dn_any {n : Nat} {H : List Int} {d : Nat → Nat} {X : Nat → Prop} (h : Inv n g H d X) (e : Nat) : Inv n { g with dn := e } H d X := h.like rfl rfl rfl rfl rfl rfl rfl rfl

theorem SprI.len (h : SprI k kw g L lev p w g1 L1 p1 w1) : L1.length ≤ kw.n := by have := h.j.t.len; have := h.j.n; omega

theorem SprI.below (h : SprI k kw g L lev p w g1 L1 p1 w1) (b : Below w1.heap.size w1 w2) : SprI k kw g L lev p w g1 L1 p1 w2 :=
  ⟨h.j.below b, h.rs, h.sm, h.wa, h.iv, h.dl, h.ex, h.su, h.ft.trans (FT.below b)⟩

theorem SprI.next {g2 : G} {L2 : List E} {p2 : V} (h : SprI k kw g L lev p w g1 L1 p1 w1) (hdl : g1.dn < L1.length) (j : J k kw w2 g2 L2 lev p2) (rs : Rs g2 L2) (sm : Same g1 g2) (dn : g2.dn = g1.dn) (wa : g2.P (3 * kw.n) = g1.P (3 * kw.n)) (ex : Ext L1 L2 lev) (su : sumL kw.n g2.P ≤ sumL kw.n g1.P + g1.nx) (ft : FT k kw.B p1 p2 w1 w2)
    (iv : Inv kw.n g2 (litsF L2) (fun _ => g1.dn + 1) (fun _ => False)) : SprI k kw g L lev p w { g2 with dn := g2.dn + 1 } L2 p2 (w2.setCell ⟨kw.OB, 6, none⟩ (.int .i64 ((g2.dn + 1 : Nat) : Int))) := by
  have s6 := j.s.putd (g2.dn + 1)
  have F6 : FW kw.B w2 (w2.setCell ⟨kw.OB, 6, none⟩ (.int .i64 ((g2.dn + 1 : Nat) : Int))) := FW.grown (grown_set w2 ⟨kw.OB, 6, none⟩ _) (fun i T e t => by cases e; rw [t.one ⟨_, _, j.s.c.ob⟩]; simp [Wt]) (fun i e => by cases e; exact j.s.c.lo.1)
  refine ⟨j.fw F6 s6 rfl rfl rfl rfl, rs.as rfl rfl rfl, (h.sm.trans sm).trans ⟨rfl, rfl, rfl, rfl, rfl, rfl, rfl, rfl⟩, wa.trans h.wa, ?_, ?_, h.ex.trans ex, ?_, (h.ft.trans ft).trans (FT.fw F6)⟩
  · have := iv.dn_any (g2.dn + 1)
    rw [← dn] at this
    exact this
  · show g2.dn + 1 ≤ L2.length
    have := ex.len
    omega
  · show sumL kw.n g2.P ≤ sumL kw.n g.P + (g2.dn + 1) * g.nx
    have h1 := h.su
    rw [h.sm.nx] at su
    rw [dn, Nat.add_mul]
    omega

def SpEnd (k : K) (kw : WK) (g : G) (L : List E) (lev : Nat) (p : V) (w : World) (e : Ending) (w' : World) : Prop :=
  ∃ g' L' p', Mv k kw g L lev p w (kw.n * g.nx + 1) g' L' p' w' ∧ g'.dn ≤ L'.length ∧
    ((e = .returned (.pointer none) ∧ g'.dn = L'.length ∧ Inv kw.n g' (litsF L') (fun _ => g'.dn) (fun _ => False) ∧ g'.P (3 * kw.n) = []) ∨
     ∃ c : Nat, e = .returned (.pointer (some ⟨g.cb c, 0, none⟩)) ∧ c < g.nx ∧ g.gn c = false ∧ (∀ y ∈ g.lt c, valueF L' y = -1) ∧ Inv kw.n g' (litsF L') (fun _ => g'.dn) (fun i => i ∈ g'.P (3 * kw.n)))

theorem SprI.mv (h : SprI k kw g L lev p w g1 L1 p1 w1) : Mv k kw g L lev p w (kw.n * g.nx + 1) g1 L1 p1 w1 := by
  refine ⟨h.j, h.rs, h.sm, h.ex, ?_, h.ft⟩
  have h1 := h.su
  have h2 := h.len
  have h3 := h.dl
  have h4 : g1.dn * g.nx ≤ kw.n * g.nx := Nat.mul_le_mul_right _ (by omega)
  unfold tot
  rw [h.wa]
  simp only [List.length_nil]
  omega

/-- One that does not hold waits. -/
theorem SprI.bad {g2 : G} {L2 : List E} {p2 : V} {c : Nat} {v : Value} {w3 : World} (h : SprI k kw g L lev p w g1 L1 p1 w1) (hdl : g1.dn < L1.length) (j : J k kw w2 g2 L2 lev p2) (rs : Rs g2 L2) (sm : Same g1 g2) (dn : g2.dn = g1.dn) (ex : Ext L1 L2 lev) (su : sumL kw.n g2.P ≤ sumL kw.n g1.P + g1.nx) (ft : FT k kw.B p1 p2 w1 w2)
    (iv : Inv kw.n g2 (litsF L2) (fun _ => g1.dn) (fun i => i = c)) (s : St kw w3 (g2.slot (3 * kw.n) [c] v)) (F : FW kw.B w2 w3) :
    Mv k kw g L lev p w (kw.n * g.nx + 1) (g2.slot (3 * kw.n) [c] v) L2 p2 w3 ∧ g2.dn ≤ L2.length ∧ Inv kw.n (g2.slot (3 * kw.n) [c] v) (litsF L2) (fun _ => (g2.slot (3 * kw.n) [c] v).dn) (fun i => i ∈ (g2.slot (3 * kw.n) [c] v).P (3 * kw.n)) := by
  have hP : (g2.slot (3 * kw.n) [c] v).P (3 * kw.n) = [c] := up_same _ _ _
  refine ⟨⟨j.fw F s rfl rfl rfl rfl, rs.as rfl rfl rfl, (h.sm.trans sm).trans ⟨rfl, rfl, rfl, rfl, rfl, rfl, rfl, rfl⟩, h.ex.trans ex, ?_, (h.ft.trans ft).trans (FT.fw F)⟩, ?_, ?_⟩
  · unfold tot
    rw [hP, show sumL kw.n (g2.slot (3 * kw.n) [c] v).P = sumL kw.n g2.P from sum_other (.inr (Nat.le_refl _)) _ v]
    have h1 := h.su
    have h2 := h.len
    rw [h.sm.nx] at su
    have h4 : (g1.dn + 1) * g.nx ≤ kw.n * g.nx := Nat.mul_le_mul_right _ (by omega)
    rw [Nat.add_mul] at h4
    simp only [List.length_singleton]
    omega
  · have := ex.len; omega
  · refine (iv.wait [c] v).mono (fun _ => ?_) (fun i hi => by rw [hP, hi]; simp)
    show g2.dn ≤ g1.dn
    omega

theorem StkEnd.out {e : Ending} (h : StkEnd k kw g L lev p w e w1) :
    (∃ g' L' p', e = .returned (.pointer none) ∧ Hid (J k kw w1 g' L' lev p' ∧ Rs g' L' ∧ Same g g' ∧ g'.dn = g.dn ∧ (g'.P (3 * kw.n) = g.P (3 * kw.n) ∧ g'.pv (3 * kw.n) = g.pv (3 * kw.n)) ∧ Ext L L' lev ∧ sumL kw.n g'.P ≤ sumL kw.n g.P + g.nx ∧ FT k kw.B p p' w w1 ∧ Inv kw.n g' (litsF L') (fun _ => g.dn + 1) (fun _ => False))) ∨
    (∃ g' L' p' c, e = .returned (.pointer (some ⟨g.cb c, 0, none⟩)) ∧ Hid (J k kw w1 g' L' lev p' ∧ Rs g' L' ∧ Same g g' ∧ g'.dn = g.dn ∧ (g'.P (3 * kw.n) = g.P (3 * kw.n) ∧ g'.pv (3 * kw.n) = g.pv (3 * kw.n)) ∧ Ext L L' lev ∧ sumL kw.n g'.P ≤ sumL kw.n g.P + g.nx ∧ FT k kw.B p p' w w1 ∧ Inv kw.n g' (litsF L') (fun _ => g.dn) (fun i => i = c)) ∧ Hid (c < g.nx ∧ g.gn c = false ∧ ∀ y ∈ g.lt c, valueF L' y = -1)) := by
  obtain ⟨g', L', p', h1, h2, h3, h4, h5, h6, h7, h8, h9⟩ := h
  rcases h9 with ⟨e1, h9⟩ | ⟨c, e1, c1, c2, c3, h9⟩
  · exact .inl ⟨g', L', p', e1, h1, h2, h3, h4, h5, h6, h7, h8, h9⟩
  · exact .inr ⟨g', L', p', c, e1, ⟨h1, h2, h3, h4, h5, h6, h7, h8, h9⟩, c1, c2, c3⟩

theorem spr_row {g' : G} {L' : List E} {p' : V} {X : Nat → Prop} {d : Nat → Nat} {a : Option Addr} {n c : Nat} (h : J k kw w1 g' L' lev p' ∧ Rs g' L' ∧ Same g g' ∧ g'.dn = g.dn ∧ (g'.P (3 * kw.n) = g.P (3 * kw.n) ∧ g'.pv (3 * kw.n) = g.pv (3 * kw.n)) ∧ Ext L L' lev ∧ sumL kw.n g'.P ≤ sumL kw.n g.P + g.nx ∧ FT k kw.B p p' w w1 ∧ Inv kw.n g' (litsF L') d X) (hw : g.P (3 * kw.n) = []) (hv : g.pv (3 * kw.n) = .slice a n c) : PRow w1 g.cb (.slice a n c) [] := by
  have := h.1.s.l.rw (3 * kw.n) (Nat.le_refl _)
  rw [h.2.2.2.2.1.1, h.2.2.2.2.1.2, hw, hv, h.2.2.1.cb] at this
  exact this

theorem spr_push {g' : G} {L' : List E} {p' : V} {X : Nat → Prop} {d : Nat → Nat} {a : Option Addr} {n c i : Nat} {v : Value} (h : J k kw w1 g' L' lev p' ∧ Rs g' L' ∧ Same g g' ∧ g'.dn = g.dn ∧ (g'.P (3 * kw.n) = g.P (3 * kw.n) ∧ g'.pv (3 * kw.n) = g.pv (3 * kw.n)) ∧ Ext L L' lev ∧ sumL kw.n g'.P ≤ sumL kw.n g.P + g.nx ∧ FT k kw.B p p' w w1 ∧ Inv kw.n g' (litsF L') d X) (hv : g.pv (3 * kw.n) = .slice a n c) (hi : i < g.nx ∧ g.gn i = false ∧ ∀ y ∈ g.lt i, valueF L' y = -1)
    (own : PRow w2 g.cb v ([] ++ [i])) (gr : w1.grownBy w2 (Value.slice a n c).ownBlock) (nw : Nw w1 (.slice a n c) v) :
    w2.cell? ⟨kw.OB, 4, none⟩ = some (.slice a n c) ∧ w2.frozen? ⟨kw.OB, 4, none⟩ = false ∧ Hid (St kw (w2.setCell ⟨kw.OB, 4, none⟩ v) (g'.slot (3 * kw.n) [i] v)) ∧ Hid (FW kw.B w1 (w2.setCell ⟨kw.OB, 4, none⟩ v)) := by
  have hv' := h.2.2.2.2.1.2.trans hv
  have := h.1.s.pusha (zs := [i]) (fun q hq => by rw [List.mem_singleton] at hq; rw [hq, h.2.2.1.nx]; exact hi.1) (by rw [h.2.2.1.cb]; exact own) (by rw [hv']; exact gr) (by rw [hv']; exact nw)
  rw [hv'] at this
  exact this

set_option maxHeartbeats 4000000 in
theorem spread_is (j : J k kw w g L lev p) (iv : Inv kw.n g (litsF L) (fun _ => g.dn) (fun _ => False)) (rs : Rs g L) (hwa : g.P (3 * kw.n) = []) (hd : g.dn ≤ L.length) (hnx : g.nx ≤ 1000000) (hsu : sumL kw.n g.P + kw.n * g.nx ≤ 400000000000) :
    Calls Tryz.prog 49 #[.pointer (some ⟨kw.OB, 0, none⟩), .pointer (some ⟨k.OB, 0, none⟩)] w fun e w' => SpEnd k kw g L lev p w e w' := by
  have SI : Hid (SprI k kw g L lev p w g L p w) := hid ⟨j, rs, Same.refl g, hwa, iv, hd, Ext.refl _ _, by omega, FT.refl _ _ _ _⟩
  have hkn := j.s.l.hn
  have hnn := j.n
  clear j iv rs
  go_enter Tryz.func49, Tryz.ntmps49
  go_wp2
  go_loopw [5, 6] (fun _ _ wr => ∃ (g1 : G) (L1 : List E) (p1 : V), Hid (SprI k kw g L lev p w g1 L1 p1 wr)) (fun _ _ wr => kw.n + 1 - dnOf kw wr)
  case atStart => exact ⟨g, L, p, SI⟩
  case round =>
    clear SI
    obtain ⟨g1, L1, p1, si⟩ := hrel
    have c6 := si.out.j.s.c6
    have hll := si.out.len
    have hdl := si.out.dl
    have hd63 : (g1.dn : Int) + 1 ≤ 9223372036854775807 := by omega
    by_cases hlt : g1.dn < L1.length
    · have hlt' : (g1.dn : Int) < L1.length := by omega
      obtain ⟨l, hl⟩ : ∃ l, (litsF L1)[g1.dn]? = some l := ⟨_, List.getElem?_eq_getElem (by rw [litsF_len]; exact hlt)⟩
      obtain ⟨ee, hee, rfl⟩ := lits_at.1 hl
      obtain ⟨m, hm⟩ : ∃ m, ee.l = m := ⟨_, rfl⟩
      rw [hm] at hl
      have hmn : m / 2 < kw.n := by
        have := si.out.j.t.lits_lt ee (List.mem_of_getElem? hee)
        unfold vr at this
        rw [hm] at this
        omega
      have rowt := (si.out.j.t.told).row
      obtain ⟨b, off, y, ea, hcc, hy, _, _⟩ := rowt.at hlt
      have hym : y = (m : Int) := by have := hy.out; rw [hl] at this; exact (Option.some.inj this).symm
      subst hym
      have hoff : off = 0 := by
        obtain ⟨ao, n', c', e', _, _, _, _, q, _⟩ := si.out.j.t.told
        cases e'
        exact q b off ea
      subst hoff
      rw [Nat.zero_add] at hcc
      have HEA := hid ea
      have hmx : (m : Int) ≤ 9223372036854775807 := by omega
      obtain ⟨x, hx⟩ : ∃ x : Nat, U.notF (m : Int) = x := by
        have := U.not_pos (x := (m : Int)) (by omega)
        exact ⟨(U.notF (m : Int)).toNat, by omega⟩
      have HX := hid hx
      have hxl : x < 2 * kw.n := by
        have h1 := vl_not (x := (m : Int)) (by omega)
        rw [hx] at h1
        unfold vl at h1
        omega
      have HQX : Hid ((litsF L1)[g1.dn]? = some (U.notF x)) := hid (by
        rw [hl, ← hx, U.not_not (by omega)])
      have hn1 : Hid (g1.nx ≤ 1000000) := hid (by rw [si.out.sm.nx]; exact hnx)
      have hs1 : Hid (sumL kw.n g1.P ≤ 400000000000) := hid (by
        have h1 := si.out.su
        have h4 : g1.dn * g.nx ≤ kw.n * g.nx := Nat.mul_le_mul_right _ (by omega)
        omega)
      have HLEN := hid (rfl : L1.length = L1.length)
      clear hl hee hm hx rowt hy
      have TN : ∀ n, Trl k (wr.drewN n) L1 lev p1 := fun n => si.out.j.t.below (drewN_any _ wr n)
      have TNN := hid TN
      clear TN
      go_wp2
      go_quiet ((go_at_call 50; with_reducible (refine (lits_ad (TNN.out _) rfl HEA.out).mono ?_); rintro e w1 ⟨rfl, rfl⟩; exact ⟨rfl, _, rfl⟩))
      have S1 := hid (si.out.below (drewN_any _ wr nq))
      have hcc1 := (World.cell?_of_block (w' := wr.drewN nq) (w := wr) (a := ⟨b, g1.dn, none⟩) rfl).trans hcc
      have hdq : Hid (dnOf kw wr = g1.dn) := hid (dn_of si.out.j.s)
      revert S1 hcc1
      generalize wr.drewN nq = wq
      intro S1 hcc1
      clear TNN si c6 hcc
      have c6 := S1.out.j.s.c6
      have TN : ∀ n, Trl k (wq.drewN n) L1 lev p1 := fun n => S1.out.j.t.below (drewN_any _ wq n)
      have TNN := hid TN
      clear TN
      go_wp2
      go_quiet ((go_at_call 50; with_reducible (refine (lits_ad (TNN.out _) rfl HEA.out).mono ?_); rintro e w1 ⟨rfl, rfl⟩; exact ⟨rfl, _, rfl⟩))
      have S2 := hid (S1.out.below (drewN_any _ wq nq))
      revert S2
      generalize wq.drewN nq = wp
      intro S2
      clear TNN S1 c6 hcc1
      obtain ⟨apv, cpv, epv, _⟩ := (S2.out.j.s.l.rw (3 * kw.n) (Nat.le_refl _)).shape
      rw [S2.out.wa] at epv
      have HPV := hid epv
      clear epv
      go_wp2_with (first
        | (go_at_call 69; with_reducible (refine (has_yes S2.out.j.s m (m / 2) rfl hmn).mono ?_); rintro e w3 ⟨rfl, b3⟩; have S3 := hid (S2.out.below b3))
        | (go_at_call 79; have T0 := U.not_any (m : Int) w3 hmx; rw [HX.out] at T0; with_reducible (refine T0.mono ?_); rintro e w4 ⟨rfl, b4⟩; have S4 := hid (S3.out.below b4))
        | (go_at_call 78; with_reducible (refine (strike_is S4.out.j S4.out.iv S4.out.rs x hxl HQX.out hn1.out hs1.out).mono ?_); intro e w5 hst; have hst2 := StkEnd.out hst; rcases hst2 with ⟨g2, L2, p2, rfl, H2⟩ | ⟨g2, L2, p2, c, rfl, H2, hbad⟩; have d6 := H2.out.1.s.c6; rw [H2.out.2.2.2.1] at d6; have f6 := H2.out.1.s.of 6; rotate_left; have d4 := H2.out.1.s.c4; rw [H2.out.2.2.2.2.1.2, HPV.out] at d4; rotate_left)
        | (at_builtin; refine append_pone (w1 := w5) (cb := g1.cb) rfl _ _ rfl c rfl _ [] rfl (spr_row H2.out S4.out.wa HPV.out) _ rfl rfl (by simp) ?_; intro v6 w6 own6 g6 new6; have f6 := own6.out.one; obtain ⟨b6, o6, p6, rfl⟩ := f6; have m6 := spr_push H2.out HPV.out hbad.out own6.out g6.out new6.out; obtain ⟨q1, q2, s6, F6⟩ := m6))
      · obtain ⟨h1, h2, h3, h4, h5, h6, h7, h8, h9⟩ := H2.out
        have SN := S4.out.next hlt h1 h2 h3 h4 h5.1 h6 h7 h8 h9
        have e1 : (g1.dn : Int) + 1 = ((g2.dn + 1 : Nat) : Int) := by omega
        rw [e1]
        have e2 : dnOf kw (w5.setCell ⟨kw.OB, 6, none⟩ (.int .i64 ((g2.dn + 1 : Nat) : Int))) = g2.dn + 1 := dn_of SN.j.s
        refine ⟨⟨_, _, _, hid SN⟩, ?_⟩
        rw [e2, hdq.out, h4]
        omega
      · obtain ⟨h1, h2, h3, h4, h5, h6, h7, h8, h9⟩ := H2.out
        have hcb := S4.out.sm.cb
        obtain ⟨M, hdd, I⟩ := S4.out.bad hlt h1 h2 h3 h4 h6 h7 h8 h9 s6.out F6.out
        go_ret
        refine ⟨_, _, _, M, hdd, .inr ⟨c, by rw [← hcb]; rfl, by rw [← S4.out.sm.nx]; exact hbad.out.1, by rw [← S4.out.sm.gn]; exact hbad.out.2.1, by rw [← S4.out.sm.lt]; exact hbad.out.2.2, I⟩⟩
    · have hlt' : ¬ (g1.dn : Int) < L1.length := by omega
      have hde : decide (g1.dn < L1.length) = false := by simpa using hlt
      have TN : ∀ n, Trl k (wr.drewN n) L1 lev p1 := fun n => si.out.j.t.below (drewN_any _ wr n)
      have TNN := hid TN
      clear TN
      go_wp2
      go_quiet ((go_at_call 50; with_reducible (refine (lits_det (TNN.out _) rfl).mono ?_); rintro e w1 ⟨rfl, rfl⟩; exact ⟨rfl, _, rfl⟩))
      have S1 := hid (si.out.below (drewN_any _ wr nq))
      revert S1
      generalize wr.drewN nq = wq
      intro S1
      clear TNN si c6
      go_wp2
      go_ret
      exact ⟨g1, L1, p1, S1.out.mv, S1.out.dl, .inl ⟨rfl, by omega, S1.out.iv, S1.out.wa⟩⟩
end

end Go.Proofs.YtimfjoinjfecjaaGreat

namespace Go.Proofs.YtimfjoinjfecjaaGreat
open Go.RowKit Go.Maps
set_option linter.unusedVariables false

theorem info3j : ∃ j, Tryz.prog.info? 3 = some j ∧ j.size = 1 := by
  obtain ⟨i0, hi, hz0, hz1, hz2⟩ := info_parts Tryz.info3
  exact ⟨i0, hi, hz1⟩

theorem same_no (w : World) {a b : Addr} {ca cb : Array Value} {ta tb : TypeId} {fr : Nat × Nat} (hne : a.block ≠ b.block) (hs : ca.size ≠ 0) (ha : w.heap[a.block]? = some (.cells ca ta fr)) (hb : w.heap[b.block]? = some (.cells cb tb (0, 0))) : (sameAddr a b).run Tryz.prog w = .ok false w := by
  obtain ⟨s, hs'⟩ : ∃ s, ca.size = s + 1 := ⟨ca.size - 1, by omega⟩
  simp [sameAddr, hne, World.frozen?, ha, hb, noView, viewAt, World.shape?, mayBeOne, stringish, hs']

theorem eql109 (w : World) (x y : Nat) {c1 c2 : Array Value} {t1 t2 : TypeId} {fr : Nat × Nat} (hs1 : c1.size ≠ 0) (hx : w.heap[x]? = some (.cells c1 t1 fr)) (hy : w.heap[y]? = some (.cells c2 t2 (0, 0))) :
    (binOp .eql 141 (.pointer (some ⟨x, 0, none⟩)) (.pointer (some ⟨y, 0, none⟩))).run Tryz.prog w = .ok (.bool (x == y)) w := by
  obtain ⟨j, hj, hs⟩ := info3j
  by_cases e : x = y
  · subst e
    rw [run_eql_ptr_same w ⟨x, 0, none⟩ Tryz.underlying141 hj]; simp
  · have h : ∀ d : Nat, (Op.equalIn (d + 1) 141 (.pointer (some ⟨x, 0, none⟩)) (.pointer (some ⟨y, 0, none⟩))).run Tryz.prog w = .ok false w := fun d => by
      simp [Op.equalIn, run_underlying Tryz.underlying141, sizeOf, typeInfo, hj, hs, same_no w (a := ⟨x, 0, none⟩) (b := ⟨y, 0, none⟩) e hs1 hx hy]
    simp only [binOp]
    simp [Op.equal, Op.maxDepth, h 9999, e]

section
variable {k : K} {w : World} {p : V}

theorem Told.at {ao : Option Addr} {n c : Nat} {xs : List Int} (h : Told k p w (.slice ao n c) xs) {q : Nat} (hq : q < n) : ∃ b y, ao = some ⟨b, 0, none⟩ ∧ w.cell? ⟨b, q, none⟩ = some (.int .i64 y) ∧ Hid (xs[q]? = some y) ∧ Typ w b 3 ∧ 0 ≤ y ∧ y ≤ 9223372036854775807 := by
  obtain ⟨ao', n', c', e, h2, h3, h4, h5, h5', h6, h7⟩ := h
  cases e
  have hl : q < xs.length := by omega
  obtain ⟨b, e, q1, q2, _⟩ := h7 q _ (List.getElem?_eq_getElem hl)
  exact ⟨b, _, e, q1, List.getElem?_eq_getElem hl, q2, h6 _ (List.getElem_mem hl)⟩

theorem Told.drewN {v : Value} {xs : List Int} (h : Told k p w v xs) (m : Nat) : Told k p (w.drewN m) v xs := h.ft (FT.fw (B := 0) ⟨rfl, rfl, rfl, Nat.le_refl _, fun _ _ _ _ => rfl, fun _ _ _ => rfl⟩)

theorem min_le (W : World) {a b : Int} (h : a ≤ b) : (Builtin.min_ #[3, 3] 3 #[.int .i64 a, .int .i64 b]).run Tryz.prog W = .ok (.int .i64 a) W := by
  simp [Builtin.min_, Builtin.min2]
  intro; omega
theorem min_gt (W : World) {a b : Int} (h : ¬ a ≤ b) : (Builtin.min_ #[3, 3] 3 #[.int .i64 a, .int .i64 b]).run Tryz.prog W = .ok (.int .i64 b) W := by
  simp [Builtin.min_, Builtin.min2, h]

def AlEnd (H N : List Int) (w : World) (e : Ending) (w' : World) : Prop := ∃ q : Nat, e = .returned (.int .i64 q) ∧ Hid (q ≤ H.length ∧ q ≤ N.length ∧ H.take q = N.take q) ∧ Hid (Below w.heap.size w w')

set_option maxHeartbeats 2000000 in
theorem alike_is {ao bo : Option Addr} {n m c d : Nat} {H N : List Int} (ha : Told k p w (.slice ao n c) H) (hb : Told k p w (.slice bo m d) N) (hn : n ≤ 10000000000000) (hm : m ≤ 10000000000000) (h0 : ∀ b, bo = some ⟨b, 0, none⟩ → ∃ cur, w.heap[b]? = some (.cells cur 3 (0, 0))) :
    Calls Tryz.prog 74 #[.slice ao n c, .slice bo m d] w fun e w' => AlEnd H N w e w' := by
  have lH : H.length = n := by obtain ⟨_, _, _, e, h, _⟩ := ha; cases e; exact h
  have lN : N.length = m := by obtain ⟨_, _, _, e, h, _⟩ := hb; cases e; exact h
  obtain ⟨r, hr1, hr2, hr3⟩ : ∃ r, r ≤ n ∧ r ≤ m ∧ (r = n ∨ r = m) := by
    by_cases h : n ≤ m
    · exact ⟨n, Nat.le_refl _, h, .inl rfl⟩
    · exact ⟨m, by omega, Nat.le_refl _, .inr rfl⟩
  have hmin : (if (n : Int) ≤ m then (n : Int) else m) = r := by split <;> omega
  have HA := hid ha
  have HB := hid hb
  have HLH := hid lH
  have HLN := hid lN
  have hminW : ∀ W : World, (Builtin.min_ #[3, 3] 3 #[.int .i64 n, .int .i64 m]).run Tryz.prog W = .ok (.int .i64 r) W := fun W => by
    rcases hr3 with h | h
    · subst h
      have : (r : Int) ≤ m := by omega
      exact min_le W this
    · subst h
      by_cases e : (n : Int) ≤ r
      · have : n = r := by omega
        subst this; exact min_le W e
      · exact min_gt W e
  by_cases hz : r = 0
  · subst hz
    clear ha hb lH lN hr3 hmin
    go_enter Tryz.func74, Tryz.ntmps74
    go_wp2
    go_quiet (fail)
    go_wp2
    go_loopw [6, 23] (fun _ i wr => ∃ q : Nat, q ≤ 0 ∧ i = .int .i64 q ∧ Hid (H.take q = N.take q) ∧ Hid (Below w.heap.size w wr) ∧ Hid (Told k p wr (.slice ao n c) H) ∧ Hid (Told k p wr (.slice bo m d) N)) (fun _ i _ => 0 - (intOf i).toNat)
    case atStart => exact ⟨0, Nat.zero_le _, rfl, hid (by simp), hid (drewN_any _ w nq), hid (HA.out.drewN nq), hid (HB.out.drewN nq)⟩
    case round =>
      obtain ⟨q, hq, rfl, heq, hbl, ta, tb⟩ := hrel
      by_cases hlt : q < 0
      · omega
      · have hqr : q = 0 := by omega
        have HQ : Hid (H.take 0 = N.take 0) := hid (by rw [← hqr]; exact heq.out)
        have hlt' : ¬ (q : Int) < (0 : Nat) := by omega
        clear hqr
        go_wp2
        go_ret
        exact ⟨0, rfl, hid ⟨by rw [HLH.out]; omega, by rw [HLN.out]; omega, HQ.out⟩, hbl⟩
  · have hr0 : (0 : Int) < r := by omega
    have hr0n : 0 < r := by omega
    have hr0d : decide (0 < r) = true := by simpa using hr0n
    obtain ⟨b1, z1, rfl, e1, _, ⟨cu1, fr1, g1⟩, _⟩ := ha.at (q := 0) (by omega)
    obtain ⟨b2, z2, rfl, e2, _, _, _⟩ := hb.at (q := 0) (by omega)
    obtain ⟨cu2, g2⟩ := h0 b2 rfl
    have hs1 : cu1.size ≠ 0 := fun e => by
      rw [cell_of g1, Array.getElem?_eq_none (by omega)] at e1; cases e1
    have he : ∀ s, (binOp .eql 141 (.pointer (some ⟨b1, 0, none⟩)) (.pointer (some ⟨b2, 0, none⟩))).run Tryz.prog (w.drewN s) = .ok (.bool (b1 == b2)) (w.drewN s) := fun s => eql109 (w.drewN s) b1 b2 hs1 g1 g2
    have hn0 : 0 < n := by omega
    have hm0 : 0 < m := by omega
    by_cases hbb : b1 = b2
    · have hbb' : (b1 == b2) = true := by simpa using hbb
      have HE : Hid (H.take r = N.take r) := hid (by
        apply List.ext_getElem?
        intro q
        by_cases hq : q < r
        · rw [List.getElem?_take_of_lt hq, List.getElem?_take_of_lt hq]
          obtain ⟨c1, y1, f1, d1, hy1, _⟩ := ha.at (q := q) (by omega)
          obtain ⟨c2, y2, f2, d2, hy2, _⟩ := hb.at (q := q) (by omega)
          cases f1; cases f2
          rw [hbb, d2] at d1
          rw [hy1.out, hy2.out]
          cases d1; rfl
        · rw [List.getElem?_eq_none (by rw [List.length_take]; omega), List.getElem?_eq_none (by rw [List.length_take]; omega)])
      rw [hbb'] at he
      clear ha hb lH lN hmin hbb e1 e2 g1 g2
      go_enter Tryz.func74, Tryz.ntmps74
      go_wp2
      go_quiet (fail)
      go_wp2
      go_ret
      exact ⟨r, rfl, hid ⟨by rw [HLH.out]; omega, by rw [HLN.out]; omega, HE.out⟩, hid (drewN_any _ w nq)⟩
    · have hbb' : (b1 == b2) = false := by simpa using hbb
      rw [hbb'] at he
      clear ha hb lH lN hmin hbb e1 e2 g1 g2
      go_enter Tryz.func74, Tryz.ntmps74
      go_wp2
      go_quiet (fail)
      go_wp2
      go_loopw [6, 23] (fun _ i wr => ∃ q : Nat, q ≤ r ∧ i = .int .i64 q ∧ Hid (H.take q = N.take q) ∧ Hid (Below w.heap.size w wr) ∧ Hid (Told k p wr (.slice (some ⟨b1, 0, none⟩) n c) H) ∧ Hid (Told k p wr (.slice (some ⟨b2, 0, none⟩) m d) N)) (fun _ i _ => r - (intOf i).toNat)
      case atStart => exact ⟨0, Nat.zero_le _, rfl, hid (by simp), hid (drewN_any _ w nq), hid (HA.out.drewN nq), hid (HB.out.drewN nq)⟩
      case round =>
        obtain ⟨q, hq, rfl, heq, hbl, ta, tb⟩ := hrel
        by_cases hlt : q < r
        · have hlt' : (q : Int) < (r : Nat) := by omega
          have hqn : q < n := by omega
          have hqm : q < m := by omega
          obtain ⟨b1, y1, e1, d1, hy1, _, _, _⟩ := ta.out.at hqn
          obtain ⟨b2, y2, e2, d2, hy2, _, _, _⟩ := tb.out.at hqm
          cases e1; cases e2
          by_cases hy : y1 = y2
          · have hy' : (y1 != y2) = false := by simpa using hy
            have HN : Hid (H.take (q + 1) = N.take (q + 1)) := hid (by rw [List.take_add_one, List.take_add_one, heq.out, hy1.out, hy2.out, hy])
            clear hy
            go_wp2
            go_quiet (fail)
            have B2 := hid (Below.next hbl.out (drewN_any _ wr nq))
            have TA2 := hid (ta.out.drewN nq)
            have TB2 := hid (tb.out.drewN nq)
            go_wp2
            go_roundw
            case rel => exact ⟨q + 1, by omega, by go_num, HN, B2, TA2, TB2⟩
            case measure => simp only [intOf]; omega
          · have hy' : (y1 != y2) = true := by simpa using hy
            clear hy
            go_wp2
            go_quiet (fail)
            have B2 := hid (Below.next hbl.out (drewN_any _ wr nq))
            go_wp2
            go_ret
            exact ⟨q, rfl, hid ⟨by rw [HLH.out]; omega, by rw [HLN.out]; omega, heq.out⟩, B2⟩
        · have hqr : q = r := by omega
          have HQ : Hid (H.take r = N.take r) := hid (by rw [← hqr]; exact heq.out)
          have hlt' : ¬ (q : Int) < (r : Nat) := by omega
          clear hqr
          go_wp2
          go_ret
          exact ⟨r, rfl, hid ⟨by rw [HLH.out]; omega, by rw [HLN.out]; omega, HQ.out⟩, hbl⟩
end

end Go.Proofs.YtimfjoinjfecjaaGreat

namespace Go.Proofs.YtimfjoinjfecjaaGreat
open Go.RowKit Go.Maps
set_option linter.unusedVariables false

/-- Those that leaned on what is lost wait. -/
structure LoseI (n : Nat) (g g1 : G) (K : List Int) (r : Nat) : Prop where
  sm : Same g g1
  ea : g1.a = g.a
  eb : g1.b = g.b
  ef : g1.fr = g.fr
  ep : g1.pl = g.pl
  ed : g1.dn = g.dn
  lo : ∀ l, l < 2 * n → g1.P l = g.P l
  ln : ∀ v, v < n → ∀ i ∈ g.P (2 * n + v), i ∈ g1.P (2 * n + v) ∨ i ∈ g1.P (3 * n)
  ls : ∀ (q : Nat) (x : Int), q < r → K[q]? = some x → ∀ i ∈ g.P (2 * n + vl x), i ∈ g1.P (3 * n)
  wa : ∀ i ∈ g.P (3 * n), i ∈ g1.P (3 * n)
  su : tot n g1 = tot n g

theorem LoseI.start (n : Nat) (g : G) (K : List Int) : LoseI n g g K 0 :=
  ⟨Same.refl g, rfl, rfl, rfl, rfl, rfl, fun _ _ => rfl, fun _ _ _ h => .inl h, fun q x h => by omega, fun _ h => h, rfl⟩

theorem LoseI.next {n : Nat} {g g1 : G} {K : List Int} {r : Nat} {x : Int} (h : LoseI n g g1 K r) (hx : K[r]? = some x) (hv : vl x < n) (v1 v2 : Value) :
    LoseI n g ((g1.slot (3 * n) (g1.P (3 * n) ++ g1.P (2 * n + vl x)) v1).slot (2 * n + vl x) [] v2) K (r + 1) := by
  have e3 : ((g1.slot (3 * n) (g1.P (3 * n) ++ g1.P (2 * n + vl x)) v1).slot (2 * n + vl x) [] v2).P (3 * n) = g1.P (3 * n) ++ g1.P (2 * n + vl x) := by
    show up (up g1.P (3 * n) _) (2 * n + vl x) _ (3 * n) = _
    rw [up_ne _ _ (by omega), up_same]
  have el : ∀ u, u < n → u ≠ vl x → ((g1.slot (3 * n) (g1.P (3 * n) ++ g1.P (2 * n + vl x)) v1).slot (2 * n + vl x) [] v2).P (2 * n + u) = g1.P (2 * n + u) := fun u hu hne => by
    show up (up g1.P (3 * n) _) (2 * n + vl x) _ (2 * n + u) = _
    rw [up_ne _ _ (by omega), up_ne _ _ (by omega)]
  refine ⟨h.sm.trans ⟨rfl, rfl, rfl, rfl, rfl, rfl, rfl, rfl⟩, h.ea, h.eb, h.ef, h.ep, h.ed, fun l hl => ?_, fun u hu i hi => ?_, fun q y hq hy i hi => ?_, fun i hi => ?_, ?_⟩
  · rw [← h.lo l hl]
    show up (up g1.P (3 * n) _) (2 * n + vl x) _ l = _
    rw [up_ne _ _ (by omega), up_ne _ _ (by omega)]
  · rw [e3]
    rcases h.ln u hu i hi with q | q
    · by_cases e : u = vl x
      · subst e; exact .inr (List.mem_append.2 (.inr q))
      · rw [el u hu e]; exact .inl q
    · exact .inr (List.mem_append.2 (.inl q))
  · rw [e3]
    by_cases e : q = r
    · subst e
      rw [hx] at hy; cases hy
      rcases h.ln _ hv i hi with q | q
      · exact List.mem_append.2 (.inr q)
      · exact List.mem_append.2 (.inl q)
    · exact List.mem_append.2 (.inl (h.ls q y (by omega) hy i hi))
  · rw [e3]; exact List.mem_append.2 (.inl (h.wa i hi))
  · have h1 := sum_slot (g := g1.slot (3 * n) (g1.P (3 * n) ++ g1.P (2 * n + vl x)) v1) hv [] v2
    have h2 : sumL n (g1.slot (3 * n) (g1.P (3 * n) ++ g1.P (2 * n + vl x)) v1).P = sumL n g1.P := sum_other (.inr (Nat.le_refl _)) _ v1
    have h3 : (g1.slot (3 * n) (g1.P (3 * n) ++ g1.P (2 * n + vl x)) v1).P (2 * n + vl x) = g1.P (2 * n + vl x) := up_ne _ _ (by omega)
    rw [h2, h3] at h1
    have h4 := h.su
    unfold tot at h4 ⊢
    rw [e3, List.length_append]
    simp only [List.length_nil] at h1
    omega

theorem take_at {α : Type} {A B : List α} {q r : Nat} (h : A.take q = B.take q) (hr : r < q) : A[r]? = B[r]? := by
  have := congrArg (fun l => l[r]?) h
  simpa [List.getElem?_take_of_lt hr] using this

theorem Inv.meet {n : Nat} {g g1 : G} {H N : List Int} {q : Nat} {f : Nat → Int} (iv : Inv n g H (fun _ => g.dn) (fun i => i ∈ g.P (3 * n))) (h : LoseI n g g1 (H.drop q) (H.length - q)) (hq : q ≤ H.length) (hk : H.take q = N.take q) (hf : ∀ (r : Nat) (x : Int), N[r]? = some x → f (vl x) = r) {d : Nat} (hd : d ≤ g.dn) (hd2 : d ≤ q) :
    Inv n { g1 with pl := f, dn := d } N (fun _ => d) (fun i => i ∈ g1.P (3 * n)) := by
  have hrest : ∀ (r : Nat) (x : Int), q ≤ r → H[r]? = some x → ∀ i ∈ g.P (2 * n + vl x), i ∈ g1.P (3 * n) := fun r x hr hx i hi => by
    have hl := (List.getElem?_eq_some_iff.1 hx).1
    refine h.ls (r - q) x (by omega) ?_ i hi
    rw [List.getElem?_drop, show q + (r - q) = r by omega]; exact hx
  refine ⟨fun i hi hgi => ?_, fun i hi hgi => ?_, fun i hi hgi => ?_, fun l hl i hi hgi => ?_, fun l hl => ?_, hf, fun i hi hgi => ?_⟩
  · change i < g1.nx at hi; change g1.gn i = false at hgi
    show ∀ x ∈ g1.lt i, _
    rw [h.sm.lt]
    rw [h.sm.nx] at hi; rw [h.sm.gn] at hgi
    exact iv.rg i hi hgi
  · change i < g1.nx at hi; change g1.gn i = false at hgi
    show g1.fr i < (g1.lt i).length ∨ g1.lt i = []
    rw [h.sm.lt, h.ef]
    rw [h.sm.nx] at hi; rw [h.sm.gn] at hgi
    exact iv.fr i hi hgi
  · change i < g1.nx at hi; change g1.gn i = false at hgi
    rw [h.sm.nx] at hi; rw [h.sm.gn] at hgi
    have := iv.wt i hi hgi
    have rg := iv.rg i hi hgi
    unfold WtOk at this ⊢
    show (g1.a i = -1 ∧ g1.b i = -1) ∨ (0 ≤ g1.a i ∧ 0 ≤ g1.b i ∧ g1.a i ≠ g1.b i ∧ g1.a i ∈ g1.lt i ∧ g1.b i ∈ g1.lt i ∧ i ∈ g1.P (g1.a i).toNat ∧ i ∈ g1.P (g1.b i).toNat)
    rw [h.ea, h.eb, h.sm.lt]
    rcases this with q1 | ⟨q1, q2, q3, q4, q5, q6, q7⟩
    · exact .inl q1
    · have r1 := rg _ q4
      have r2 := rg _ q5
      exact .inr ⟨q1, q2, q3, q4, q5, by rw [h.lo _ (by omega)]; exact q6, by rw [h.lo _ (by omega)]; exact q7⟩
  · change i ∈ g1.P l at hi; change g1.gn i = false at hgi
    show g1.a i = l ∨ g1.b i = l
    rw [h.ea, h.eb]
    rw [h.lo l hl] at hi; rw [h.sm.gn] at hgi
    exact iv.sd l hl i hi hgi
  · show (g1.P l).Nodup
    rw [h.lo l hl]; exact iv.nd l hl
  · change i < g1.nx at hi; change g1.gn i = false at hgi
    rw [h.sm.nx] at hi; rw [h.sm.gn] at hgi
    by_cases hw : i ∈ g1.P (3 * n)
    · exact .inl hw
    · refine .inr ?_
      have rg := iv.rg i hi hgi
      rcases iv.ok i hi hgi with c | ⟨c1, x, hx, r, hr, hp⟩ | ⟨c1, c2, c3⟩
      · exact absurd (h.wa i c) hw
      · have hr2 : r < q := by
          by_cases e : r < q
          · exact e
          · exact absurd (hrest r x (by omega) hr i hp) hw
        have hp2 : i ∈ g1.P (2 * n + vl x) := (h.ln _ (vl_lt (rg x hx)) i hp).elim id (fun c => absurd c hw)
        exact .inl ⟨by show g1.a i = -1; rw [h.ea]; exact c1, x, by show x ∈ g1.lt i; rw [h.sm.lt]; exact hx, r, by rw [← take_at hk hr2]; exact hr, hp2⟩
      · have hwt : g.a i ∈ g.lt i ∧ g.b i ∈ g.lt i := by
          rcases iv.wt i hi hgi with q1 | ⟨q1, q2, q3, q4, q5, _⟩
          · exact absurd q1.1 c1
          · exact ⟨q4, q5⟩
        have key : ∀ a b : Int, vl b < n → Hf n g.P H g.dn i a b → Hf n g1.P N d i a b := fun a b hb hh r hr e => by
          have e2 : H[r]? = some (U.notF a) := by rw [take_at hk (by omega)]; exact e
          obtain ⟨s, s1, s2⟩ := hh r (by omega) e2
          by_cases hs : s < q
          · refine ⟨s, by rw [← take_at hk hs]; exact s1, s2.elim .inl (fun c => .inr ?_)⟩
            exact (h.ln _ hb i c).elim id (fun c => absurd c hw)
          · rcases s2 with s2 | s2
            · omega
            · exact absurd (hrest s b (by omega) s1 i s2) hw
        refine .inr ⟨by show g1.a i ≠ -1; rw [h.ea]; exact c1, ?_, ?_⟩
        · show Hf n g1.P N d i (g1.a i) (g1.b i)
          rw [h.ea, h.eb]; exact key _ _ (vl_lt (rg _ hwt.2)) c2
        · show Hf n g1.P N d i (g1.b i) (g1.a i)
          rw [h.ea, h.eb]; exact key _ _ (vl_lt (rg _ hwt.1)) c3

section
variable {k : K} {kw : WK} {w : World} {g : G} {L : List E} {lev : Nat} {p : V} {H : List Int}

def MeetEnd (k : K) (kw : WK) (g : G) (L : List E) (lev : Nat) (p : V) (w w' : World) : Prop :=
  ∃ g', J k kw w' g' L lev p ∧ Same g g' ∧ Inv kw.n g' (litsF L) (fun _ => g'.dn) (fun i => i ∈ g'.P (3 * kw.n)) ∧ g'.dn ≤ L.length ∧ tot kw.n g' = tot kw.n g ∧ FW kw.B w w'

/-- Places are told, so far. -/
def PutI (N : List Int) (g1 g2 : G) (m : Nat) : Prop := ∃ f, g2 = { g1 with pl := f } ∧ ∀ (r : Nat) (x : Int), r < m → N[r]? = some x → f (vl x) = r

theorem put_at (s : St kw w g) (m u : Nat) (hm : m / 2 = u) (h : u < kw.n) (z : Int) (q : Nat) (hz : z = q) : Calls Tryz.prog 76 #[.pointer (some ⟨kw.OB, 0, none⟩), .int .i64 m, .int .i64 z] w fun e w' => e = .returned (.tuple #[]) ∧ Hid (St kw w' (g.place u q) ∧ FW kw.B w w') := by
  subst hz; exact put_is s m u hm h q

theorem min_is (W : World) (a b : Nat) : (Builtin.min_ #[3, 3] 3 #[.int .i64 a, .int .i64 b]).run Tryz.prog W = .ok (.int .i64 ((min a b : Nat) : Int)) W := by
  by_cases h : a ≤ b
  · rw [Nat.min_eq_left h]; exact min_le W (by omega)
  · rw [Nat.min_eq_right (by omega)]; exact min_gt W (by omega)

theorem AlEnd.out {H N : List Int} {w w' : World} {e : Ending} (h : AlEnd H N w e w') : ∃ q : Nat, e = .returned (.int .i64 q) ∧ Hid (q ≤ H.length ∧ q ≤ N.length ∧ H.take q = N.take q) ∧ Hid (Below w.heap.size w w') := h

theorem PutI.next {N : List Int} {g1 g2 : G} {m : Nat} {x : Int} (h : PutI N g1 g2 m) (hx : N[m]? = some x) (hd : ∀ (r : Nat) (y : Int), r < m → N[r]? = some y → vl y ≠ vl x) : PutI N g1 (g2.place (vl x) m) (m + 1) := by
  obtain ⟨f, rfl, hf⟩ := h
  refine ⟨up f (vl x) m, rfl, fun r y hr hy => ?_⟩
  by_cases e : r = m
  · subst e; rw [hx] at hy; cases hy; exact up_same _ _ _
  · rw [up_ne _ _ (hd r y (by omega) hy)]; exact hf r y (by omega) hy

theorem lits_vl {L : List E} (h : ND L) {r m : Nat} {x y : Int} (hr : (litsF L)[r]? = some y) (hm : (litsF L)[m]? = some x) (hne : r ≠ m) : vl y ≠ vl x := by
  obtain ⟨e, he, rfl⟩ := lits_at.1 hr
  obtain ⟨e', he', rfl⟩ := lits_at.1 hm
  intro c
  refine hne (nd_one h he he' ?_)
  unfold vl at c
  unfold vr
  omega

set_option maxHeartbeats 4000000 in
theorem meet_is (j : J k kw w g L lev p) (iv : Inv kw.n g H (fun _ => g.dn) (fun i => i ∈ g.P (3 * kw.n))) (ht : Told k p w g.hv H) {ao : Option Addr} {n : Nat} (hv : g.hv = .slice ao n n) (hH : ∀ x ∈ H, x < 2 * kw.n) (hn : n ≤ 10000000000000) (hsu : tot kw.n g ≤ 400000000000) :
    Calls Tryz.prog 47 #[.pointer (some ⟨kw.OB, 0, none⟩), .pointer (some ⟨k.OB, 0, none⟩)] w fun e w' => e = .returned (.tuple #[]) ∧ MeetEnd k kw g L lev p w w' := by
  have c5 := j.s.c5
  rw [hv] at c5 ht
  have hnH : H.length = n := by obtain ⟨_, _, _, e, h, _⟩ := ht; cases e; exact h
  have hN := j.t.told
  have hlen := j.t.len
  have h0 : ∀ b, litA p = some ⟨b, 0, none⟩ → ∃ cur, w.heap[b]? = some (.cells cur 3 (0, 0)) := fun b hb => by
    obtain ⟨F, S, s, _⟩ := j.t
    rcases s.rl with ⟨h1, _⟩ | ⟨b', cap, cur, h1, _, h3, _⟩
    · unfold litA at hb; rw [h1] at hb; cases hb
    · unfold litA at hb; rw [h1] at hb; cases hb; exact ⟨cur, h3⟩
  have hL : L.length ≤ 10000000000000 := by omega
  have hL2 : L.length ≤ 1048576 := by omega
  have hnn := j.n
  have hkn := j.s.l.hn
  have HJ := hid j
  have HI := hid iv
  have HT := hid ht
  have HNT := hid hN
  have H0 := hid h0
  have HH := hid hH
  have HLH := hid hnH
  have HV := hid hv
  obtain ⟨bo, hbo⟩ : ∃ bo, litA p = bo := ⟨_, rfl⟩
  rw [hbo] at HNT H0
  have HBO := hid hbo
  obtain ⟨N, hNL⟩ : ∃ N, L.length = N := ⟨_, rfl⟩
  rw [hNL] at HNT hL hL2
  have HLL := hid hNL
  clear j iv ht hN h0 hH hnH hbo hlen hv hNL
  go_enter Tryz.func47, Tryz.ntmps47
  go_upto_region 2 with (first
    | (go_at_call 50; with_reducible (refine (lits_ad HJ.out.t HLL.out HBO.out).mono ?_); rintro e w ⟨rfl, rfl⟩)
    | (go_at_call 74; with_reducible (refine (alike_is HT.out HNT.out hn hL H0.out).mono ?_); intro e w1 hal; have hal2 := AlEnd.out hal; obtain ⟨q, rfl, hq, b1⟩ := hal2))
  have J1 := hid (HJ.out.below b1.out)
  have T1 := hid (HT.out.ft (FT.below (B := 0) b1.out))
  have NT1 := hid (HNT.out.ft (FT.below (B := 0) b1.out))
  have hqn : q ≤ n := by rw [← HLH.out]; exact hq.out.1
  have hqN : q ≤ N := by have := hq.out.2.1; rw [litsF_len, HLL.out] at this; exact this
  have hq1 : (q : Int) ≤ n := by omega
  have hq2 : (q : Int) ≤ N := by omega
  have c5' := J1.out.s.c5
  rw [show g.hv = .slice ao n n from HV.out] at c5'
  have T0 := HT
  have NT0 := HNT
  clear c5 HT HNT H0
  go_cut [23, 24, 25] from 10 to 57 (fun s l i wx => ∃ a c, s = .slice a (n - q) c ∧ l = .int .i64 ((n - q : Nat) : Int) ∧ i = .int .i64 0 ∧ Hid (q < n → ∃ b, ao = some ⟨b, 0, none⟩ ∧ a = some ⟨b, q, none⟩) ∧ wx = w1)
  case first =>
    by_cases hz : q = n
    · have hzz : Hid (q < n → ∃ b, ao = some ⟨b, 0, none⟩ ∧ ao = some ⟨b, q, none⟩) := hid (fun h => by omega)
      subst hz
      cases ao with
      | none =>
        go_wp2
        go_meet
        exact ⟨none, 0, by simp, by simp, rfl, hid (fun h => by omega), rfl⟩
      | some a0 =>
        go_wp2
        go_meet
        exact ⟨some a0, 0, by simp, by simp, rfl, hid (fun h => by omega), rfl⟩
    · obtain ⟨b, y, e, _⟩ := T1.out.at (q := q) (by omega)
      subst e
      have hzz : ¬ n = q := fun e => hz e.symm
      go_wp2
      go_meet
      exact ⟨some ⟨b, q, none⟩, n - q, by simp, by simp, rfl, hid (fun _ => ⟨b, rfl, rfl⟩), rfl⟩
  case rest =>
    obtain ⟨a1, ca1, rfl, rfl, rfl, ha1, rfl⟩ := hcut
    go_wp2
    go_loopw [7, 25] (fun _ i wr => ∃ (r : Nat) (g1 : G), r ≤ n - q ∧ i = .int .i64 r ∧ Hid (LoseI kw.n g g1 (H.drop q) r) ∧ Hid (St kw wr g1) ∧ Hid (FW kw.B w wr)) (fun _ i _ => n - q - (intOf i).toNat)
    case atStart => exact ⟨0, g, Nat.zero_le _, rfl, hid (LoseI.start _ _ _), hid J1.out.s, hid (FW.below b1.out)⟩
    case round =>
      clear c5'
      obtain ⟨r, g1, hr, rfl, hl, hs, hfw⟩ := hrel
      by_cases hlt : r < n - q
      · obtain ⟨b, rfl, rfl⟩ := ha1.out (by omega)
        have TR := hid (T0.out.ft (FT.fw hfw.out) : Told k p wr (.slice (some ⟨b, 0, none⟩) n n) H)
        obtain ⟨b2, y, e, hc, hy, _, y0, y1⟩ := TR.out.at (q := q + r) (by omega)
        cases e
        have hlt' : (r : Int) < ((n - q : Nat) : Int) := by omega
        obtain ⟨m, rfl⟩ := Int.eq_ofNat_of_zero_le y0
        have hmn := HH.out _ (List.mem_of_getElem? hy.out)
        have hvl : vl (m : Int) = m / 2 := by unfold vl; omega
        have hun : m / 2 < kw.n := by omega
        have HX : Hid ((H.drop q)[r]? = some (m : Int)) := hid (by rw [List.getElem?_drop]; exact hy.out)
        have hlen : (g1.P (3 * kw.n)).length + (g1.P (2 * kw.n + m / 2)).length ≤ 1000000000000 := by
          have h1 := sum_le (P := g1.P) hun
          have h2 := hl.out.su
          unfold tot at h2 hsu
          omega
        clear hy y0 hmn
        go_wp2_with (go_at_call 75; with_reducible (refine (lose_is hs.out m (m / 2) rfl hun hlen).mono ?_); rintro e w3 ⟨rfl, hle⟩)
        go_roundw
        case rel =>
          obtain ⟨v1, v2, s3, f3⟩ := hle
          have hn2 := hl.out.next HX.out (by rw [hvl]; exact hun) v1 v2
          rw [hvl] at hn2
          exact ⟨r + 1, _, by omega, by go_num, hid hn2, hid s3, hid (hfw.out.trans f3)⟩
        case measure => simp only [intOf]; omega
      · have hre : r = n - q := by omega
        have HL : Hid (LoseI kw.n g g1 (H.drop q) (H.length - q)) := hid (by rw [HLH.out, ← hre]; exact hl.out)
        have hlt' : ¬ (r : Int) < ((n - q : Nat) : Int) := by omega
        have hltd : decide (r < n - q) = false := by simpa using hlt
        have J2 : Hid (J k kw wr g1 L lev p) := hid (HJ.out.fw hfw.out hs.out hl.out.sm.nx hl.out.sm.gn hl.out.sm.lv hl.out.sm.lt)
        have NT2 := hid (NT0.out.ft (FT.fw hfw.out))
        clear hl hre T1 NT1 J1
        go_upto_region 7 with fail
        go_cut [35, 36, 37] from 10 to 57 (fun s l i wx => ∃ a c, s = .slice a (N - q) c ∧ l = .int .i64 ((N - q : Nat) : Int) ∧ i = .int .i64 0 ∧ Hid (q < N → ∃ b, bo = some ⟨b, 0, none⟩ ∧ a = some ⟨b, q, none⟩) ∧ wx = wr)
        case first =>
          by_cases hz : q = N
          · have hzz : Hid (q < N → ∃ b, bo = some ⟨b, 0, none⟩ ∧ bo = some ⟨b, q, none⟩) := hid (fun h => by omega)
            subst hz
            cases bo with
            | none =>
              go_wp2
              go_meet
              exact ⟨none, 0, by simp, by simp, rfl, hid (fun h => by omega), rfl⟩
            | some a0 =>
              go_wp2
              go_meet
              exact ⟨some a0, 0, by simp, by simp, rfl, hid (fun h => by omega), rfl⟩
          · obtain ⟨b, y, e, _⟩ := NT2.out.at (q := q) (by omega)
            subst e
            have hzz : ¬ N = q := fun e => hz e.symm
            go_wp2
            go_meet
            exact ⟨some ⟨b, q, none⟩, N - q, by simp, by simp, rfl, hid (fun _ => ⟨b, rfl, rfl⟩), rfl⟩
        case rest =>
          obtain ⟨a2, ca2, rfl, rfl, rfl, ha2, rfl⟩ := hcut
          have P0 : Hid (PutI (litsF L) g1 g1 (q + 0)) := hid ⟨g1.pl, rfl, fun r' x hr' hx => by
            rw [Nat.add_zero] at hr'
            rw [HL.out.ep]
            exact HI.out.pl r' x (by rw [take_at hq.out.2.2 hr']; exact hx)⟩
          go_wp2
          go_loopw [8, 9, 37] (fun _ _ i wx => ∃ (r : Nat) (g2 : G), r ≤ N - q ∧ i = .int .i64 r ∧ Hid (PutI (litsF L) g1 g2 (q + r)) ∧ Hid (St kw wx g2) ∧ Hid (FW kw.B w wx)) (fun _ _ i _ => N - q - (intOf i).toNat)
          case atStart => exact ⟨0, g1, Nat.zero_le _, rfl, P0, hs, hfw⟩
          case round =>
            clear P0 hs
            obtain ⟨r2, g2, hr2, rfl, hp2, hs2, hf2⟩ := hrel
            by_cases hlt2 : r2 < N - q
            · obtain ⟨b, rfl, rfl⟩ := ha2.out (by omega)
              have TR := hid (NT0.out.ft (FT.fw hf2.out))
              obtain ⟨b2, y, e, hc, hy, _, y0, y1⟩ := TR.out.at (q := q + r2) (by omega)
              cases e
              have hlt2' : (r2 : Int) < ((N - q : Nat) : Int) := by omega
              obtain ⟨m, rfl⟩ := Int.eq_ofNat_of_zero_le y0
              have hvl : vl (m : Int) = m / 2 := by unfold vl; omega
              have hun : m / 2 < kw.n := by
                obtain ⟨ee, hee, hem⟩ := lits_at.1 hy.out
                have := HJ.out.t.lits_lt ee (List.mem_of_getElem? hee)
                unfold vr at this
                omega
              have HP : Hid (PutI (litsF L) g1 (g2.place (m / 2) ((q + r2 : Nat) : Int)) (q + r2 + 1)) := hid (by
                have := hp2.out.next hy.out (fun r' y' hr' hy' => lits_vl HJ.out.t.nd hy' hy.out (by omega))
                rw [hvl] at this
                exact this)
              have hadd : (q : Int) + r2 ≤ 9223372036854775807 := by omega
              have HZ : Hid ((q : Int) + r2 = ((q + r2 : Nat) : Int)) := hid (by omega)
              clear hy y0
              go_wp2_with (go_at_call 76; with_reducible (refine (put_at hs2.out m (m / 2) rfl hun _ (q + r2) HZ.out).mono ?_); rintro e w3 ⟨rfl, h3⟩)
              go_roundw
              case rel => exact ⟨r2 + 1, _, by omega, by go_num, hid (by rw [← Nat.add_assoc]; exact HP.out), hid h3.out.1, hid (hf2.out.trans h3.out.2)⟩
              case measure => simp only [intOf]; omega
            · have hre : r2 = N - q := by omega
              have hlt2' : ¬ (r2 : Int) < ((N - q : Nat) : Int) := by omega
              have hltd2 : decide (r2 < N - q) = false := by simpa using hlt2
              obtain ⟨f, rfl, hf⟩ := hp2.out
              have hf' : ∀ (r' : Nat) (x : Int), (litsF L)[r']? = some x → f (vl x) = r' := fun r' x hx => hf r' x (by
                have := (List.getElem?_eq_some_iff.1 hx).1
                rw [litsF_len, HLL.out] at this
                omega) hx
              have c6 := hs2.out.c6
              have f6 := hs2.out.of 6
              have hdn : ({ g1 with pl := f } : G).dn = g.dn := HL.out.ed
              rw [hdn] at c6
              have mn := fun W => min_is W g.dn q
              have s9 := hid (hs2.out.putd (min g.dn q))
              have F9 : Hid (FW kw.B wr (wr.setCell ⟨kw.OB, 6, none⟩ (.int .i64 ((min g.dn q : Nat) : Int)))) := hid (FW.grown (grown_set wr ⟨kw.OB, 6, none⟩ _) (fun i T e t => by cases e; rw [t.one ⟨_, _, hs2.out.c.ob⟩]; simp [Wt]) (fun i e => by cases e; exact hs2.out.c.lo.1))
              have HE : Hid (MeetEnd k kw g L lev p w (wr.setCell ⟨kw.OB, 6, none⟩ (.int .i64 ((min g.dn q : Nat) : Int)))) := hid (by
                refine ⟨_, HJ.out.fw (hf2.out.trans F9.out) s9.out HL.out.sm.nx HL.out.sm.gn HL.out.sm.lv HL.out.sm.lt, HL.out.sm.trans ⟨rfl, rfl, rfl, rfl, rfl, rfl, rfl, rfl⟩, HI.out.meet HL.out hq.out.1 hq.out.2.2 hf' (Nat.min_le_left _ _) (Nat.min_le_right _ _), ?_, HL.out.su, hf2.out.trans F9.out⟩
                show min g.dn q ≤ L.length
                rw [HLL.out]
                exact Nat.le_trans (Nat.min_le_right _ _) hqN)
              generalize hD : (min g.dn q : Nat) = D at *
              clear hre hlt2 hs2 s9 F9 hf hf' hdn hD
              go_wp2
              go_end0
              exact ⟨rfl, HE.out⟩
end

end Go.Proofs.YtimfjoinjfecjaaGreat

namespace Go.Proofs.YtimfjoinjfecjaaGreat
open Go.RowKit Go.Maps
set_option linter.unusedVariables false

/-- The clauses are those that they were. -/
structure Sm0 (g g' : G) : Prop where
  nx : g'.nx = g.nx
  cb : g'.cb = g.cb
  lt : g'.lt = g.lt
  lv : g'.lv = g.lv
  gn : g'.gn = g.gn
  mp : g'.mp = g.mp
  rm : g'.rm = g.rm

theorem Same.sm {g g' : G} (h : Same g g') : Sm0 g g' := ⟨h.nx, h.cb, h.lt, h.lv, h.gn, h.mp, h.rm⟩
theorem Sm0.trans {a b c : G} (h : Sm0 a b) (k : Sm0 b c) : Sm0 a c := ⟨k.nx.trans h.nx, k.cb.trans h.cb, k.lt.trans h.lt, k.lv.trans h.lv, k.gn.trans h.gn, k.mp.trans h.mp, k.rm.trans h.rm⟩

/-- No clause is left by which something follows. -/
def Closed (g : G) (L : List E) : Prop := ∀ i, i < g.nx → g.gn i = false → (∃ x ∈ g.lt i, valueF L x = 1) ∨ ∃ x ∈ g.lt i, ∃ y ∈ g.lt i, x ≠ y ∧ valueF L x = 0 ∧ valueF L y = 0

theorem Inv.closed {n : Nat} {g : G} {L : List E} {d : Nat} (iv : Inv n g (litsF L) (fun _ => d) (fun _ => False)) (hd : d = L.length) (hnd : ND L) : Closed g L := by
  intro i hi hg
  rcases iv.ok i hi hg with c | ⟨c1, x, hx, q, hq, _⟩ | ⟨c1, c2, c3⟩
  · exact c.elim
  · exact .inl ⟨x, hx, val_pos hnd hq⟩
  · rcases iv.wt i hi hg with q | ⟨q1, q2, q3, q4, q5, _⟩
    · exact absurd q.1 c1
    · have lt : ∀ (r : Nat) (y : Int), (litsF L)[r]? = some y → r < d := fun r y h => by
        have := (List.getElem?_eq_some_iff.1 h).1
        rw [litsF_len] at this; omega
      rcases val_cases (L := L) (g.a i) with v1 | ⟨v1, _⟩ | ⟨v1, _, r, hr⟩
      · rcases val_cases (L := L) (g.b i) with v2 | ⟨v2, _⟩ | ⟨v2, _, r, hr⟩
        · exact .inr ⟨_, q4, _, q5, q3, v1, v2⟩
        · exact .inl ⟨_, q5, v2⟩
        · obtain ⟨s, hs, _⟩ := c3 r (lt r _ hr) hr
          exact .inl ⟨_, q4, val_pos hnd hs⟩
      · exact .inl ⟨_, q4, v1⟩
      · obtain ⟨s, hs, _⟩ := c2 r (lt r _ hr) hr
        exact .inl ⟨_, q5, val_pos hnd hs⟩

/-- What holds between the calls. -/
structure Wa (k : K) (kw : WK) (w : World) (g : G) (L : List E) (lev : Nat) (p : V) (H : List Int) : Prop where
  j : J k kw w g L lev p
  iv : Inv kw.n g H (fun _ => g.dn) (fun i => i ∈ g.P (3 * kw.n))
  ht : Told k p w g.hv H
  hf : ∃ ao n, g.hv = .slice ao n n
  hH : ∀ x ∈ H, x < 2 * kw.n
  hl : H.length ≤ 1048576
  rs : Rs g L

def RunEnd (k : K) (kw : WK) (g : G) (L : List E) (lev : Nat) (p : V) (w : World) (e : Ending) (w' : World) : Prop :=
  ∃ g' L' p', Wa k kw w' g' L' lev p' (litsF L') ∧ Sm0 g g' ∧ Ext L L' lev ∧ tot kw.n g' ≤ tot kw.n g + (kw.n * g.nx + 1) ∧ FT k kw.B p p' w w' ∧ (∀ j, g'.hv.ownBlock = some j → Mine k p' j) ∧
    ((e = .returned (.tuple #[.int .i64 (-1), .bool true]) ∧ Closed g' L') ∨
     ∃ c : Nat, e = .returned (.tuple #[.int .i64 c, .bool false]) ∧ c < g.nx ∧ g.gn c = false ∧ ∀ y ∈ g.lt c, valueF L' y = -1)

theorem litA_mine {k : K} {p : V} {n m j : Nat} (h : (Value.slice (litA p) n m).ownBlock = some j) : Mine k p j := by
  refine .inr (.inr (.inl ?_))
  unfold litA at h
  cases e : p.l with
  | slice ao a b => rw [e] at h; cases ao with
    | none => simp [Value.ownBlock] at h
    | some ad => simpa [Value.ownBlock] using h
  | _ => rw [e] at h; simp [Value.ownBlock] at h

section
variable {k : K} {kw : WK} {w w1 : World} {g : G} {L : List E} {lev : Nat} {p : V} {H : List Int}

theorem MeetEnd.out (h : MeetEnd k kw g L lev p w w1) : ∃ g', Hid (J k kw w1 g' L lev p) ∧ Hid (Same g g') ∧ Hid (Inv kw.n g' (litsF L) (fun _ => g'.dn) (fun i => i ∈ g'.P (3 * kw.n))) ∧ Hid (g'.dn ≤ L.length) ∧ Hid (tot kw.n g' = tot kw.n g) ∧ Hid (FW kw.B w w1) := h

theorem AllEnd.out {e : Ending} (h : AllEnd k kw g L lev p w e w1) :
    (∃ g' L' p', e = .returned (.pointer none) ∧ Hid (Mv k kw g L lev p w 0 g' L' p' w1) ∧ Hid (g'.dn = g.dn) ∧ Hid (Inv kw.n g' (litsF L') (fun _ => g.dn) (fun _ => False)) ∧ Hid (g'.P (3 * kw.n) = [])) ∨
    (∃ g' L' p' c, e = .returned (.pointer (some ⟨g.cb c, 0, none⟩)) ∧ Hid (Mv k kw g L lev p w 0 g' L' p' w1) ∧ Hid (g'.dn = g.dn) ∧ Hid (Inv kw.n g' (litsF L') (fun _ => g.dn) (fun i => i ∈ g'.P (3 * kw.n))) ∧ Hid (c < g.nx ∧ g.gn c = false ∧ ∀ x ∈ g.lt c, valueF L' x = -1)) := by
  obtain ⟨g', L', p', h1, h2, h3⟩ := h
  rcases h3 with ⟨e1, h4, h5⟩ | ⟨c, e1, c1, c2, h4, c3⟩
  · exact .inl ⟨g', L', p', e1, h1, h2, h4, h5⟩
  · exact .inr ⟨g', L', p', c, e1, h1, h2, h4, c1, c2, c3⟩

theorem SpEnd.out {e : Ending} (h : SpEnd k kw g L lev p w e w1) :
    (∃ g' L' p', e = .returned (.pointer none) ∧ Hid (Mv k kw g L lev p w (kw.n * g.nx + 1) g' L' p' w1) ∧ Hid (g'.dn = L'.length ∧ Inv kw.n g' (litsF L') (fun _ => g'.dn) (fun _ => False))) ∨
    (∃ g' L' p' c, e = .returned (.pointer (some ⟨g.cb c, 0, none⟩)) ∧ Hid (Mv k kw g L lev p w (kw.n * g.nx + 1) g' L' p' w1) ∧ Hid (Inv kw.n g' (litsF L') (fun _ => g'.dn) (fun i => i ∈ g'.P (3 * kw.n))) ∧ Hid (c < g.nx ∧ g.gn c = false ∧ ∀ x ∈ g.lt c, valueF L' x = -1)) := by
  obtain ⟨g', L', p', h1, h2, h3⟩ := h
  rcases h3 with ⟨e1, h4, h5, _⟩ | ⟨c, e1, c1, c2, c3, h4⟩
  · exact .inl ⟨g', L', p', e1, h1, h4, h5⟩
  · exact .inr ⟨g', L', p', c, e1, h1, h4, c1, c2, c3⟩

/-- What held is kept. -/
theorem Mv.keep {g0 g' : G} {L' : List E} {p' : V} {B : Nat} (hm : Mv k kw g L lev p w B g' L' p' w1) (iv : Inv kw.n g' (litsF L') (fun _ => g'.dn) (fun i => i ∈ g'.P (3 * kw.n))) :
    Wa k kw (w1.setCell ⟨kw.OB, 5, none⟩ (.slice (litA p') L'.length L'.length)) { g' with hv := .slice (litA p') L'.length L'.length } L' lev p' (litsF L') ∧ FW kw.B w1 (w1.setCell ⟨kw.OB, 5, none⟩ (.slice (litA p') L'.length L'.length)) := by
  have F : FW kw.B w1 (w1.setCell ⟨kw.OB, 5, none⟩ (.slice (litA p') L'.length L'.length)) := FW.grown (grown_set w1 ⟨kw.OB, 5, none⟩ _) (fun i T e t => by cases e; rw [t.one ⟨_, _, hm.j.s.c.ob⟩]; simp [Wt]) (fun i e => by cases e; exact hm.j.s.c.lo.1)
  refine ⟨⟨hm.j.fw F (hm.j.s.puth _) rfl rfl rfl rfl, iv.like rfl rfl rfl rfl rfl rfl rfl rfl, hm.j.t.told.ft (FT.fw F), ⟨_, _, rfl⟩, fun x hx => ?_, by rw [litsF_len]; have := hm.j.t.len; omega, hm.rs.as rfl rfl rfl⟩, F⟩
  obtain ⟨r, hr⟩ := List.mem_iff_getElem?.1 hx
  obtain ⟨e, he, rfl⟩ := lits_at.1 hr
  have h1 := hm.j.t.lits_lt e (List.mem_of_getElem? he)
  have h2 := hm.j.n
  unfold vr at h1
  omega

theorem run_d {g1 g2 : G} {L2 : List E} {p2 : V} {B : Nat} (h1 : g1.dn ≤ L.length) (h2 : g2.dn = g1.dn) (m : Mv k kw g1 L lev p w B g2 L2 p2 w1) : g2.dn ≤ L2.length := by have := m.ex.len; omega
theorem run_n {g1 g2 : G} {L2 : List E} {p2 : V} {B : Nat} (h1 : g1.nx ≤ 1000000) (m : Mv k kw g1 L lev p w B g2 L2 p2 w1) : g2.nx ≤ 1000000 := by rw [m.sm.nx]; exact h1
theorem run_s {g1 g2 : G} {L2 : List E} {p2 : V} (h1 : tot kw.n g1 = tot kw.n g) (s : Same g g1) (m : Mv k kw g1 L lev p w 0 g2 L2 p2 w1) (h2 : g2.P (3 * kw.n) = []) (hs : tot kw.n g + kw.n * g.nx ≤ 300000000000) : sumL kw.n g2.P + kw.n * g2.nx ≤ 400000000000 := by
  have h3 := m.su
  rw [m.sm.nx, s.nx]
  unfold tot at h3
  rw [h2] at h3
  unfold tot at h1 hs
  simp only [List.length_nil] at h3
  omega
theorem run_mv {g1 g2 g3 : G} {L2 L3 : List E} {p2 p3 : V} {w2 w3 : World} (a : Mv k kw g1 L lev p w1 0 g2 L2 p2 w2) (b : Mv k kw g2 L2 lev p2 w2 (kw.n * g2.nx + 1) g3 L3 p3 w3) : Mv k kw g1 L lev p w1 (kw.n * g1.nx + 1) g3 L3 p3 w3 := by
  have := a.trans b
  rw [a.sm.nx, Nat.zero_add] at this
  exact this

theorem inv_dn {n : Nat} {g2 : G} {H : List Int} {d : Nat} {X : Nat → Prop} (h : Inv n g2 H (fun _ => d) X) (e : g2.dn = d) : Inv n g2 H (fun _ => g2.dn) X := by rw [e]; exact h

/-- A clause that is told. -/
theorem Mv.num {g' : G} {L' : List E} {p' : V} {B c : Nat} (hm : Mv k kw g L lev p w B g' L' p' w1) (hc : c < g.nx) (hg : g.gn c = false) : w1.cell? ⟨g.cb c, 0, none⟩ = some (.int .i64 c) ∧ ¬ g.cb c = kw.OB := by
  have h1 : c < g'.nx := by rw [hm.sm.nx]; exact hc
  have h2 : g'.gn c = false := by rw [hm.sm.gn]; exact hg
  rw [← hm.sm.cb]
  exact ⟨(hm.j.s.l.ks h1 h2).1, blk_ne (hm.j.s.l.cl c h1) hm.j.s.c.ob (by decide)⟩

set_option maxHeartbeats 4000000 in
theorem run_is (W : Wa k kw w g L lev p H) (hnx : g.nx ≤ 1000000) (hsu : tot kw.n g + kw.n * g.nx ≤ 300000000000) :
    Calls Tryz.prog 31 #[.pointer (some ⟨kw.OB, 0, none⟩), .pointer (some ⟨k.OB, 0, none⟩)] w fun e w' => RunEnd k kw g L lev p w e w' := by
  obtain ⟨ao, n, hv⟩ := W.hf
  have hn : n ≤ 10000000000000 := by
    have h1 := W.hl
    obtain ⟨_, _, _, e, h2, _⟩ := W.ht
    rw [hv] at e
    cases e
    omega
  have HW := hid W
  have HV := hid hv
  have hs0 : tot kw.n g ≤ 400000000000 := by omega
  clear W hv
  go_enter Tryz.func31, Tryz.ntmps31
  go_wp2_with (first
    | (go_at_call 47; with_reducible (refine (meet_is HW.out.j HW.out.iv HW.out.ht HV.out HW.out.hH hn hs0).mono ?_); rintro e w1 ⟨rfl, hme⟩; have hme2 := MeetEnd.out hme; obtain ⟨g1, J1, S1, I1, D1, U1, F1⟩ := hme2; have R1 := hid (HW.out.rs.as S1.out.nx S1.out.gn S1.out.lt); have hn1 := hid (show g1.nx ≤ 1000000 by rw [S1.out.nx]; exact hnx); have hs1 := hid (show tot kw.n g1 ≤ 400000000000 by rw [U1.out]; exact hs0))
    | (go_at_call 48; with_reducible (refine (settleAll_is J1.out I1.out R1.out D1.out hn1.out hs1.out).mono ?_); intro e w2 hae; have hae2 := AllEnd.out hae; rcases hae2 with ⟨g2, L2, p2, rfl, M2, D2, I2, P2⟩ | ⟨g2, L2, p2, c, rfl, M2, D2, I2, hbad⟩; rotate_left; have MF := hid (M2.out.weak (B' := kw.n * g1.nx + 1) (by omega)); have IF := hid (inv_dn I2.out D2.out); have c5 := MF.out.j.s.c5; have f5 := MF.out.j.s.of 5; rw [MF.out.sm.hv, S1.out.hv, HV.out] at c5; have NM := MF.out.num hbad.out.1 hbad.out.2.1; obtain ⟨nm1, nm2⟩ := NM; rotate_left)
    | (go_at_call 49; with_reducible (refine (spread_is M2.out.j (inv_dn I2.out D2.out) M2.out.rs P2.out (run_d D1.out D2.out M2.out) (run_n hn1.out M2.out) (run_s U1.out S1.out M2.out P2.out hsu)).mono ?_); intro e w3 hsp; have hsp2 := SpEnd.out hsp; rcases hsp2 with ⟨g3, L3, p3, rfl, M3, I3⟩ | ⟨g3, L3, p3, c, rfl, M3, I3, hbad⟩; have MF := hid (run_mv M2.out M3.out); have IF := hid (I3.out.2.mono (X' := fun i => i ∈ g3.P (3 * kw.n)) (fun _ => Nat.le_refl _) (fun i hi => hi.elim)); have c5 := MF.out.j.s.c5; have f5 := MF.out.j.s.of 5; rw [MF.out.sm.hv, S1.out.hv, HV.out] at c5; rotate_left; have MF := hid (run_mv M2.out M3.out); have IF := hid I3.out; have c5 := MF.out.j.s.c5; have f5 := MF.out.j.s.of 5; rw [MF.out.sm.hv, S1.out.hv, HV.out] at c5; have NM := M3.out.num hbad.out.1 hbad.out.2.1; obtain ⟨nm1, nm2⟩ := NM; rotate_left)
    | (go_at_call 50; with_reducible (refine (lits_det MF.out.j.t rfl).mono ?_); rintro e w4 ⟨rfl, rfl⟩))
  · obtain ⟨WF, FF⟩ := Mv.keep (g0 := g) MF.out IF.out
    go_ret2
    refine ⟨_, _, _, WF, (S1.out.sm.trans MF.out.sm.sm).trans ⟨rfl, rfl, rfl, rfl, rfl, rfl, rfl⟩, MF.out.ex, ?_, ((FT.fw F1.out).trans MF.out.ft).trans (FT.fw FF), fun j hj => litA_mine hj, .inl ⟨rfl, ?_⟩⟩
    · have := MF.out.su
      rw [U1.out, S1.out.nx] at this
      exact this
    · exact I3.out.2.closed I3.out.1 MF.out.j.t.nd
  · obtain ⟨WF, FF⟩ := Mv.keep (g0 := g) MF.out IF.out
    go_ret2
    refine ⟨_, _, _, WF, (S1.out.sm.trans MF.out.sm.sm).trans ⟨rfl, rfl, rfl, rfl, rfl, rfl, rfl⟩, MF.out.ex, ?_, ((FT.fw F1.out).trans MF.out.ft).trans (FT.fw FF), fun j hj => litA_mine hj, .inr ⟨c, rfl, ?_, ?_, ?_⟩⟩
    · have := MF.out.su
      rw [U1.out, S1.out.nx] at this
      exact this
    · rw [← S1.out.nx, ← M2.out.sm.nx]; exact hbad.out.1
    · rw [← S1.out.gn, ← M2.out.sm.gn]; exact hbad.out.2.1
    · rw [← S1.out.lt, ← M2.out.sm.lt]; exact hbad.out.2.2
  · obtain ⟨WF, FF⟩ := Mv.keep (g0 := g) MF.out IF.out
    go_ret2
    refine ⟨_, _, _, WF, (S1.out.sm.trans MF.out.sm.sm).trans ⟨rfl, rfl, rfl, rfl, rfl, rfl, rfl⟩, MF.out.ex, ?_, ((FT.fw F1.out).trans MF.out.ft).trans (FT.fw FF), fun j hj => litA_mine hj, .inr ⟨c, rfl, ?_, ?_, ?_⟩⟩
    · have := MF.out.su
      rw [U1.out, S1.out.nx] at this
      exact this
    · rw [← S1.out.nx]; exact hbad.out.1
    · rw [← S1.out.gn]; exact hbad.out.2.1
    · rw [← S1.out.lt]; exact hbad.out.2.2
end

end Go.Proofs.YtimfjoinjfecjaaGreat

namespace Go.Proofs.YtimfjoinjfecjaaGreat
open Go.RowKit Go.Maps
set_option linter.unusedVariables false

theorem Tryz.info82 : (Tryz.prog.info? 82).map (fun i => (i.zero, i.size, i.bytes)) = some (some (.slice none 0 0), 1, 24) := by kernel_rfl
theorem Tryz.info144 : (Tryz.prog.info? 144).map (fun i => (i.zero, i.size, i.bytes)) = some (some (.agg #[.int .i64 0, .slice none 0 0]), 2, 32) := by kernel_rfl

def zrows (m : Nat) : Array Value := madeCells #[.slice none 0 0] m
def zfact (m : Nat) : Array Value := madeCells #[.int .i64 0, .slice none 0 0] (m * 2)

theorem make64 (n : Nat) (hn : n ≤ 2097152) (w : World) : (Instr.makeSlice 79 (.int .i64 n) (.int .i64 n)).run Tryz.prog w = .ok (.slice (some ⟨w.heap.size, 0, none⟩) n n) (w.alloc (.cells (zrows n) 82)) := by
  obtain ⟨i0, hi, hz0, hz1, hz2⟩ := info_parts Tryz.info82
  have := run_make (P := Tryz.prog) w 79 82 i0 (.slice none 0 0) Tryz.underlying79 hi hz0 .i64 .i64 n n (by omega) (Int.le_refl _) (by rw [hz2]; omega) (by omega)
  rw [this, hz1]
  simp [Value.cells, zrows]

theorem make65 (n : Nat) (hn : n ≤ 1048576) (w : World) : (Instr.makeSlice 80 (.int .i64 n) (.int .i64 n)).run Tryz.prog w = .ok (.slice (some ⟨w.heap.size, 0, none⟩) n n) (w.alloc (.cells (zfact n) 144)) := by
  obtain ⟨i0, hi, hz0, hz1, hz2⟩ := info_parts Tryz.info144
  have := run_make (P := Tryz.prog) w 80 144 i0 (.agg #[.int .i64 0, .slice none 0 0]) Tryz.underlying80 hi hz0 .i64 .i64 n n (by omega) (Int.le_refl _) (by rw [hz2]; omega) (by omega)
  rw [this, hz1]
  simp [Value.cells, zfact]

theorem zrows_at {m j : Nat} (h : j < m) : (zrows m)[j]? = some (.slice none 0 0) := by
  simp only [zrows, madeCells, Array.getElem?_map, Array.getElem?_range, if_pos h]
  simp [Nat.mod_one]

theorem zfact_at {m j : Nat} (h : j < m) : (zfact m)[j * 2]? = some (.int .i64 0) ∧ (zfact m)[j * 2 + 1]? = some (.slice none 0 0) := by
  simp only [zfact, madeCells, Array.getElem?_map, Array.getElem?_range, if_pos (show j * 2 < m * 2 by omega), if_pos (show j * 2 + 1 < m * 2 by omega)]
  have e1 : j * 2 % 2 = 0 := by omega
  have e2 : (j * 2 + 1) % 2 = 1 := by omega
  simp [e1, e2]

/-- A watch that has nothing. -/
def g0 : G := ⟨0, fun _ => 0, fun _ => [], fun _ => .slice none 0 0, fun _ => 0, fun _ => 0, fun _ => 0, fun _ => false, fun _ => [], fun _ => .slice none 0 0, fun _ => 0, none, .slice none 0 0, 0, 0⟩

theorem St.zero {k : WK} {w : World} (hn : k.n ≤ 1048576) (ho : w.heap[k.OB]? = some (.cells #[.map none, .int .i64 0, .slice (some ⟨k.WB, 0, none⟩) (2 * k.n) (2 * k.n), .slice (some ⟨k.FB, 0, none⟩) k.n k.n, .slice none 0 0, .slice none 0 0, .int .i64 0, .int .i64 0] 84 (0, 0)))
    (hw : w.heap[k.WB]? = some (.cells (zrows (2 * k.n)) 82 (0, 0))) (hf : w.heap[k.FB]? = some (.cells (zfact k.n) 144 (0, 0))) (hlo : k.B ≤ k.OB ∧ k.B ≤ k.WB ∧ k.B ≤ k.FB) : St k w g0 := by
  refine ⟨⟨ho, ⟨_, hw, by simp [zrows, size_madeCells], fun i hi => zrows_at hi⟩, ⟨_, hf, by simp [zfact, size_madeCells], fun v hv => zfact_at hv⟩, hlo⟩, hn, ?_, ?_, fun s _ => PRow.nil w _, ?_, ?_, ?_, .inl ⟨rfl, rfl⟩, ?_, ?_, ?_⟩
  · intro i hi; simp [g0] at hi
  · intro i j hi; simp [g0] at hi
  · intro s _ i hi; simp [g0] at hi
  · intro s t _ _ _ j hj; simp [g0, Value.ownBlock] at hj
  · intro i hi; simp [g0] at hi
  · intro i hi; simp [g0] at hi
  · intro s _ j hj; simp [g0, Value.ownBlock] at hj
  · intro mb h; simp [g0] at h

def WNewEnd (n : Int) (w : World) (OB : Nat) (w' : World) : Prop := ∀ B, B ≤ w.heap.size → ∃ k : WK, k.OB = OB ∧ k.B = B ∧ k.n = cntF n ∧ St k w' g0 ∧ Below w.heap.size w w'

theorem wnew_end {n : Int} {m OB WB FB : Nat} {w w' : World} (hm : cntF n = m) (hle : m ≤ 1048576) (b : Below w.heap.size w w')
    (ho : w'.heap[OB]? = some (.cells #[.map none, .int .i64 0, .slice (some ⟨WB, 0, none⟩) (2 * m) (2 * m), .slice (some ⟨FB, 0, none⟩) m m, .slice none 0 0, .slice none 0 0, .int .i64 0, .int .i64 0] 84 (0, 0)))
    (hw : w'.heap[WB]? = some (.cells (zrows (2 * m)) 82 (0, 0))) (hf : w'.heap[FB]? = some (.cells (zfact m) 144 (0, 0))) (hlo : w.heap.size ≤ OB ∧ w.heap.size ≤ WB ∧ w.heap.size ≤ FB) : WNewEnd n w OB w' :=
  fun B hB => ⟨⟨m, OB, WB, FB, B⟩, rfl, rfl, hm.symm, St.zero hle ho hw hf ⟨Nat.le_trans hB hlo.1, Nat.le_trans hB hlo.2.1, Nat.le_trans hB hlo.2.2⟩, b⟩

theorem three (w : World) (o1 o2 o3 : Obj) : (((w.alloc o1).alloc o2).alloc o3).drew.heap[w.heap.size]? = some o1 ∧ (((w.alloc o1).alloc o2).alloc o3).drew.heap[w.heap.size + 1]? = some o2 ∧ (((w.alloc o1).alloc o2).alloc o3).drew.heap[w.heap.size + 1 + 1]? = some o3 := by
  have e1 : (w.alloc o1).heap.size = w.heap.size + 1 := by simp
  have e2 : ((w.alloc o1).alloc o2).heap.size = w.heap.size + 1 + 1 := by simp
  refine ⟨?_, ?_, ?_⟩
  · show (((w.alloc o1).alloc o2).alloc o3).heap[w.heap.size]? = some o1
    rw [(grown_new ((w.alloc o1).alloc o2) o3 none).block _ (by rw [e2]; omega) (by simp), (grown_new (w.alloc o1) o2 none).block _ (by rw [e1]; omega) (by simp)]
    exact new_same w _
  · show (((w.alloc o1).alloc o2).alloc o3).heap[w.heap.size + 1]? = some o2
    rw [(grown_new ((w.alloc o1).alloc o2) o3 none).block _ (by rw [e2]; omega) (by simp)]
    have := new_same (w.alloc o1) o2
    rw [e1] at this; exact this
  · show (((w.alloc o1).alloc o2).alloc o3).heap[w.heap.size + 1 + 1]? = some o3
    have := new_same ((w.alloc o1).alloc o2) o3
    rw [e2] at this; exact this

theorem wnew_two {n : Int} {m m2 : Nat} (w : World) (hm : cntF n = m) (h2 : m2 = 2 * m) (hle : m ≤ 1048576) :
    (∃ OB, .returned (.pointer (some ⟨w.heap.size + 1 + 1, 0, none⟩)) = Ending.returned (.pointer (some ⟨OB, 0, none⟩)) ∧ WNewEnd n w OB (((w.alloc (.cells (zrows m2) 82)).alloc (.cells (zfact m) 144)).alloc (.cells #[.map none, .int .i64 0, .slice (some ⟨w.heap.size, 0, none⟩) m2 m2, .slice (some ⟨w.heap.size + 1, 0, none⟩) m m, .slice none 0 0, .slice none 0 0, .int .i64 0, .int .i64 0] 84)).drew) ∧
    (∃ OB, .returned (.pointer (some ⟨w.heap.size + 1 + 1, 0, none⟩)) = Ending.returned (.pointer (some ⟨OB, 0, none⟩)) ∧ WNewEnd n w OB (((w.alloc (.cells (zfact m) 144)).alloc (.cells (zrows m2) 82)).alloc (.cells #[.map none, .int .i64 0, .slice (some ⟨w.heap.size + 1, 0, none⟩) m2 m2, .slice (some ⟨w.heap.size, 0, none⟩) m m, .slice none 0 0, .slice none 0 0, .int .i64 0, .int .i64 0] 84)).drew) := by
  subst h2
  refine ⟨⟨_, rfl, ?_⟩, ⟨_, rfl, ?_⟩⟩
  · obtain ⟨a1, a2, a3⟩ := three w (.cells (zrows (2 * m)) 82) (.cells (zfact m) 144) (.cells #[.map none, .int .i64 0, .slice (some ⟨w.heap.size, 0, none⟩) (2 * m) (2 * m), .slice (some ⟨w.heap.size + 1, 0, none⟩) m m, .slice none 0 0, .slice none 0 0, .int .i64 0, .int .i64 0] 84)
    exact wnew_end hm hle (by go_grown) a3 a1 a2 (by omega)
  · obtain ⟨a1, a2, a3⟩ := three w (.cells (zfact m) 144) (.cells (zrows (2 * m)) 82) (.cells #[.map none, .int .i64 0, .slice (some ⟨w.heap.size + 1, 0, none⟩) (2 * m) (2 * m), .slice (some ⟨w.heap.size, 0, none⟩) m m, .slice none 0 0, .slice none 0 0, .int .i64 0, .int .i64 0] 84)
    exact wnew_end hm hle (by go_grown) a3 a2 a1 (by omega)

set_option maxHeartbeats 1000000 in
theorem wnew_any (n : Int) (w : World) : Calls Tryz.prog 26 #[.int .i64 n] w fun e w' => ∃ OB, e = .returned (.pointer (some ⟨OB, 0, none⟩)) ∧ WNewEnd n w OB w' := by
  by_cases h0 : n < 0
  · have HC : Hid (cntF n = 0) := hid (by simp [cntF, h0])
    have hmk := make65 0 (by omega)
    have hmk2 := make64 0 (by omega)
    simp only [Int.natCast_zero] at hmk hmk2
    go_enter Tryz.func26, Tryz.ntmps26
    go_wp2
    go_region
    all_goals go_wp2
    all_goals go_ret
    · exact (wnew_two w HC.out rfl (by omega)).1
    · exact (wnew_two w HC.out rfl (by omega)).2
  · by_cases h1 : 1048576 < n
    · have HC : Hid (cntF n = 0) := hid (by simp [cntF, h1])
      have hmk := make65 0 (by omega)
      have hmk2 := make64 0 (by omega)
      simp only [Int.natCast_zero] at hmk hmk2
      go_enter Tryz.func26, Tryz.ntmps26
      go_wp2
      go_region
      all_goals go_wp2
      all_goals go_ret
      · exact (wnew_two w HC.out rfl (by omega)).1
      · exact (wnew_two w HC.out rfl (by omega)).2
    · obtain ⟨m, rfl⟩ : ∃ m : Nat, n = m := ⟨n.toNat, by omega⟩
      have HC : Hid (cntF m = m) := hid (by simp only [cntF]; rw [if_neg (by omega)]; omega)
      have h1' : m ≤ 1048576 := by omega
      obtain ⟨m2, hm2⟩ : ∃ m2 : Nat, m2 = 2 * m := ⟨_, rfl⟩
      have hmk := make65 m h1'
      have hmk2 := make64 m2 (by omega)
      have hmul : (2 * (m : Int)) = (m2 : Int) := by omega
      have h1d : decide ((1048576 : Int) < m) = false := by simp; omega
      have HM := hid hm2
      have hb2 : (m2 : Int) ≤ 2097152 := by omega
      clear hm2
      go_enter Tryz.func26, Tryz.ntmps26
      go_wp2
      go_region
      all_goals go_wp2
      all_goals go_ret
      · exact (wnew_two w HC.out HM.out h1').1
      · exact (wnew_two w HC.out HM.out h1').2

/-- A new watch beside a new trail. -/
theorem Wa.new {k : K} {kw : WK} {w : World} (t : Trl k w [] 0 noV) (s : St kw w g0) (hn : k.n = kw.n) (hb : kw.B ≤ k.B) : Wa k kw w g0 [] 0 noV [] := by
  refine ⟨⟨t, s, hn, hb, ?_⟩, ⟨?_, ?_, ?_, ?_, ?_, ?_, ?_⟩, Told.nil k _ w, ⟨none, 0, rfl⟩, by simp, by simp, ?_⟩
  · intro i hi; simp [g0] at hi
  · intro i hi; simp [g0] at hi
  · intro i hi; simp [g0] at hi
  · intro i hi; simp [g0] at hi
  · intro l hl i hi; simp [g0] at hi
  · intro l hl; simp [g0]
  · intro q x hx; simp at hx
  · intro i hi; simp [g0] at hi
  · intro q e he; simp at he

end Go.Proofs.YtimfjoinjfecjaaGreat

namespace Go.Proofs.YtimfjoinjfecjaaGreat
open Go.RowKit Go.Maps
set_option linter.unusedVariables false

/-- A list that lies in a block of its own. -/
def Cpy (w w' : World) (ao : Option Addr) (n c : Nat) (xs : List Int) : Prop := U.Row w' ao n c xs ∧ ((ao = none ∧ n = 0 ∧ c = 0) ∨ ∃ b, ao = some ⟨b, 0, none⟩ ∧ Typ w' b 3 ∧ w.heap.size ≤ b)

theorem own_empty (w : World) : U.Own (w.alloc (.cells #[] 3)) w.heap.size (.slice (some ⟨w.heap.size, 0, none⟩) 0 0) [] := by
  refine ⟨⟨by simp, .inr ⟨w.heap.size, 0, #[], rfl, Nat.le_refl _, new_same w _, by simp, by unfold maxLen; omega, by simp, by simp⟩⟩, fun x hx => by simp at hx⟩

theorem own_cl {w w' : World} {v : Value} {xs : List Int} (h : U.Own w' w.heap.size v xs) : ∃ ao c, v = .slice ao xs.length c ∧ Cpy w w' ao xs.length c xs := by
  obtain ⟨ao, c, e, r⟩ := h.row
  refine ⟨ao, c, e, r, ?_⟩
  have h2 := h.1.2
  rcases h2 with ⟨h1, h2⟩ | ⟨g, cap, cur, e2, h1, h2, _⟩
  · rw [e] at h1; simp only [Value.slice.injEq] at h1; exact .inl ⟨h1.1, h2, h1.2.2⟩
  · rw [e] at e2; cases e2; exact .inr ⟨g, rfl, ⟨_, _, h2⟩, h1⟩

theorem clone_is {w : World} {ao : Option Addr} {n c : Nat} {xs : List Int} (row : U.Row w ao n c xs) (hn : n ≤ 1000) :
    Calls Tryz.prog 71 #[.slice ao n c] w fun e w' => ∃ ao' c', e = .returned (.slice ao' n c') ∧ Hid (Cpy w w' ao' n c' xs) ∧ Hid (Below w.heap.size w w') := by
  cases ao with
  | none =>
    have hc := row.2.2.2.1 rfl
    have hnc := row.2.1
    obtain rfl : n = 0 := by omega
    subst hc
    have HR := hid row
    clear row
    have hq := Lib.run_eql_slice_nil (P := Tryz.prog) w 42 3 none 0 0 0 0 Tryz.underlying42
    go_enter Tryz.func71, Tryz.ntmps71
    go_wp2
    go_ret
    exact ⟨none, 0, rfl, ⟨HR.out, .inl ⟨rfl, rfl, rfl⟩⟩, Below.refl _ _⟩
  | some a =>
    have B1 : Below w.heap.size w (w.alloc (.cells #[] 3)) := by go_grown
    have HR : Hid (U.Row (w.alloc (.cells #[] 3)) (some a) n c xs) := hid (row.keep B1)
    have HO := hid (own_empty w)
    have HL := hid row.1
    have HB := hid B1
    clear row B1
    have hq := Lib.run_eql_slice_nil (P := Tryz.prog) w 42 3 (some a) n c 0 0 Tryz.underlying42
    go_enter Tryz.func71, Tryz.ntmps71
    go_wp2_with (at_builtin; refine U.append_ints rfl _ _ rfl w.heap.size _ [] xs rfl HO.out (some a) n c rfl HR.out (by simp; omega) (by simp) ?_; intro v' w' o b)
    go_ret
    obtain ⟨ao', c', rfl, h⟩ := own_cl o.out
    rw [List.nil_append, HL.out] at h
    have hl : ([] ++ xs).length = n := HL.out
    rw [hl]
    exact ⟨ao', c', rfl, h, HB.out.trans b.out⟩

theorem clip_is {w w0 : World} {ao : Option Addr} {n c : Nat} {xs : List Int} (h : Cpy w0 w ao n c xs) :
    Calls Tryz.prog 70 #[.slice ao n c] w fun e w' => e = .returned (.slice ao n n) ∧ w' = w := by
  obtain ⟨row, hh⟩ := h
  have hnc := row.2.1
  have hm := row.max
  have hm2 := row.2.2.1
  unfold maxLen at hm2
  rcases hh with ⟨rfl, rfl, rfl⟩ | ⟨b, rfl, _, _⟩
  · clear row
    go_enter Tryz.func70, Tryz.ntmps70
    go_wp2
    go_ret
    exact ⟨rfl, rfl⟩
  · clear row
    have hd : (n : Int) ≤ c := by omega
    go_enter Tryz.func70, Tryz.ntmps70
    go_wp2
    go_ret
    exact ⟨rfl, rfl⟩

theorem Cpy.full {w w' : World} {ao : Option Addr} {n c : Nat} {xs : List Int} (h : Cpy w w' ao n c xs) : Cpy w w' ao n n xs := by
  obtain ⟨r, h⟩ := h
  have h1 := r.2.1
  have h2 := r.2.2.1
  refine ⟨⟨r.1, Nat.le_refl _, by omega, fun e => by have := r.2.2.2.1 e; omega, r.2.2.2.2⟩, ?_⟩
  rcases h with ⟨a1, a2, a3⟩ | h
  · exact .inl ⟨a1, a2, by omega⟩
  · exact .inr h

theorem Cpy.lit {w w' : World} {ao : Option Addr} {n c : Nat} {xs : List Int} (h : Cpy w w' ao n c xs) : LitRow w' (.slice ao n c) xs ∧ ∀ j, (Value.slice ao n c).ownBlock = some j → 0 < xs.length → w.heap.size ≤ j := by
  obtain ⟨r, h⟩ := h
  refine ⟨⟨ao, n, c, rfl, r, fun h0 => ?_⟩, fun j hj h0 => ?_⟩
  · rcases h with ⟨_, h1, _⟩ | ⟨b, rfl, ht, _⟩
    · omega
    · exact ⟨b, 0, rfl, ht⟩
  · rcases h with ⟨rfl, h1, _⟩ | ⟨b, rfl, ht, hb⟩
    · simp [Value.ownBlock] at hj
    · simp [Value.ownBlock] at hj; omega

theorem Cpy.next {w w1 w' w2 : World} {ao : Option Addr} {n c : Nat} {xs : List Int} (h : Cpy w w' ao n c xs) (b : Below w'.heap.size w' w2) : Cpy w w2 ao n c xs := by
  obtain ⟨r, h⟩ := h
  refine ⟨r.keep b, h.elim .inl (fun ⟨q, e, ht, hb⟩ => .inr ⟨q, e, ht.same (b.block _ ht.lt), hb⟩)⟩

end Go.Proofs.YtimfjoinjfecjaaGreat

namespace Go.Proofs.YtimfjoinjfecjaaGreat
open Go.RowKit Go.Maps
set_option linter.unusedVariables false

def addG (g : G) (cn : Nat) (lv : Value) (xs : List Int) (mb : Nat) : G :=
  { g with nx := g.nx + 1, cb := up g.cb g.nx cn, lt := up g.lt g.nx xs, lv := up g.lv g.nx lv, a := up g.a g.nx (-1), b := up g.b g.nx (-1), fr := up g.fr g.nx 0, gn := up g.gn g.nx false, mp := some mb }

section
variable {k : WK} {w w' : World} {g : G} {cn mb : Nat} {lv : Value} {xs : List Int}

theorem live_iff {x : Int} : live g x = true ↔ 0 ≤ x ∧ x < g.nx ∧ g.gn x.toNat = false := by
  simp [live, and_assoc]

theorem live_add (x : Int) (hx : x ≠ g.nx) : live (addG g cn lv xs mb) x = live g x := by
  rw [Bool.eq_iff_iff, live_iff, live_iff]
  show 0 ≤ x ∧ x < ((g.nx + 1 : Nat) : Int) ∧ up g.gn g.nx false x.toNat = false ↔ _
  by_cases h : 0 ≤ x ∧ x < g.nx
  · rw [up_ne _ _ (by omega)]
    exact ⟨fun q => ⟨h.1, h.2, q.2.2⟩, fun q => ⟨h.1, by omega, q.2.2⟩⟩
  · exact ⟨fun q => absurd ⟨q.1, by omega⟩ h, fun q => absurd ⟨q.1, q.2.1⟩ h⟩

theorem live_new : live (addG g cn lv xs mb) g.nx = true := by
  rw [live_iff]
  refine ⟨by omega, ?_, up_same _ _ _⟩
  show (g.nx : Int) < ((g.nx + 1 : Nat) : Int)
  omega

theorem live_no : live g g.nx = false := by
  rw [Bool.eq_false_iff, ne_eq, live_iff]
  omega

theorem liveN_add : liveN (addG g cn lv xs mb) = liveN g + 1 := by
  simp only [liveN, addG]
  rw [List.range_succ, List.filter_append, List.length_append]
  have h1 : (List.range g.nx).filter (fun i => !up g.gn g.nx false i) = (List.range g.nx).filter (fun i => !g.gn i) := by
    apply List.filter_congr
    intro i hi
    rw [up_ne _ _ (by have := List.mem_range.1 hi; omega)]
  rw [h1]
  simp [up_same]

theorem MapAt.add {D : DataW (Option Addr)} (m : MapAt w g mb D) (h : w'.ownsMap Tryz.prog 3 ptrElem mb (g.nx + 1) (D.put (.int .i64 g.nx) (.held (some ⟨cn, 0, none⟩)))) :
    MapAt w' (addG g cn lv xs mb) mb (D.put (.int .i64 g.nx) (.held (some ⟨cn, 0, none⟩))) := by
  refine ⟨h, fun x => ?_, fun x => ?_, ?_⟩
  · by_cases e : x = g.nx
    · subst e
      rw [atKey_put_same m.own.isMap (by trivial), live_new]
      simp [addG, up_same]
    · rw [atKey_put_other (by simpa using e), m.val x, live_add x e]
      by_cases hl : live g x = true
      · have : x.toNat ≠ g.nx := by
          simp only [live, Bool.and_eq_true, decide_eq_true_eq] at hl
          omega
        simp only [addG, hl, if_true]
        rw [up_ne _ _ this]
      · rw [if_neg hl, if_neg hl]
  · by_cases e : x = g.nx
    · subst e
      rw [has_put_same m.own.isMap (by trivial), live_new]
    · rw [has_put_other (by simpa using e), m.has x, live_add x e]
  · rw [size_put (m.own.tidy law3), m.has, live_no, m.size, liveN_add]
    rfl

theorem Lst.add {D : DataW (Option Addr)} (l : Lst k w g) (gr : w.grownBy w' (some mb)) {es : Array MapEntry} {clock : Nat} (hmb : w.heap[mb]? = some (Obj.map es clock))
    (hc : w.heap[cn]? = some (.cells #[.int .i64 g.nx, lv, .int .i64 (-1), .int .i64 (-1), .int .i64 0, .bool false] 97 (0, 0))) (hf : ∀ i, i < g.nx → g.cb i ≠ cn) (hl : LitRow w lv xs) (hlo : k.B ≤ cn ∧ k.B ≤ mb)
    (hm : MapAt w' (addG g cn lv xs mb) mb D) : Lst k w' (addG g cn lv xs mb) := by
  have key : ∀ j T, Typ w j T → w'.heap[j]? = w.heap[j]? := fun j T ⟨c, f, t⟩ => gr.block j (blk_lt t) (fun e => by
    rw [Option.some.inj e, hmb] at t; cases t)
  refine ⟨l.hn, fun i hi => ?_, fun i j hi hj e => ?_, fun s hs => ?_, fun s hs i hi => ?_, l.ne, fun i hi hgi => ?_, .inr ⟨mb, D, rfl, hm⟩, fun i hi => ?_, l.lo.p, fun mb' e => by cases e; exact hlo.2⟩
  · change i < g.nx + 1 at hi
    by_cases e : i = g.nx
    · subst e
      simp only [addG, clc, up_same]
      rw [key _ 97 ⟨_, _, hc⟩, hc]
      rfl
    · have h := l.cl i (by omega)
      simp only [addG, clc, up_ne _ _ e]
      rw [key _ 97 ⟨_, _, h⟩, h, clc]
  · change i < g.nx + 1 at hi
    change j < g.nx + 1 at hj
    simp only [addG] at e
    by_cases e1 : i = g.nx <;> by_cases e2 : j = g.nx
    · omega
    · subst e1
      rw [up_same, up_ne _ _ e2] at e
      exact absurd e.symm (hf j (by omega))
    · subst e2
      rw [up_same, up_ne _ _ e1] at e
      exact absurd e (hf i (by omega))
    · rw [up_ne _ _ e1, up_ne _ _ e2] at e
      exact l.inj i j (by omega) (by omega) e
  · refine PRow.as (cb := g.cb) ((l.rw s hs).same (fun j c f e _ => key j 92 ⟨_, _, e⟩)) (fun i hi => ?_)
    exact up_ne _ _ (by have := l.sub s hs i hi; omega)
  · have := l.sub s hs i hi
    show i < g.nx + 1
    omega
  · change i < g.nx + 1 at hi
    simp only [addG] at hgi ⊢
    by_cases e : i = g.nx
    · subst e
      rw [up_same, up_same]
      exact hl.same (fun j _ _ t => key j 3 t)
    · rw [up_ne _ _ e, up_ne _ _ e]
      rw [up_ne _ _ e] at hgi
      exact (l.li i (by omega) hgi).same (fun j _ _ t => key j 3 t)
  · change i < g.nx + 1 at hi
    simp only [addG]
    by_cases e : i = g.nx
    · subst e; rw [up_same]; exact hlo.1
    · rw [up_ne _ _ e]; exact l.lo.c i (by omega)

theorem Inv.add {n : Nat} {H : List Int} {d : Nat} {X : Nat → Prop} (iv : Inv n g H (fun _ => d) X) (hx : ∀ x ∈ xs, 0 ≤ x ∧ x < 2 * n) (hs : ∀ s, s ≤ 3 * n → ∀ i ∈ g.P s, i < g.nx) : Inv n (addG g cn lv xs mb) H (fun _ => d) (fun i => X i ∨ i = g.nx) := by
  refine ⟨fun i hi hgi => ?_, fun i hi hgi => ?_, fun i hi hgi => ?_, fun l hl i hi hgi => ?_, iv.nd, iv.pl, fun i hi hgi => ?_⟩
  · change i < g.nx + 1 at hi
    simp only [addG] at hgi ⊢
    by_cases e : i = g.nx
    · subst e; rw [up_same]; exact hx
    · rw [up_ne _ _ e]; rw [up_ne _ _ e] at hgi; exact iv.rg i (by omega) hgi
  · change i < g.nx + 1 at hi
    simp only [addG] at hgi ⊢
    by_cases e : i = g.nx
    · subst e; rw [up_same, up_same]
      cases xs with
      | nil => exact .inr rfl
      | cons y ys => exact .inl (by simp)
    · rw [up_ne _ _ e, up_ne _ _ e]; rw [up_ne _ _ e] at hgi; exact iv.fr i (by omega) hgi
  · change i < g.nx + 1 at hi
    by_cases e : i = g.nx
    · subst e; exact .inl ⟨up_same _ _ _, up_same _ _ _⟩
    · have hgi' : g.gn i = false := by rw [← up_ne g.gn false e]; exact hgi
      have h := iv.wt i (by omega) hgi'
      unfold WtOk at h ⊢
      simp only [addG, up_ne _ _ e]
      exact h
  · have hin := hs l (by omega) i hi
    have e : i ≠ g.nx := by omega
    have hgi' : g.gn i = false := by rw [← up_ne g.gn false e]; exact hgi
    have h := iv.sd l hl i hi hgi'
    simp only [addG, up_ne _ _ e]
    exact h
  · change i < g.nx + 1 at hi
    by_cases e : i = g.nx
    · exact .inl (.inr e)
    · have hgi' : g.gn i = false := by rw [← up_ne g.gn false e]; exact hgi
      rcases iv.ok i (by omega) hgi' with h | h
      · exact .inl (.inl h)
      · refine .inr ?_
        exact h.as (up_ne _ _ e) (up_ne _ _ e) (up_ne _ _ e) (fun v hv => hv)

theorem Rs.add {L : List E} (h : Rs g L) : Rs (addG g cn lv xs mb) L := by
  intro q e he hr
  obtain ⟨c, h1, h2, h3, h4, h5⟩ := h q e he hr
  have hne : c ≠ g.nx := by omega
  refine ⟨c, h1, ?_, ?_, ?_⟩
  · show c < g.nx + 1; omega
  · simp only [addG]; rw [up_ne _ _ hne]; exact h3
  · simp only [addG]; rw [up_ne _ _ hne]; exact ⟨h4, h5⟩
end

/-- What Add has made. -/
structure AddD (n sz : Nat) (g g' : G) (xs : List Int) : Prop where
  nx : g'.nx = g.nx + 1
  lt : g'.lt = up g.lt g.nx xs
  gn : g'.gn = up g.gn g.nx false
  su : tot n g' = tot n g + 1
  rm : g'.rm = g.rm
  hv : g'.hv = g.hv
  lo : ∃ lv, g'.lv = up g.lv g.nx lv ∧ ∀ j, lv.ownBlock = some j → 0 < xs.length → sz ≤ j
  a : g'.a = up g.a g.nx (-1)
  b : g'.b = up g.b g.nx (-1)
  fr : g'.fr = up g.fr g.nx 0
  P : g'.P = up g.P (3 * n) (g.P (3 * n) ++ [g.nx])
  pl : g'.pl = g.pl
  dn : g'.dn = g.dn

end Go.Proofs.YtimfjoinjfecjaaGreat

namespace Go.Proofs.YtimfjoinjfecjaaGreat
open Go.RowKit Go.Maps
set_option linter.unusedVariables false

/-! ### The clause is there -/
/-- The clause is laid, and its number used; the map is one, and does not have it yet. -/
structure Mid (kw : WK) (w : World) (g : G) (cn : Nat) (lv : Value) (xs : List Int) (mb : Nat) (D : DataW (Option Addr)) : Prop where
  c : Con kw w (addG g cn lv xs mb)
  l : Lst kw w g
  m : w.ownsMap Tryz.prog 3 ptrElem mb g.nx D ∧ (∀ x : Int, D.atKey (.int .i64 x) (.held none) = .held (if live g x = true then some ⟨g.cb x.toNat, 0, none⟩ else none)) ∧ (∀ x : Int, Maps.has D (.int .i64 x) = live g x) ∧ Maps.size D = liveN g
  hc : w.heap[cn]? = some (.cells #[.int .i64 g.nx, lv, .int .i64 (-1), .int .i64 (-1), .int .i64 0, .bool false] 97 (0, 0))
  hf : ∀ i, i < g.nx → g.cb i ≠ cn
  hl : LitRow w lv xs
  lo : kw.B ≤ cn ∧ kw.B ≤ mb

theorem MapAt.parts {w : World} {g : G} {mb : Nat} {D : DataW (Option Addr)} (m : MapAt w g mb D) : w.ownsMap Tryz.prog 3 ptrElem mb g.nx D ∧ (∀ x : Int, D.atKey (.int .i64 x) (.held none) = .held (if live g x = true then some ⟨g.cb x.toNat, 0, none⟩ else none)) ∧ (∀ x : Int, Maps.has D (.int .i64 x) = live g x) ∧ Maps.size D = liveN g := ⟨m.own, m.val, m.has, m.size⟩

section
variable {k : K} {kw : WK} {w w1 w2 : World} {g : G} {cn mb : Nat} {lv : Value} {xs : List Int} {D : DataW (Option Addr)}

theorem Con.map (h : Con kw w g) {es : Array MapEntry} {q : Nat} (hm : w.heap[mb]? = some (.map es q)) (gr : w.grownBy w1 (some mb)) : Con kw w1 g := by
  refine h.other gr (fun j T e t => ?_)
  cases e
  obtain ⟨c, f, t⟩ := t
  rw [hm] at t; cases t

/-- It is in the map. -/
theorem Mid.put (h : Mid kw w g cn lv xs mb D) (own : w1.ownsMap Tryz.prog 3 ptrElem mb (g.nx + 1) (D.put (.int .i64 g.nx) (.held (some ⟨cn, 0, none⟩)))) (gr : w.grownBy w1 (some mb)) : St kw w1 (addG g cn lv xs mb) := by
  obtain ⟨es, q, hm, _⟩ := id h.m.1
  exact ⟨h.c.map hm gr, h.l.add gr hm h.hc h.hf h.hl h.lo (MapAt.add (w := w) (g := g) ⟨h.m.1, h.m.2.1, h.m.2.2.1, h.m.2.2.2⟩ own)⟩

theorem Mid.fw (h : Mid kw w g cn lv xs mb D) (gr : w.grownBy w1 (some mb)) : FW kw.B w w1 := by
  obtain ⟨es, q, hm, _⟩ := id h.m.1
  refine FW.grown gr (fun j T e t => ?_) (fun j e => by cases e; exact h.lo.2)
  cases e
  obtain ⟨c, f, t⟩ := t
  rw [hm] at t; cases t

theorem Mid.up (h : Mid kw w g cn lv xs mb D) (hn : g.nx ≤ 1000000) : ∃ w1, (Instr.mapUpdate 81 (.map (some mb)) (.int .i64 g.nx) (.pointer (some ⟨cn, 0, none⟩))).run Tryz.prog w = .ok () w1 ∧ Hid (St kw w1 (addG g cn lv xs mb)) ∧ Hid (FW kw.B w w1) := by
  obtain ⟨w1, h1, h2, h3⟩ := h.m.1.update law3 Tryz.underlying81 (by unfold maxLen; omega) (keyOf_int_mk Tryz.underlying3 (wf_of (x := (g.nx : Int)) (by omega) (by omega))) (val := .pointer (some ⟨cn, 0, none⟩)) (d := .held (some ⟨cn, 0, none⟩)) (ps := []) rfl
  exact ⟨w1, h1, h.put h2 h3, h.fw h3⟩

theorem Mid.drew (h : Mid kw w g cn lv xs mb D) : Mid kw w.drew g cn lv xs mb D := ⟨h.c.same (fun _ _ _ _ => rfl), h.l.same (fun _ _ _ _ => rfl) (fun _ _ _ _ => rfl) (fun _ _ _ _ _ _ _ => rfl), h.m, h.hc, h.hf, h.hl.same (fun _ _ _ _ => rfl), h.lo⟩

theorem Mid.c0 (h : Mid kw w g cn lv xs mb D) : w.cell? ⟨kw.OB, 0, none⟩ = some (.map (some mb)) := by rw [cell_of h.c.ob]; rfl
theorem Mid.d1 (h : Mid kw w g cn lv xs mb D) : w.cell? ⟨cn, 0, none⟩ = some (.int .i64 g.nx) := by rw [cell_of h.hc]; rfl

/-- The clause in its own block. -/
def ccell (g : G) (lv : Value) : Array Value := #[.int .i64 g.nx, lv, .int .i64 (-1), .int .i64 (-1), .int .i64 0, .bool false]

/-- The number is used: the map was there. -/
theorem Mid.old (s : St kw w g) (hc : w.heap[cn]? = some (.cells (ccell g lv) 97 (0, 0))) (hf : ∀ i, i < g.nx → g.cb i ≠ cn) (hl : LitRow w lv xs) (lo : kw.B ≤ cn) (hm : g.mp = some mb) :
    ∃ D, Mid kw (w.setCell ⟨kw.OB, 1, none⟩ (.int .i64 ((g.nx : Int) + 1))) g cn lv xs mb D := by
  have gr := grown_set w ⟨kw.OB, 1, none⟩ (.int .i64 ((g.nx : Int) + 1))
  have ht : Typ w kw.OB 84 := ⟨_, _, s.c.ob⟩
  have L := s.l.other gr ht (by decide) (by decide) (by decide)
  have key : ∀ j T, Typ w j T → T ≠ 84 → (w.setCell ⟨kw.OB, 1, none⟩ (.int .i64 ((g.nx : Int) + 1))).heap[j]? = w.heap[j]? := fun j T t hne => gr.block j t.lt (fun e => hne (by cases e; exact t.one ht))
  have hmp := L.mp
  rcases hmp with ⟨e, _⟩ | ⟨mb', D, e, m⟩
  · rw [hm] at e; cases e
  · rw [hm] at e; cases e
    refine ⟨D, ⟨?_, ?_, ?_, s.c.lo⟩, L, m.parts, ?_, hf, hl.same (fun j _ _ t => key j 3 t (by decide)), lo, s.l.lo.m mb hm⟩
    · rw [set_same s.c.ob]
      simp [addG, hm]
    · obtain ⟨c, h1, h2⟩ := s.c.wb
      exact ⟨c, by rw [key _ 82 ⟨_, _, h1⟩ (by decide)]; exact h1, h2⟩
    · obtain ⟨c, h1, h2⟩ := s.c.fb
      exact ⟨c, by rw [key _ 144 ⟨_, _, h1⟩ (by decide)]; exact h1, h2⟩
    · rw [key _ 97 ⟨_, _, hc⟩ (by decide)]; exact hc

/-- .. and the map is new. -/
theorem Mid.new (s : St kw w g) (hc : w.heap[cn]? = some (.cells (ccell g lv) 97 (0, 0))) (hf : ∀ i, i < g.nx → g.cb i ≠ cn) (hl : LitRow w lv xs) (lo : kw.B ≤ cn) (hm : g.mp = none) (hs : (w.setCell ⟨kw.OB, 1, none⟩ (.int .i64 ((g.nx : Int) + 1))).heap.size = mb) :
    Mid kw (((w.setCell ⟨kw.OB, 1, none⟩ (.int .i64 ((g.nx : Int) + 1))).alloc (.map #[] 0)).setCell ⟨kw.OB, 0, none⟩ (.map (some mb))) g cn lv xs mb (.map []) := by
  have gr1 := grown_set w ⟨kw.OB, 1, none⟩ (.int .i64 ((g.nx : Int) + 1))
  have gr2 := grown_new (w.setCell ⟨kw.OB, 1, none⟩ (.int .i64 ((g.nx : Int) + 1))) (.map #[] 0) (some kw.OB)
  have gr3 := grown_set ((w.setCell ⟨kw.OB, 1, none⟩ (.int .i64 ((g.nx : Int) + 1))).alloc (.map #[] 0)) ⟨kw.OB, 0, none⟩ (.map (some mb))
  have gr := grown_two (grown_two gr1 gr2) gr3
  have ht : Typ w kw.OB 84 := ⟨_, _, s.c.ob⟩
  have L := s.l.other gr ht (by decide) (by decide) (by decide)
  have key := fun j T (t : Typ w j T) (hne : T ≠ 84) => gr.block j t.lt (fun e => hne (by cases e; exact t.one ht))
  have hz : g.nx = 0 := by
    rcases s.l.mp with ⟨_, e⟩ | ⟨mb', D, e, m⟩
    · exact e
    · rw [hm] at e; cases e
  have hob : kw.OB < w.heap.size := blk_lt s.c.ob
  have hsz := gr1.size
  have hlv : ∀ x, live g x = false := fun x => by simp [live, hz]; omega
  refine ⟨⟨?_, ?_, ?_, s.c.lo⟩, L, ⟨?_, fun x => ?_, fun x => ?_, ?_⟩, ?_, hf, hl.same (fun j _ _ t => key j 3 t (by decide)), lo, ?_⟩
  · have e1 : (w.setCell ⟨kw.OB, 1, none⟩ (.int .i64 ((g.nx : Int) + 1))).heap[kw.OB]? = some _ := set_same s.c.ob _
    have e2 := ((grown_new (w.setCell ⟨kw.OB, 1, none⟩ (.int .i64 ((g.nx : Int) + 1))) (.map #[] 0) none).block kw.OB (by omega) (by simp)).trans e1
    rw [set_same e2]
    simp [addG]
  · obtain ⟨c, h1, h2⟩ := s.c.wb
    exact ⟨c, by rw [key _ 82 ⟨_, _, h1⟩ (by decide)]; exact h1, h2⟩
  · obtain ⟨c, h1, h2⟩ := s.c.fb
    exact ⟨c, by rw [key _ 144 ⟨_, _, h1⟩ (by decide)]; exact h1, h2⟩
  · have o := World.ownsMap_made (w.setCell ⟨kw.OB, 1, none⟩ (.int .i64 ((g.nx : Int) + 1))) Tryz.prog 3 ptrElem
    rw [hs] at o
    exact (o.mono (Nat.zero_le _)).setCell (a := ⟨kw.OB, 0, none⟩) (by show mb ≠ kw.OB; omega) _
  · rw [hlv x]; rfl
  · rw [hlv x]; rfl
  · simp [liveN, hz]; rfl
  · rw [key _ 97 ⟨_, _, hc⟩ (by decide)]; exact hc
  · have := s.c.lo.1; omega
end

end Go.Proofs.YtimfjoinjfecjaaGreat

namespace Go.Proofs.YtimfjoinjfecjaaGreat
open Go.RowKit Go.Maps
set_option linter.unusedVariables false

section
variable {k : K} {kw : WK} {w w1 : World} {g : G} {L : List E} {lev : Nat} {p : V} {H : List Int}

theorem Wa.add {w' : World} {cn mb : Nat} {lv v : Value} {xs : List Int} (W : Wa k kw w g L lev p H) (s : St kw w' ((addG g cn lv xs mb).slot (3 * kw.n) (g.P (3 * kw.n) ++ [g.nx]) v)) (F : FW kw.B w w') (hx : ∀ x ∈ xs, 0 ≤ x ∧ x < 2 * (kw.n : Int)) (hlv : ∀ j, lv.ownBlock = some j → 0 < xs.length → w.heap.size ≤ j) :
    Wa k kw w' ((addG g cn lv xs mb).slot (3 * kw.n) (g.P (3 * kw.n) ++ [g.nx]) v) L lev p H ∧ AddD kw.n w.heap.size g ((addG g cn lv xs mb).slot (3 * kw.n) (g.P (3 * kw.n) ++ [g.nx]) v) xs := by
  have hP : ((addG g cn lv xs mb).slot (3 * kw.n) (g.P (3 * kw.n) ++ [g.nx]) v).P (3 * kw.n) = g.P (3 * kw.n) ++ [g.nx] := up_same _ _ _
  refine ⟨⟨⟨W.j.t.fw F, s, W.j.n, W.j.b, fun i hi hg j e h0 m => ?_⟩, ?_, W.ht.ft (FT.fw F), W.hf, W.hH, W.hl, (W.rs.add (cn := cn) (lv := lv) (mb := mb) (xs := xs)).as rfl rfl rfl⟩, rfl, rfl, rfl, ?_, rfl, rfl, ⟨lv, rfl, hlv⟩, rfl, rfl, rfl, rfl, rfl, rfl⟩
  · change i < g.nx + 1 at hi
    change up g.gn g.nx false i = false at hg
    change (up g.lv g.nx lv i).ownBlock = some j at e
    change 0 < (up g.lt g.nx xs i).length at h0
    by_cases q : i = g.nx
    · subst q
      rw [up_same] at e h0
      have h1 := hlv j e h0
      have h2 := (W.j.t.lt m).2
      omega
    · rw [up_ne _ _ q] at e h0 hg
      exact W.j.aw i (by omega) hg j e h0 m
  · have i1 := W.iv.add (cn := cn) (lv := lv) (mb := mb) hx W.j.s.l.sub
    have i2 := i1.more (s := 3 * kw.n) (by omega) (xs := g.P (3 * kw.n) ++ [g.nx]) (fun i hi => List.mem_append.2 (.inl hi)) v
    refine i2.mono (fun _ => Nat.le_refl _) (fun i hi => ?_)
    rw [hP]
    rcases hi with hi | hi
    · exact List.mem_append.2 (.inl hi)
    · exact List.mem_append.2 (.inr (by rw [hi]; simp))
  · unfold tot
    rw [hP, sum_other (.inr (Nat.le_refl _)), List.length_append]
    simp only [List.length_singleton]
    have : (addG g cn lv xs mb).P = g.P := rfl
    rw [this]; omega

theorem add_push {cn mb : Nat} {lv v : Value} {xs : List Int} {a : Option Addr} {n c : Nat} (s : St kw w (addG g cn lv xs mb)) (hv : g.pv (3 * kw.n) = .slice a n c)
    (own : PRow w1 (addG g cn lv xs mb).cb v ((addG g cn lv xs mb).P (3 * kw.n) ++ [g.nx])) (gr : w.grownBy w1 (Value.slice a n c).ownBlock) (nw : Nw w (.slice a n c) v) :
    w1.cell? ⟨kw.OB, 4, none⟩ = some (.slice a n c) ∧ w1.frozen? ⟨kw.OB, 4, none⟩ = false ∧ Hid (St kw (w1.setCell ⟨kw.OB, 4, none⟩ v) ((addG g cn lv xs mb).slot (3 * kw.n) (g.P (3 * kw.n) ++ [g.nx]) v)) ∧ Hid (FW kw.B w (w1.setCell ⟨kw.OB, 4, none⟩ v)) ∧ (w1.setCell ⟨kw.OB, 4, none⟩ v).cell? ⟨cn, 0, none⟩ = some (.int .i64 g.nx) := by
  have hv' : (addG g cn lv xs mb).pv (3 * kw.n) = .slice a n c := hv
  have hlt : g.nx < (addG g cn lv xs mb).nx := Nat.lt_succ_self _
  have m := s.pusha (zs := (addG g cn lv xs mb).P (3 * kw.n) ++ [g.nx]) (mem_one (s.l.sub _ (Nat.le_refl _)) hlt) own (by rw [hv']; exact gr) (by rw [hv']; exact nw)
  rw [hv'] at m
  obtain ⟨m1, m2, m3, m4⟩ := m
  refine ⟨m1, m2, m3, m4, ?_⟩
  have := (m3.out.l.ks (i := g.nx) hlt (up_same _ _ _)).1
  rw [show ((addG g cn lv xs mb).slot (3 * kw.n) ((addG g cn lv xs mb).P (3 * kw.n) ++ [g.nx]) v).cb g.nx = cn from up_same _ _ _] at this
  exact this

/-- The clause lies in a block of its own. -/
structure AddA (kw : WK) (w : World) (g : G) (xs : List Int) (cn : Nat) (lv : Value) (wx : World) : Prop where
  s : St kw wx g
  hc : wx.heap[cn]? = some (.cells (ccell g lv) 97 (0, 0))
  hf : ∀ i, i < g.nx → g.cb i ≠ cn
  hl : LitRow wx lv xs
  hv : ∀ j, lv.ownBlock = some j → 0 < xs.length → w.heap.size ≤ j
  lo : kw.B ≤ cn
  b : Below w.heap.size w wx

theorem AddA.mk' {xs : List Int} {wr w3 : World} {a3 : Option Addr} {n c3 : Nat} (s : St kw w g) (b1 : Below w.heap.size w wr) (b2 : Below wr.heap.size wr w3) (cp : Cpy wr w3 a3 n n xs) :
    AddA kw w g xs w3.heap.size (.slice a3 n n) (w3.alloc (.cells (ccell g (.slice a3 n n)) 97)) := by
  have b3 := Below.next b1 b2
  have b4 : Below w3.heap.size w3 (w3.alloc (.cells (ccell g (.slice a3 n n)) 97)) := by go_grown
  have s3 := s.below b3
  have b5 := Below.next b3 b4
  have cl := (cp.next (w1 := w) b4).lit
  refine ⟨s.below b5, new_same _ _, fun i hi e => ?_, cl.1, fun j hj h0 => ?_, ?_, b5⟩
  · have := blk_lt (s3.l.cl i hi); omega
  · have h1 := cl.2 j hj h0; have h2 := b1.size; omega
  · have h1 := s3.c.lo.1; have h2 := blk_lt s3.c.ob; omega

set_option maxRecDepth 20000 in
set_option maxHeartbeats 4000000 in
theorem add_is (W : Wa k kw w g L lev p H) (ta : Addr) {ao : Option Addr} {n c : Nat} {xs : List Int} (row : U.Row w ao n c xs) (hn : n ≤ 1000) (hx : ∀ x ∈ xs, 0 ≤ x ∧ x < 2 * (kw.n : Int)) (hnx : g.nx ≤ 1000000) (hpl : (g.P (3 * kw.n)).length ≤ 1000000000000) :
    Calls Tryz.prog 42 #[.pointer (some ⟨kw.OB, 0, none⟩), .pointer (some ta), .slice ao n c] w fun e w' => ∃ g', e = .returned (.tuple #[.int .i64 g.nx, .int .i64 0]) ∧ Hid (Wa k kw w' g' L lev p H) ∧ Hid (AddD kw.n w.heap.size g g' xs) ∧ Hid (FW kw.B w w') := by
  have HW := hid W
  have HR := hid row
  have HX := hid hx
  have hN := W.j.s.l.hn
  have hnn : (g.nx : Int) + 1 ≤ 9223372036854775807 := by omega
  clear W row hx
  go_enter Tryz.func42, Tryz.ntmps42
  go_wp2
  go_loopw [9, 19] (fun _ i wr => ∃ q : Nat, q ≤ n ∧ i = .int .i64 q ∧ Hid (Below w.heap.size w wr)) (fun _ i _ => n - (intOf i).toNat)
  case atStart => exact ⟨0, Nat.zero_le _, rfl, hid (Below.refl _ _)⟩
  case round =>
    obtain ⟨q, hq, rfl, hb⟩ := hrel
    by_cases hlt : q < n
    · have hlt' : (q : Int) < n := by omega
      obtain ⟨b, off, y, rfl, hc, hy, y0, y1⟩ := (HR.out.keep hb.out).at hlt
      have hg := HX.out y (List.mem_of_getElem? hy.out)
      obtain ⟨m, rfl⟩ := Int.eq_ofNat_of_zero_le hg.1
      have hu : m / 2 < kw.n := by omega
      have HG := hid hg
      clear hy hg
      go_wp2_with (go_at_call 69; with_reducible (refine (has_yes (HW.out.j.s.below hb.out) m (m / 2) rfl hu).mono ?_); rintro e w3 ⟨rfl, b3⟩)
      go_roundw
      case rel => exact ⟨q + 1, by omega, by go_num, hid (Below.next hb.out b3)⟩
      case measure => simp only [intOf]; omega
    · have hlt' : ¬ (q : Int) < n := by omega
      have hltd : decide ((q : Int) < n) = false := by simpa using hlt'
      have R0 := hid (HR.out.keep (Below.next hb.out (below_drew wr)))
      have c1 := (HW.out.j.s.below hb.out).c1
      have B0 := hid (below_drew wr)
      go_upto_region 9 with fail
      go_cut [10] from 28 to 37 (fun v wx => ∃ (cn : Nat) (lv : Value), v = .pointer (some ⟨cn, 0, none⟩) ∧ Hid (AddA kw w g xs cn lv wx))
      case first =>
        go_region_with (first
          | (go_at_call 71; with_reducible (refine (clone_is R0.out hn).mono ?_); rintro e w2 ⟨a2, k2, rfl, cp, b2⟩; have B2 := hid (Below.next B0.out b2.out); have c1' := ((HW.out.j.s.below hb.out).below B2.out).c1)
          | (go_at_call 70; with_reducible (refine (clip_is cp.out).mono ?_); rintro e w3 ⟨rfl, rfl⟩))
        all_goals go_wp2_with fail
        all_goals go_meet
        all_goals exact ⟨_, _, rfl, hid (AddA.mk' (c3 := 0) HW.out.j.s hb.out B2.out cp.out.full)⟩
      case rest =>
        obtain ⟨cn, lv, rfl, ha⟩ := hcut
        clear R0 c1 B0 hb
        have c1 := ha.out.s.c1
        have f1 := ha.out.s.of 1
        have c0 := ha.out.s.c0
        have f0 := ha.out.s.of 0
        obtain ⟨r, hr⟩ : ∃ r, g.mp = r := ⟨_, rfl⟩
        rw [hr] at c0
        have qT : ∀ (w : World) (r : Option Nat), (binOp .eql 81 (.map r) (.map none)).run Tryz.prog w = .ok (.bool r.isNone) w := fun w r => run_eql_map_nil w _ _ _ r Tryz.underlying81
        have hmm := @run_makeMap Tryz.prog
        go_upto_if 49 with fail
        go_cut [] from 50 to 53 (fun wx => ∃ mb D, Hid (Mid kw wx g cn lv xs mb D) ∧ Hid (FW kw.B w wx))
        case first =>
          have F1 : Hid (FW kw.B w (wc.setCell ⟨kw.OB, 1, none⟩ (.int .i64 ((g.nx : Int) + 1)))) := hid ((FW.below ha.out.b).trans (FW.grown (grown_set wc ⟨kw.OB, 1, none⟩ _) (fun j T e t => by cases e; rw [t.one ⟨_, _, ha.out.s.c.ob⟩]; simp [Wt]) (fun j e => by cases e; exact ha.out.s.c.lo.1)))
          have HR2 := hid hr
          clear hr
          cases r with
          | none =>
            have hmp := HR2.out
            obtain ⟨wd, hwd⟩ : ∃ wd, wd = wc.setCell ⟨kw.OB, 1, none⟩ (.int .i64 ((g.nx : Int) + 1)) := ⟨_, rfl⟩
            have hsz : wd.heap.size = wc.heap.size := by rw [hwd]; simp
            have hbk : ∃ cs, wd.heap[kw.OB]? = some (.cells cs 84 (0, 0)) ∧ cs[0]? = some (.map none) := ⟨_, by rw [hwd]; exact set_same ha.out.s.c.ob _, by simp [hmp]⟩
            obtain ⟨cs, hk1, hk2⟩ := hbk
            have hk3 : (wd.alloc (.map #[] 0)).heap[kw.OB]? = some (.cells cs 84 (0, 0)) := ((grown_new wd (.map #[] 0) none).block kw.OB (blk_lt hk1) (by simp)).trans hk1
            have e0 : (wd.alloc (.map #[] 0)).cell? ⟨kw.OB, 0, none⟩ = some (.map none) := by rw [cell_of hk3]; exact hk2
            have e1 : (wd.alloc (.map #[] 0)).frozen? ⟨kw.OB, 0, none⟩ = false := frozen_of hk3
            have HM : Hid (Mid kw ((wd.alloc (.map #[] 0)).setCell ⟨kw.OB, 0, none⟩ (.map (some wd.heap.size))) g cn lv xs wd.heap.size (.map [])) := hid (by subst hwd; exact Mid.new ha.out.s ha.out.hc ha.out.hf ha.out.hl ha.out.lo hmp rfl)
            have F2 : Hid (FW kw.B wd ((wd.alloc (.map #[] 0)).setCell ⟨kw.OB, 0, none⟩ (.map (some wd.heap.size)))) := hid (FW.grown (grown_two (grown_new _ (.map #[] 0) (some kw.OB)) (grown_set _ ⟨kw.OB, 0, none⟩ _)) (fun j T e t => by cases e; rw [t.one ⟨_, _, hk1⟩]; simp [Wt]) (fun j e => by cases e; exact ha.out.s.c.lo.1))
            rw [← hwd] at F1 ⊢
            clear hmp hwd hsz c0 c1 f0 f1 hk1 hk2 hk3 HR2
            simp only [Option.isNone_none]
            go_wp2_with fail
            go_meet
            exact ⟨_, _, HM, hid (F1.out.trans F2.out)⟩
          | some mb =>
            have hmp := HR2.out
            obtain ⟨D, hM⟩ := Mid.old ha.out.s ha.out.hc ha.out.hf ha.out.hl ha.out.lo hmp
            have HM := hid hM
            clear hM hmp
            simp only [Option.isNone_some]
            go_wp2_with fail
            go_meet
            exact ⟨_, _, HM, F1⟩
        case rest =>
          have HV := hid ha.out.hv
          clear ha c1 f1 c0 f0
          obtain ⟨mb, D, hM, F3⟩ := hcut
          have d0 := hM.out.c0
          have d1 := hM.out.d1
          obtain ⟨u1, hup, su, fu⟩ := hM.out.up hnx
          obtain ⟨u2, hup2, su2, fu2⟩ := hM.out.drew.up hnx
          clear hup su fu
          obtain ⟨apv, cpv, epv, _⟩ := (hM.out.l.rw (3 * kw.n) (Nat.le_refl _)).shape
          have HPV := hid epv
          go_upto_region 13 with fail
          go_region
          clear hup2 d0 d1 hM
          have d4 := su2.out.c4
          rw [show (addG g cn lv xs mb).pv (3 * kw.n) = g.pv (3 * kw.n) from rfl, epv] at d4
          have R4 := hid (su2.out.l.rw (3 * kw.n) (Nat.le_refl _))
          rw [show (addG g cn lv xs mb).pv (3 * kw.n) = g.pv (3 * kw.n) from rfl, epv] at R4
          have hcn : (addG g cn lv xs mb).cb g.nx = cn := up_same _ _ _
          clear epv
          go_wp2_with (at_builtin; refine append_pone (w1 := u2) (cb := (addG g cn lv xs mb).cb) rfl _ _ rfl g.nx (by rw [hcn]) _ _ rfl R4.out _ rfl rfl (by show (g.P (3 * kw.n)).length + 1 ≤ _; omega) ?_; intro v6 w6 own6 g6 new6; have f6 := own6.out.one; obtain ⟨b6, o6, p6, rfl⟩ := f6; have m6 := add_push su2.out HPV.out own6.out g6.out new6.out; obtain ⟨q1, q2, s6, F6, q3⟩ := m6)
          go_ret2
          obtain ⟨h1, h2⟩ := HW.out.add s6.out (((F3.out.trans (FW.below (below_drew wc))).trans fu2.out).trans F6.out) HX.out HV.out
          exact ⟨rfl, _, hid h1, hid h2, hid (((F3.out.trans (FW.below (below_drew wc))).trans fu2.out).trans F6.out)⟩
end

end Go.Proofs.YtimfjoinjfecjaaGreat
