/-
  A literal that does not hold any more: what becomes of those that watch it, one by one.
-/
import Derived.Test.YtikdmgemhfmipaaGreatWAll
namespace Go.Proofs.YtikdmgemhfmipaaGreat
open Go.RowKit Go.Maps
set_option linter.unusedVariables false

/-- As it were if the list at x were V. -/
def G.vir (g : G) (x : Nat) (V : List Nat) : G := { g with P := up g.P x V }

theorem up_comm {α : Type} (f : Nat → α) {i j : Nat} (h : i ≠ j) (x y : α) : up (up f i x) j y = up (up f j y) i x := by
  funext q
  simp only [up]
  by_cases e1 : q = j
  · rw [if_pos e1, if_neg (by omega), if_pos e1]
  · rw [if_neg e1]
    by_cases e2 : q = i
    · rw [if_pos e2, if_pos e2]
    · rw [if_neg e2, if_neg e2, if_neg e1]

theorem vir_slot (g : G) {s x : Nat} (h : s ≠ x) (xs V : List Nat) (v : Value) : (g.slot s xs v).vir x V = (g.vir x V).slot s xs v := by
  unfold G.slot G.vir
  simp only [G.mk.injEq, and_true, true_and]
  exact up_comm _ h _ _

theorem vir_over (g : G) (x : Nat) (M V : List Nat) : (g.slot x M (g.pv x)).vir x V = g.vir x V := by
  unfold G.slot G.vir
  simp only [up_up, up_self]

theorem vir_self (g : G) (x : Nat) : g.vir x (g.P x) = g := by unfold G.vir; rw [up_self]

theorem Inv.like {n : Nat} {g g' : G} {H : List Int} {d : Nat → Nat} {X : Nat → Prop} (h : Inv n g H d X) (e1 : g'.nx = g.nx) (e2 : g'.lt = g.lt) (e3 : g'.a = g.a) (e4 : g'.b = g.b) (e5 : g'.fr = g.fr) (e6 : g'.gn = g.gn) (e7 : g'.P = g.P) (e8 : g'.pl = g.pl) : Inv n g' H d X := by
  obtain ⟨nx, cb, lt, lv, a, b, fr, gn, P, pv, pl, mp, hv, dn, rm⟩ := g
  obtain ⟨nx', cb', lt', lv', a', b', fr', gn', P', pv', pl', mp', hv', dn', rm'⟩ := g'
  simp only at e1 e2 e3 e4 e5 e6 e7 e8
  subst e1 e2 e3 e4 e5 e6 e7 e8
  exact ⟨h.rg, h.fr, h.wt, h.sd, h.nd, h.pl, h.ok⟩

def dT (T : List Nat) (dn : Nat) : Nat → Nat := fun i => if i ∈ T then dn + 1 else dn

section
variable {n : Nat} {g : G} {H : List Int} {d : Nat → Nat} {X : Nat → Prop} {c x : Nat} {T R : List Nat}

theorem vir_P (g : G) (x : Nat) (V : List Nat) : (g.vir x V).P x = V := up_same _ _ _
theorem vir_ne (g : G) {x l : Nat} (h : l ≠ x) (V : List Nat) : (g.vir x V).P l = g.P l := up_ne _ _ h

/-- One that is gone is left out. -/
theorem Inv.vdrop (h : Inv n (g.vir x (T ++ c :: R)) H d X) (hx : x < 2 * n) (hg : g.gn c = true) : Inv n (g.vir x (T ++ R)) H d X := by
  have hmem : ∀ l i, g.gn i = false → (i ∈ (g.vir x (T ++ R)).P l ↔ i ∈ (g.vir x (T ++ c :: R)).P l) := fun l i hi => by
    have hne : i ≠ c := fun e => by rw [e, hg] at hi; cases hi
    by_cases e : l = x
    · subst e; rw [vir_P, vir_P]; simp [hne]
    · rw [vir_ne _ e, vir_ne _ e]
  refine ⟨h.rg, h.fr, fun i hi hgi => ?_, fun l hl i hi hgi => h.sd l hl i ((hmem l i hgi).1 hi) hgi, fun l hl => ?_, h.pl, fun i hi hgi => ?_⟩
  · have := h.wt i hi hgi
    unfold WtOk at this ⊢
    rw [hmem _ i hgi, hmem _ i hgi]
    exact this
  · have := h.nd l hl
    by_cases e : l = x
    · subst e; rw [vir_P] at this ⊢
      exact this.sublist (List.Sublist.append (List.Sublist.refl _) (List.sublist_cons_self _ _))
    · rw [vir_ne _ e] at this ⊢; exact this
  · rcases h.ok i hi hgi with q | q
    · exact .inl q
    · exact .inr (q.as rfl rfl rfl (fun u hu => (hmem _ i hgi).2 hu))

theorem Inv.two {y : Int} (h : Inv n g H d X) (hx : x < 2 * n) (hm : c ∈ g.P x) (hc : c < g.nx) (hg : g.gn c = false) (hy : besideF g c x = y) :
    0 ≤ y ∧ y ≠ x ∧ y ∈ g.lt c ∧ (x : Int) ∈ g.lt c ∧ c ∈ g.P y.toNat ∧ ((g.a c = x ∧ g.b c = y) ∨ (g.a c = y ∧ g.b c = x)) := by
  have hw : 0 ≤ g.a c ∧ 0 ≤ g.b c ∧ g.a c ≠ g.b c ∧ g.a c ∈ g.lt c ∧ g.b c ∈ g.lt c ∧ c ∈ g.P (g.a c).toNat ∧ c ∈ g.P (g.b c).toNat := by
    rcases h.wt c hc hg with ⟨q1, q2⟩ | q
    · rcases h.sd x hx c hm hg with q | q <;> omega
    · exact q
  obtain ⟨q1, q2, q3, q4, q5, q6, q7⟩ := hw
  unfold besideF at hy
  by_cases e : g.a c = x
  · rw [if_pos e] at hy
    subst hy
    exact ⟨q2, by rw [← e]; exact fun c => q3 c.symm, q5, by rw [← e]; exact q4, q7, .inl ⟨e, rfl⟩⟩
  · rw [if_neg e] at hy
    subst hy
    have e2 : g.b c = x := by
      rcases h.sd x hx c hm hg with q | q
      · exact absurd q e
      · exact q
    exact ⟨q1, e, q4, by rw [← e2]; exact q5, q6, .inr ⟨rfl, e2⟩⟩

/-- It watches another literal. -/
theorem Inv.moved {L : List E} {y : Int} {z f : Nat} (h : Inv n (g.vir x (T ++ c :: R)) (litsF L) d X) (hnd : ND L) (hx : x < 2 * n) (hc : c < g.nx) (hg : g.gn c = false) (hy : besideF g c x = y) (hq : (litsF L)[d c]? = some (U.notF x)) (hz : (z : Int) ∈ g.lt c) (hzy : (z : Int) ≠ y) (vz : 0 ≤ valueF L z) (hf : f < (g.lt c).length ∨ g.lt c = []) (v : Value) :
    Inv n ((((g.from c f).watch c y z).slot z (g.P z ++ [c]) v).vir x (T ++ R)) (litsF L) d X := by
  have rz : 0 ≤ (z : Int) ∧ (z : Int) < 2 * n := h.rg c hc hg _ hz
  have vx : valueF L x = -1 := val_not hnd (by omega) hq
  have hzx : z ≠ x := fun e => by rw [e] at vz; omega
  obtain ⟨y0, yx, yl, xl, yP, hab⟩ := h.two (y := y) hx (by rw [vir_P]; simp) hc hg hy
  have ry := h.rg c hc hg _ yl
  have hyx : y.toNat ≠ x := by omega
  have hyz : y.toNat ≠ z := by omega
  rw [vir_ne _ hyx] at yP
  have ndx := h.nd x hx
  rw [vir_P] at ndx
  have hcT : c ∉ T ++ R := by
    rw [List.nodup_append] at ndx
    obtain ⟨_, n2, n3⟩ := ndx
    rw [List.nodup_cons] at n2
    intro hm
    rcases List.mem_append.1 hm with q | q
    · exact n3 c q c (by simp) rfl
    · exact n2.1 q
  have hcz : c ∉ g.P z := fun hm => by
    have := h.sd z (by omega) c (by rw [vir_ne _ hzx]; exact hm) hg
    change g.a c = z ∨ g.b c = z at this
    rcases hab with ⟨q1, q2⟩ | ⟨q1, q2⟩ <;> (change g.a c = _ at q1; change g.b c = _ at q2; rw [q1, q2] at this; rcases this with q | q <;> omega)
  -- the lists as they are now
  have P1 : ((((g.from c f).watch c y z).slot z (g.P z ++ [c]) v).vir x (T ++ R)).P x = T ++ R := vir_P _ _ _
  have P2 : ((((g.from c f).watch c y z).slot z (g.P z ++ [c]) v).vir x (T ++ R)).P z = g.P z ++ [c] := by rw [vir_ne _ hzx]; exact up_same _ _ _
  have P3 : ∀ l, l ≠ x → l ≠ z → ((((g.from c f).watch c y z).slot z (g.P z ++ [c]) v).vir x (T ++ R)).P l = g.P l := fun l h1 h2 => by rw [vir_ne _ h1]; exact up_ne _ _ h2
  have hmem : ∀ l i, i ≠ c → (i ∈ ((((g.from c f).watch c y z).slot z (g.P z ++ [c]) v).vir x (T ++ R)).P l ↔ i ∈ (g.vir x (T ++ c :: R)).P l) := fun l i hi => by
    by_cases e1 : l = x
    · subst e1; rw [P1, vir_P]; simp [hi]
    · by_cases e2 : l = z
      · subst e2; rw [P2, vir_ne _ e1]; simp [hi]
      · rw [P3 l e1 e2, vir_ne _ e1]
  have hA : ∀ i, i ≠ c → ((((g.from c f).watch c y z).slot z (g.P z ++ [c]) v).vir x (T ++ R)).a i = g.a i := fun i hi => up_ne _ _ hi
  have hB : ∀ i, i ≠ c → ((((g.from c f).watch c y z).slot z (g.P z ++ [c]) v).vir x (T ++ R)).b i = g.b i := fun i hi => up_ne _ _ hi
  have hAc : ((((g.from c f).watch c y z).slot z (g.P z ++ [c]) v).vir x (T ++ R)).a c = y := up_same _ _ _
  have hBc : ((((g.from c f).watch c y z).slot z (g.P z ++ [c]) v).vir x (T ++ R)).b c = z := up_same _ _ _
  refine ⟨h.rg, fun i hi hgi => ?_, fun i hi hgi => ?_, fun l hl i hi hgi => ?_, fun l hl => ?_, h.pl, fun i hi hgi => ?_⟩
  · show up g.fr c f i < _ ∨ _
    by_cases e : i = c
    · subst e; rw [up_same]; exact hf
    · rw [up_ne _ _ e]; exact h.fr i hi hgi
  · by_cases e : i = c
    · subst e
      unfold WtOk
      rw [hAc, hBc, Int.toNat_natCast, P2, P3 _ hyx hyz]
      exact .inr ⟨y0, by omega, fun q => hzy q.symm, yl, hz, yP, by simp⟩
    · have := h.wt i hi hgi
      unfold WtOk at this ⊢
      rw [hA i e, hB i e, hmem _ i e, hmem _ i e]
      exact this
  · by_cases e : i = c
    · subst e
      rw [hAc, hBc]
      by_cases e1 : l = x
      · subst e1; rw [P1] at hi; exact absurd hi hcT
      · by_cases e2 : l = z
        · exact .inr (by omega)
        · rw [P3 l e1 e2] at hi
          have := h.sd l hl i (by rw [vir_ne _ e1]; exact hi) hg
          change g.a i = l ∨ g.b i = l at this
          rcases hab with ⟨q1, q2⟩ | ⟨q1, q2⟩ <;> (change g.a i = _ at q1; change g.b i = _ at q2; rw [q1, q2] at this; rcases this with q | q <;> first | exact .inl q | omega)
    · rw [hA i e, hB i e]
      exact h.sd l hl i ((hmem l i e).1 hi) hgi
  · by_cases e1 : l = x
    · subst e1; rw [P1]
      exact ndx.sublist (List.Sublist.append (List.Sublist.refl _) (List.sublist_cons_self _ _))
    · by_cases e2 : l = z
      · subst e2; rw [P2]
        have := h.nd l hl
        rw [vir_ne _ e1] at this
        exact List.nodup_append.2 ⟨this, by simp, fun a ha b hb => by rw [List.mem_singleton] at hb; rw [hb]; intro q; rw [q] at ha; exact hcz ha⟩
      · rw [P3 l e1 e2]
        have := h.nd l hl
        rw [vir_ne _ e1] at this; exact this
  · by_cases e : i = c
    · subst e
      rcases h.ok i hi hgi with q | q
      · exact .inl q
      · refine .inr (.inr ⟨by rw [hAc]; omega, ?_, ?_⟩)
        · rw [hAc, hBc]
          intro q' hq' e'
          exfalso
          have hno : ∃ r : Nat, (litsF L)[r]? = some (x : Int) := by
            rcases q with ⟨q1, _⟩ | ⟨q1, q2, q3⟩
            · change g.a i = -1 at q1
              rcases hab with ⟨r1, r2⟩ | ⟨r1, r2⟩ <;> (change g.a i = _ at r1; omega)
            · rcases hab with ⟨r1, r2⟩ | ⟨r1, r2⟩
              · rw [r1, r2] at q3
                obtain ⟨r, r3, _⟩ := q3 q' hq' e'
                exact ⟨r, r3⟩
              · rw [r1, r2] at q2
                obtain ⟨r, r3, _⟩ := q2 q' hq' e'
                exact ⟨r, r3⟩
          obtain ⟨r, hr⟩ := hno
          exact both_no hnd (by omega) hr hq
        · rw [hAc, hBc]
          exact fun q' _ e' => absurd e' (val_may hnd (by omega) vz q')
    · rcases h.ok i hi hgi with q | q
      · exact .inl q
      · exact .inr (q.as (hA i e) (hB i e) rfl (fun u hu => (hmem _ i e).2 hu))

/-- It stays, and holds by the other one. -/
theorem Inv.stays {L : List E} {y : Int} {dn r : Nat} (h : Inv n g (litsF L) (dT T dn) X) (hnd : ND L) (hx : x < 2 * n) (hm : c ∈ g.P x) (hc : c < g.nx) (hg : g.gn c = false) (hy : besideF g c x = y) (hq : (litsF L)[dn]? = some (U.notF x)) (hr : (litsF L)[r]? = some y) (hl : r ≤ dn ∨ c ∈ g.P (2 * n + vl y)) : Inv n g (litsF L) (dT (T ++ [c]) dn) X := by
  obtain ⟨y0, yx, yl, xl, yP, hab⟩ := h.two (y := y) hx hm hc hg hy
  refine ⟨h.rg, h.fr, h.wt, h.sd, h.nd, h.pl, fun i hi hgi => ?_⟩
  by_cases e : i = c
  · subst e
    refine .inr ?_
    have e1 : dT (T ++ [i]) dn i = dn + 1 := by simp [dT]
    rw [e1]
    have h1 : Hf n g.P (litsF L) (dn + 1) i x y := fun q _ hq2 => ⟨r, hr, by rw [at_inj hnd hq2 hq]; exact hl⟩
    have h2 : Hf n g.P (litsF L) (dn + 1) i y x := fun q _ hq2 => (both_no hnd y0 hr hq2).elim
    rcases hab with ⟨q1, q2⟩ | ⟨q1, q2⟩
    · exact .inr ⟨by omega, by rw [q1, q2]; exact h1, by rw [q1, q2]; exact h2⟩
    · exact .inr ⟨by omega, by rw [q1, q2]; exact h2, by rw [q1, q2]; exact h1⟩
  · have e1 : dT (T ++ [c]) dn i = dT T dn i := by simp [dT, e]
    rw [e1]; exact h.ok i hi hgi

/-- All that watch it are told. -/
theorem Inv.told {L : List E} {dn : Nat} (h : Inv n g (litsF L) (dT T dn) X) (hx : x < 2 * n) (hT : g.P x = T) (hq : (litsF L)[dn]? = some (U.notF x)) : Inv n g (litsF L) (fun _ => dn + 1) X := by
  refine ⟨h.rg, h.fr, h.wt, h.sd, h.nd, h.pl, fun i hi hgi => ?_⟩
  rcases h.ok i hi hgi with q | q
  · exact .inl q
  · by_cases hm : i ∈ T
    · simp only [dT, if_pos hm] at q
      exact .inr q
    · simp only [dT, if_neg hm] at q
      rcases q with q | ⟨q1, q2, q3⟩
      · exact .inr (.inl q)
      · have hw : 0 ≤ g.a i ∧ 0 ≤ g.b i ∧ i ∈ g.P (g.a i).toNat ∧ i ∈ g.P (g.b i).toNat := by
          rcases h.wt i hi hgi with r | ⟨r1, r2, r3, r4, r5, r6, r7⟩
          · exact absurd r.1 q1
          · exact ⟨r1, r2, r6, r7⟩
        have key : ∀ a b : Int, 0 ≤ a → i ∈ g.P a.toNat → Hf n g.P (litsF L) dn i a b → Hf n g.P (litsF L) (dn + 1) i a b := fun a b ha hp hh q hq2 e => by
          by_cases e1 : q < dn
          · exact hh q e1 e
          · have e2 : q = dn := by omega
            subst e2
            rw [hq] at e
            have e3 := Option.some.inj e
            have e4 : a = x := by
              have := (U.not_eq (x := a) (y := x) ha).2
              have h5 := U.not_not (x := (x : Int)) (by omega)
              have h6 := U.not_not ha
              rw [e3] at h5
              omega
            rw [e4, Int.toNat_natCast, hT] at hp
            exact absurd hp hm
        exact .inr (.inr ⟨q1, key _ _ hw.1 hw.2.2.1 q2, key _ _ hw.2.1 hw.2.2.2 q3⟩)
end

end Go.Proofs.YtikdmgemhfmipaaGreat
