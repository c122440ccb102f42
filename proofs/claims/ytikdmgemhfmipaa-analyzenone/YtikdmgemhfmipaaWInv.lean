/-
  Values of literals, plainly.
-/
import Derived.Test.YtikdmgemhfmipaaMT1
import Derived.Test.YtikdmgemhfmipaaMU1
import Derived.WalkSpells
import Derived.Carry
import Derived.Deep.Cut
import Derived.Deep.CutRange
import Derived.Deep.RegionLaw
namespace Go.Proofs.Ytikdmgemhfmipaa
open Go.RowKit
set_option linter.unusedVariables false

/-- The variable of a literal. -/
def vl (x : Int) : Nat := x.toNat / 2

theorem vl_not {x : Int} (h : 0 ≤ x) : vl (U.notF x) = vl x := by
  unfold vl U.notF
  rw [if_neg (by omega)]
  split <;> omega

/-! ### Values -/
def ND (L : List E) : Prop := (L.map vr).Nodup

theorem Trl.nd {k : K} {w : World} {L : List E} {lev : Nat} {p : V} (t : Trl k w L lev p) : ND L := by obtain ⟨F, S, s, g, _⟩ := t; exact g.nd
theorem Trl.lits_lt {k : K} {w : World} {L : List E} {lev : Nat} {p : V} (t : Trl k w L lev p) : ∀ e ∈ L, vr e < k.n := by obtain ⟨F, S, s, g, _⟩ := t; exact g.lt

theorem lits_at {L : List E} {q : Nat} {x : Int} : (litsF L)[q]? = some x ↔ ∃ e, L[q]? = some e ∧ (e.l : Int) = x := by
  simp [litsF]

theorem nd_one {L : List E} (h : ND L) {q r : Nat} {a b : E} (ha : L[q]? = some a) (hb : L[r]? = some b) (e : vr a = vr b) : q = r := by
  have h1 : (L.map vr)[q]? = some (vr a) := by simp [ha]
  have h2 : (L.map vr)[r]? = some (vr a) := by simp [hb, e]
  have hq := (List.getElem?_eq_some_iff.1 h1).1
  exact (List.getElem?_inj hq h).1 (h1.trans h2.symm)

theorem at_of {L : List E} (h : ND L) {q : Nat} {e : E} (he : L[q]? = some e) : atF L (vr e : Int) = some e := by
  cases ha : atF L (vr e : Int) with
  | none => exact absurd rfl (at_none.1 ha e (List.mem_of_getElem? he))
  | some e' =>
    obtain ⟨h1, h2⟩ := at_some ha
    obtain ⟨r, hr⟩ := List.mem_iff_getElem?.1 h1
    have := nd_one h he hr (by omega)
    subst this
    rw [he] at hr; exact hr.symm

theorem val_pos {L : List E} (h : ND L) {q : Nat} {x : Int} (hx : (litsF L)[q]? = some x) : valueF L x = 1 := by
  obtain ⟨e, he, rfl⟩ := lits_at.1 hx
  have h2 : (e.l : Int) / 2 = ((vr e : Nat) : Int) := by unfold vr; omega
  unfold valueF
  rw [if_neg (by omega), h2, at_of h he]
  simp

theorem val_not {L : List E} (h : ND L) {q : Nat} {x : Int} (x0 : 0 ≤ x) (hx : (litsF L)[q]? = some (U.notF x)) : valueF L x = -1 := by
  obtain ⟨e, he, h1⟩ := lits_at.1 hx
  have hne := U.not_ne x0
  have h2 : x / 2 = ((vr e : Nat) : Int) := by
    unfold U.notF at h1
    rw [if_neg (by omega)] at h1
    unfold vr
    split at h1 <;> omega
  unfold valueF
  rw [if_neg (by omega), h2, at_of h he]
  simp only
  rw [if_neg (by rw [h1]; exact hne)]

theorem val_cases {L : List E} (x : Int) : (valueF L x = 0) ∨ (valueF L x = 1 ∧ 0 ≤ x ∧ ∃ q : Nat, (litsF L)[q]? = some x) ∨ (valueF L x = -1 ∧ 0 ≤ x ∧ ∃ q : Nat, (litsF L)[q]? = some (U.notF x)) := by
  unfold valueF
  by_cases h0 : x < 0
  · rw [if_pos h0]; exact .inl rfl
  · rw [if_neg h0]
    cases ha : atF L (x / 2) with
    | none => exact .inl rfl
    | some e =>
      obtain ⟨h1, h2⟩ := at_some ha
      obtain ⟨q, hq⟩ := List.mem_iff_getElem?.1 h1
      simp only
      by_cases h3 : (e.l : Int) = x
      · rw [if_pos h3]
        exact .inr (.inl ⟨rfl, by omega, q, lits_at.2 ⟨e, hq, h3⟩⟩)
      · rw [if_neg h3]
        refine .inr (.inr ⟨rfl, by omega, q, lits_at.2 ⟨e, hq, ?_⟩⟩)
        unfold U.notF
        rw [if_neg (by omega)]
        unfold vr at h2
        split <;> omega

theorem val_one {L : List E} {x : Int} (h : valueF L x = 1) : 0 ≤ x ∧ ∃ q : Nat, (litsF L)[q]? = some x := by
  rcases val_cases (L := L) x with h1 | ⟨_, h1⟩ | ⟨h1, _⟩
  · omega
  · exact h1
  · omega

theorem val_neg {L : List E} {x : Int} (h : valueF L x < 0) : valueF L x = -1 ∧ 0 ≤ x ∧ ∃ q : Nat, (litsF L)[q]? = some (U.notF x) := by
  rcases val_cases (L := L) x with h1 | ⟨h1, _⟩ | h1
  · omega
  · omega
  · exact h1

theorem val_may {L : List E} (h : ND L) {x : Int} (x0 : 0 ≤ x) (hv : 0 ≤ valueF L x) (q : Nat) : (litsF L)[q]? ≠ some (U.notF x) := by
  intro c
  have := val_not h x0 c
  omega

theorem both_no {L : List E} (h : ND L) {q r : Nat} {x : Int} (x0 : 0 ≤ x) (hx : (litsF L)[q]? = some x) (hn : (litsF L)[r]? = some (U.notF x)) : False := by
  have h1 := val_pos h hx
  have h2 := val_not h x0 hn
  omega

theorem at_inj {L : List E} (h : ND L) {q r : Nat} {x : Int} (hx : (litsF L)[q]? = some x) (hy : (litsF L)[r]? = some x) : q = r := by
  obtain ⟨e, he, h1⟩ := lits_at.1 hx
  obtain ⟨e', he', h2⟩ := lits_at.1 hy
  exact nd_one h he he' (by unfold vr; omega)


end Go.Proofs.Ytikdmgemhfmipaa
