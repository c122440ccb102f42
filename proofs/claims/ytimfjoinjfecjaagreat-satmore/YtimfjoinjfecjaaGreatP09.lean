/-
  What holds of the watched literals between all calls.
  Marks in an array of pages; the level of a variable.
-/
import Derived.Test.YtimfjoinjfecjaaGreatP08
import Derived.Test.YtimfjoinjfecjaaGreatP05
import Derived.Test.YtimfjoinjfecjaaGreatP01
import Derived.RangeFuncCalls

namespace Go.Proofs.YtimfjoinjfecjaaGreat
open Go.RowKit Go.Maps
set_option linter.unusedVariables false

/-- The variable of a literal. -/
def vl (x : Int) : Nat := x.toNat / 2

theorem vl_not {x : Int} (h : 0 ≤ x) : vl (U.notF x) = vl x := by
  unfold vl U.notF
  rw [if_neg (by omega)]
  split <;> omega

/-! ### Values -/
def ND (L : List E) : Prop := (L.map vr).Nodup

theorem Trl.nd {k : K} {w : World} {L : List E} {lev : Nat} {p : V} (t : Trl k w L lev p) : ND L := by obtain ⟨F, S, s, g, _⟩ := t; exact g.nd
theorem Trl.lits_lt {k : K} {w : World} {L : List E} {lev : Nat} {p : V} (t : Trl k w L lev p) : ∀ e ∈ L, vr e < k.n := by obtain ⟨F, S, s, g, _⟩ := t; exact g.lt

theorem lits_at {L : List E} {q : Nat} {x : Int} : (litsF L)[q]? = some x ↔ ∃ e, L[q]? = some e ∧ (e.l : Int) = x := by
  simp [litsF]

theorem nd_one {L : List E} (h : ND L) {q r : Nat} {a b : E} (ha : L[q]? = some a) (hb : L[r]? = some b) (e : vr a = vr b) : q = r := by
  have h1 : (L.map vr)[q]? = some (vr a) := by simp [ha]
  have h2 : (L.map vr)[r]? = some (vr a) := by simp [hb, e]
  have hq := (List.getElem?_eq_some_iff.1 h1).1
  exact (List.getElem?_inj hq h).1 (h1.trans h2.symm)

theorem at_of {L : List E} (h : ND L) {q : Nat} {e : E} (he : L[q]? = some e) : atF L (vr e : Int) = some e := by
  cases ha : atF L (vr e : Int) with
  | none => exact absurd rfl (at_none.1 ha e (List.mem_of_getElem? he))
  | some e' =>
    obtain ⟨h1, h2⟩ := at_some ha
    obtain ⟨r, hr⟩ := List.mem_iff_getElem?.1 h1
    have := nd_one h he hr (by omega)
    subst this
    rw [he] at hr; exact hr.symm

theorem val_pos {L : List E} (h : ND L) {q : Nat} {x : Int} (hx : (litsF L)[q]? = some x) : valueF L x = 1 := by
  obtain ⟨e, he, rfl⟩ := lits_at.1 hx
  have h2 : (e.l : Int) / 2 = ((vr e : Nat) : Int) := by unfold vr; omega
  unfold valueF
  rw [if_neg (by omega), h2, at_of h he]
  simp

theorem val_not {L : List E} (h : ND L) {q : Nat} {x : Int} (x0 : 0 ≤ x) (hx : (litsF L)[q]? = some (U.notF x)) : valueF L x = -1 := by
  obtain ⟨e, he, h1⟩ := lits_at.1 hx
  have hne := U.not_ne x0
  have h2 : x / 2 = ((vr e : Nat) : Int) := by
    unfold U.notF at h1
    rw [if_neg (by omega)] at h1
    unfold vr
    split at h1 <;> omega
  unfold valueF
  rw [if_neg (by omega), h2, at_of h he]
  simp only
  rw [if_neg (by rw [h1]; exact hne)]

theorem val_cases {L : List E} (x : Int) : (valueF L x = 0) ∨ (valueF L x = 1 ∧ 0 ≤ x ∧ ∃ q : Nat, (litsF L)[q]? = some x) ∨ (valueF L x = -1 ∧ 0 ≤ x ∧ ∃ q : Nat, (litsF L)[q]? = some (U.notF x)) := by
  unfold valueF
  by_cases h0 : x < 0
  · rw [if_pos h0]; exact .inl rfl
  · rw [if_neg h0]
    cases ha : atF L (x / 2) with
    | none => exact .inl rfl
    | some e =>
      obtain ⟨h1, h2⟩ := at_some ha
      obtain ⟨q, hq⟩ := List.mem_iff_getElem?.1 h1
      simp only
      by_cases h3 : (e.l : Int) = x
      · rw [if_pos h3]
        exact .inr (.inl ⟨rfl, by omega, q, lits_at.2 ⟨e, hq, h3⟩⟩)
      · rw [if_neg h3]
        refine .inr (.inr ⟨rfl, by omega, q, lits_at.2 ⟨e, hq, ?_⟩⟩)
        unfold U.notF
        rw [if_neg (by omega)]
        unfold vr at h2
        split <;> omega

theorem val_one {L : List E} {x : Int} (h : valueF L x = 1) : 0 ≤ x ∧ ∃ q : Nat, (litsF L)[q]? = some x := by
  rcases val_cases (L := L) x with h1 | ⟨_, h1⟩ | ⟨h1, _⟩
  · omega
  · exact h1
  · omega

theorem val_neg {L : List E} {x : Int} (h : valueF L x < 0) : valueF L x = -1 ∧ 0 ≤ x ∧ ∃ q : Nat, (litsF L)[q]? = some (U.notF x) := by
  rcases val_cases (L := L) x with h1 | ⟨h1, _⟩ | h1
  · omega
  · omega
  · exact h1

theorem val_may {L : List E} (h : ND L) {x : Int} (x0 : 0 ≤ x) (hv : 0 ≤ valueF L x) (q : Nat) : (litsF L)[q]? ≠ some (U.notF x) := by
  intro c
  have := val_not h x0 c
  omega

theorem both_no {L : List E} (h : ND L) {q r : Nat} {x : Int} (x0 : 0 ≤ x) (hx : (litsF L)[q]? = some x) (hn : (litsF L)[r]? = some (U.notF x)) : False := by
  have h1 := val_pos h hx
  have h2 := val_not h x0 hn
  omega

theorem at_inj {L : List E} (h : ND L) {q r : Nat} {x : Int} (hx : (litsF L)[q]? = some x) (hy : (litsF L)[r]? = some x) : q = r := by
  obtain ⟨e, he, h1⟩ := lits_at.1 hx
  obtain ⟨e', he', h2⟩ := lits_at.1 hy
  exact nd_one h he he' (by unfold vr; omega)

/-! ### The watched literals -/
/-- If a does not hold, and the clause was told so, b holds, and has since ahead of that, or the clause leans on it. -/
def Hf (n : Nat) (P : Nat → List Nat) (H : List Int) (d i : Nat) (a b : Int) : Prop := ∀ q : Nat, q < d → H[q]? = some (U.notF a) → ∃ r : Nat, H[r]? = some b ∧ (r ≤ q ∨ i ∈ P (2 * n + vl b))

def OkAt (n : Nat) (g : G) (H : List Int) (d i : Nat) : Prop :=
  (g.a i = -1 ∧ ∃ x ∈ g.lt i, ∃ q : Nat, H[q]? = some x ∧ i ∈ g.P (2 * n + vl x)) ∨ (g.a i ≠ -1 ∧ Hf n g.P H d i (g.a i) (g.b i) ∧ Hf n g.P H d i (g.b i) (g.a i))

def WtOk (g : G) (i : Nat) : Prop := (g.a i = -1 ∧ g.b i = -1) ∨ (0 ≤ g.a i ∧ 0 ≤ g.b i ∧ g.a i ≠ g.b i ∧ g.a i ∈ g.lt i ∧ g.b i ∈ g.lt i ∧ i ∈ g.P (g.a i).toNat ∧ i ∈ g.P (g.b i).toNat)

structure Inv (n : Nat) (g : G) (H : List Int) (d : Nat → Nat) (X : Nat → Prop) : Prop where
  rg : ∀ i, i < g.nx → g.gn i = false → ∀ x ∈ g.lt i, 0 ≤ x ∧ x < 2 * n
  fr : ∀ i, i < g.nx → g.gn i = false → g.fr i < (g.lt i).length ∨ g.lt i = []
  wt : ∀ i, i < g.nx → g.gn i = false → WtOk g i
  sd : ∀ l, l < 2 * n → ∀ i ∈ g.P l, g.gn i = false → g.a i = l ∨ g.b i = l
  nd : ∀ l, l < 2 * n → (g.P l).Nodup
  pl : ∀ (q : Nat) (x : Int), H[q]? = some x → g.pl (vl x) = q
  ok : ∀ i, i < g.nx → g.gn i = false → X i ∨ OkAt n g H (d i) i

section
variable {n : Nat} {g : G} {H : List Int} {d : Nat → Nat} {X : Nat → Prop}

theorem Hf.less {P : Nat → List Nat} {d d' i : Nat} {a b : Int} (h : Hf n P H d i a b) (hd : d' ≤ d) : Hf n P H d' i a b := fun q hq => h q (by omega)
theorem OkAt.less {d d' i : Nat} (h : OkAt n g H d i) (hd : d' ≤ d) : OkAt n g H d' i := by
  rcases h with h | ⟨h1, h2, h3⟩
  · exact .inl h
  · exact .inr ⟨h1, h2.less hd, h3.less hd⟩

theorem Inv.mono {d' : Nat → Nat} {X' : Nat → Prop} (h : Inv n g H d X) (hd : ∀ i, d' i ≤ d i) (hX : ∀ i, X i → X' i) : Inv n g H d' X' :=
  ⟨h.rg, h.fr, h.wt, h.sd, h.nd, h.pl, fun i hi hg => (h.ok i hi hg).elim (fun c => .inl (hX i c)) (fun c => .inr (c.less (hd i)))⟩

theorem Inv.off {X' : Nat → Prop} (h : Inv n g H d X) (hX : ∀ i, i < g.nx → g.gn i = false → X i → X' i ∨ OkAt n g H (d i) i) : Inv n g H d X' :=
  ⟨h.rg, h.fr, h.wt, h.sd, h.nd, h.pl, fun i hi hg => (h.ok i hi hg).elim (fun c => hX i hi hg c) .inr⟩

/-- A list that only holds other clauses, or more of those that lean, changes nothing of a clause. -/
theorem OkAt.as {g' : G} {d i : Nat} (h : OkAt n g H d i) (ea : g'.a i = g.a i) (eb : g'.b i = g.b i) (el : g'.lt i = g.lt i) (hP : ∀ v, i ∈ g.P (2 * n + v) → i ∈ g'.P (2 * n + v)) : OkAt n g' H d i := by
  unfold OkAt Hf at *
  rw [ea, eb, el]
  rcases h with ⟨h1, x, hx, q, hq, hp⟩ | ⟨h1, h2, h3⟩
  · exact .inl ⟨h1, x, hx, q, hq, hP _ hp⟩
  · refine .inr ⟨h1, fun q hq e => ?_, fun q hq e => ?_⟩
    · obtain ⟨r, r1, r2⟩ := h2 q hq e
      exact ⟨r, r1, r2.elim .inl (fun c => .inr (hP _ c))⟩
    · obtain ⟨r, r1, r2⟩ := h3 q hq e
      exact ⟨r, r1, r2.elim .inl (fun c => .inr (hP _ c))⟩

theorem mem_out {c i : Nat} {xs : List Nat} : i ∈ outF (fun j => j == c) xs ↔ i ∈ xs ∧ i ≠ c := by simp [outF]

/-- It watches nothing any more. -/
theorem Inv.unw (h : Inv n g H d X) {c a b : Nat} (hc : c < g.nx) (hg : g.gn c = false) (ea : g.a c = a) (eb : g.b c = b) (ha : a < 2 * n) (hb : b < 2 * n) (hab : a ≠ b) (v1 v2 : Value) :
    Inv n (((g.slot a (outF (fun i => i == c) (g.P a)) v1).slot b (outF (fun i => i == c) (g.P b)) v2).watch c (-1) (-1)) H d (fun i => X i ∨ i = c) := by
  have hPa : ∀ l, l ≠ a → l ≠ b → (((g.slot a (outF (fun i => i == c) (g.P a)) v1).slot b (outF (fun i => i == c) (g.P b)) v2).watch c (-1) (-1)).P l = g.P l := fun l h1 h2 => by
    show up (up g.P a _) b _ l = _; rw [up_ne _ _ h2, up_ne _ _ h1]
  have hPaa : (((g.slot a (outF (fun i => i == c) (g.P a)) v1).slot b (outF (fun i => i == c) (g.P b)) v2).watch c (-1) (-1)).P a = outF (fun i => i == c) (g.P a) := by
    show up (up g.P a _) b _ a = _; rw [up_ne _ _ hab, up_same]
  have hPbb : (((g.slot a (outF (fun i => i == c) (g.P a)) v1).slot b (outF (fun i => i == c) (g.P b)) v2).watch c (-1) (-1)).P b = outF (fun i => i == c) (g.P b) := by
    show up (up g.P a _) b _ b = _; rw [up_same]
  have hmem : ∀ l i, i ≠ c → (i ∈ (((g.slot a (outF (fun i => i == c) (g.P a)) v1).slot b (outF (fun i => i == c) (g.P b)) v2).watch c (-1) (-1)).P l ↔ i ∈ g.P l) := fun l i hi => by
    by_cases e1 : l = a
    · subst e1; rw [hPaa, mem_out]; simp [hi]
    · by_cases e2 : l = b
      · subst e2; rw [hPbb, mem_out]; simp [hi]
      · rw [hPa l e1 e2]
  have hA : ∀ i, i ≠ c → (((g.slot a (outF (fun i => i == c) (g.P a)) v1).slot b (outF (fun i => i == c) (g.P b)) v2).watch c (-1) (-1)).a i = g.a i := fun i hi => up_ne _ _ hi
  have hB : ∀ i, i ≠ c → (((g.slot a (outF (fun i => i == c) (g.P a)) v1).slot b (outF (fun i => i == c) (g.P b)) v2).watch c (-1) (-1)).b i = g.b i := fun i hi => up_ne _ _ hi
  refine ⟨h.rg, h.fr, fun i hi hgi => ?_, fun l hl i hi hgi => ?_, fun l hl => ?_, h.pl, fun i hi hgi => ?_⟩
  · by_cases e : i = c
    · subst e
      exact .inl ⟨up_same _ _ _, up_same _ _ _⟩
    · unfold WtOk
      rw [hA i e, hB i e, hmem _ i e, hmem _ i e]
      exact h.wt i hi hgi
  · by_cases e : i = c
    · subst e
      exfalso
      by_cases e1 : l = a
      · subst e1; rw [hPaa, mem_out] at hi; exact hi.2 rfl
      · by_cases e2 : l = b
        · subst e2; rw [hPbb, mem_out] at hi; exact hi.2 rfl
        · rw [hPa l e1 e2] at hi
          rcases h.sd l hl i hi hg with q | q
          · rw [ea] at q; omega
          · rw [eb] at q; omega
    · rw [hA i e, hB i e]
      exact h.sd l hl i ((hmem l i e).1 hi) hgi
  · by_cases e1 : l = a
    · subst e1; rw [hPaa]; exact (h.nd l hl).filter _
    · by_cases e2 : l = b
      · subst e2; rw [hPbb]; exact (h.nd l hl).filter _
      · rw [hPa l e1 e2]; exact h.nd l hl
  · by_cases e : i = c
    · exact .inl (.inr e)
    · rcases h.ok i hi hgi with q | q
      · exact .inl (.inl q)
      · exact .inr (q.as (hA i e) (hB i e) rfl (fun v hv => (hmem _ i e).2 hv))

/-- It watches two literals that hold, or may. -/
theorem Inv.wat {L : List E} {c : Nat} (h : Inv n g (litsF L) d (fun i => X i ∨ i = c)) (hnd : ND L) {a b : Nat} (hc : c < g.nx) (hg : g.gn c = false) (ea : g.a c = -1) (ha : (a : Int) ∈ g.lt c) (hb : (b : Int) ∈ g.lt c) (hab : a ≠ b) (va : 0 ≤ valueF L a) (vb : 0 ≤ valueF L b) (v1 v2 : Value) :
    Inv n (((g.watch c a b).slot a (g.P a ++ [c]) v1).slot b (g.P b ++ [c]) v2) (litsF L) d (fun i => X i ∧ i ≠ c) := by
  have ra := h.rg c hc hg a ha
  have rb := h.rg c hc hg b hb
  have hno : ∀ l, l < 2 * n → c ∉ g.P l := fun l hl hm => by
    have hbb : g.b c = -1 := by
      rcases h.wt c hc hg with q | q
      · exact q.2
      · rw [ea] at q; omega
    rcases h.sd l hl c hm hg with q | q
    · rw [ea] at q; omega
    · rw [hbb] at q; omega
  have hPa : ∀ l, l ≠ a → l ≠ b → (((g.watch c a b).slot a (g.P a ++ [c]) v1).slot b (g.P b ++ [c]) v2).P l = g.P l := fun l h1 h2 => by
    show up (up g.P a _) b _ l = _; rw [up_ne _ _ h2, up_ne _ _ h1]
  have hPaa : (((g.watch c a b).slot a (g.P a ++ [c]) v1).slot b (g.P b ++ [c]) v2).P a = g.P a ++ [c] := by
    show up (up g.P a _) b _ a = _; rw [up_ne _ _ hab, up_same]
  have hPbb : (((g.watch c a b).slot a (g.P a ++ [c]) v1).slot b (g.P b ++ [c]) v2).P b = g.P b ++ [c] := by
    show up (up g.P a _) b _ b = _; rw [up_same]
  have hmem : ∀ l i, i ≠ c → (i ∈ (((g.watch c a b).slot a (g.P a ++ [c]) v1).slot b (g.P b ++ [c]) v2).P l ↔ i ∈ g.P l) := fun l i hi => by
    by_cases e1 : l = a
    · subst e1; rw [hPaa]; simp [hi]
    · by_cases e2 : l = b
      · subst e2; rw [hPbb]; simp [hi]
      · rw [hPa l e1 e2]
  have hA : ∀ i, i ≠ c → (((g.watch c a b).slot a (g.P a ++ [c]) v1).slot b (g.P b ++ [c]) v2).a i = g.a i := fun i hi => up_ne _ _ hi
  have hB : ∀ i, i ≠ c → (((g.watch c a b).slot a (g.P a ++ [c]) v1).slot b (g.P b ++ [c]) v2).b i = g.b i := fun i hi => up_ne _ _ hi
  have hAc : (((g.watch c a b).slot a (g.P a ++ [c]) v1).slot b (g.P b ++ [c]) v2).a c = a := up_same _ _ _
  have hBc : (((g.watch c a b).slot a (g.P a ++ [c]) v1).slot b (g.P b ++ [c]) v2).b c = b := up_same _ _ _
  refine ⟨h.rg, h.fr, fun i hi hgi => ?_, fun l hl i hi hgi => ?_, fun l hl => ?_, h.pl, fun i hi hgi => ?_⟩
  · by_cases e : i = c
    · subst e
      unfold WtOk
      rw [hAc, hBc]
      refine .inr ⟨by omega, by omega, by omega, ha, hb, ?_, ?_⟩
      · rw [Int.toNat_natCast, hPaa]; simp
      · rw [Int.toNat_natCast, hPbb]; simp
    · unfold WtOk
      rw [hA i e, hB i e, hmem _ i e, hmem _ i e]
      exact h.wt i hi hgi
  · by_cases e : i = c
    · subst e
      rw [hAc, hBc]
      by_cases e1 : l = a
      · exact .inl (by omega)
      · by_cases e2 : l = b
        · exact .inr (by omega)
        · rw [hPa l e1 e2] at hi
          exact absurd hi (hno l hl)
    · rw [hA i e, hB i e]
      exact h.sd l hl i ((hmem l i e).1 hi) hgi
  · by_cases e1 : l = a
    · subst e1; rw [hPaa]
      exact List.nodup_append.2 ⟨h.nd l hl, by simp, fun x hx y hy => by rw [List.mem_singleton] at hy; rw [hy]; intro q; rw [q] at hx; exact hno l hl hx⟩
    · by_cases e2 : l = b
      · subst e2; rw [hPbb]
        exact List.nodup_append.2 ⟨h.nd l hl, by simp, fun x hx y hy => by rw [List.mem_singleton] at hy; rw [hy]; intro q; rw [q] at hx; exact hno l hl hx⟩
      · rw [hPa l e1 e2]; exact h.nd l hl
  · by_cases e : i = c
    · subst e
      refine .inr (.inr ⟨by rw [hAc]; omega, ?_, ?_⟩)
      · rw [hAc, hBc]; exact fun q _ hq => absurd hq (val_may hnd (by omega) va q)
      · rw [hAc, hBc]; exact fun q _ hq => absurd hq (val_may hnd (by omega) vb q)
    · rcases h.ok i hi hgi with (q | q) | q
      · exact .inl ⟨q, e⟩
      · exact absurd q e
      · exact .inr (q.as (hA i e) (hB i e) rfl (fun v hv => (hmem _ i e).2 hv))

/-- One more holds. -/
theorem Inv.grow (h : Inv n g H d X) {x : Int} (hx : ∀ y ∈ H, vl y ≠ vl x) (hd : ∀ i, d i ≤ H.length) : Inv n (g.place (vl x) H.length) (H ++ [x]) d X := by
  refine ⟨h.rg, h.fr, h.wt, h.sd, h.nd, fun q y hq => ?_, fun i hi hgi => ?_⟩
  · by_cases e : q < H.length
    · rw [List.getElem?_append_left e] at hq
      have := hx y (List.mem_of_getElem? hq)
      show up g.pl (vl x) _ (vl y) = q
      rw [up_ne _ _ this]; exact h.pl q y hq
    · have hl := (List.getElem?_eq_some_iff.1 hq).1
      simp at hl
      have : q = H.length := by omega
      subst this
      simp at hq
      subst hq
      exact up_same _ _ _
  · have key : ∀ a b : Int, Hf n g.P H (d i) i a b → Hf n g.P (H ++ [x]) (d i) i a b := fun a b hh q hq e => by
      have := hd i
      rw [List.getElem?_append_left (by omega)] at e
      obtain ⟨r, r1, r2⟩ := hh q hq e
      have hr := (List.getElem?_eq_some_iff.1 r1).1
      exact ⟨r, by rw [List.getElem?_append_left hr]; exact r1, r2⟩
    rcases h.ok i hi hgi with q | ⟨h1, y, hy, q, hq, hp⟩ | ⟨h1, h2, h3⟩
    · exact .inl q
    · have hr := (List.getElem?_eq_some_iff.1 hq).1
      exact .inr (.inl ⟨h1, y, hy, q, by rw [List.getElem?_append_left hr]; exact hq, hp⟩)
    · exact .inr (.inr ⟨h1, key _ _ h2, key _ _ h3⟩)

/-- A list of those that lean has more. -/
theorem Inv.more (h : Inv n g H d X) {s : Nat} (hs : 2 * n ≤ s) {xs : List Nat} (hx : ∀ i ∈ g.P s, i ∈ xs) (v : Value) : Inv n (g.slot s xs v) H d X := by
  have hP : ∀ l, l < 2 * n → (g.slot s xs v).P l = g.P l := fun l hl => up_ne _ _ (by omega)
  refine ⟨h.rg, h.fr, fun i hi hgi => ?_, fun l hl i hi hgi => ?_, fun l hl => ?_, h.pl, fun i hi hgi => ?_⟩
  · rcases h.wt i hi hgi with q | ⟨q1, q2, q3, q4, q5, q6, q7⟩
    · exact .inl q
    · have r1 := h.rg i hi hgi _ q4
      have r2 := h.rg i hi hgi _ q5
      refine .inr ⟨q1, q2, q3, q4, q5, ?_, ?_⟩
      · show i ∈ (g.slot s xs v).P (g.a i).toNat
        rw [hP _ (show (g.a i).toNat < 2 * n by omega)]; exact q6
      · show i ∈ (g.slot s xs v).P (g.b i).toNat
        rw [hP _ (show (g.b i).toNat < 2 * n by omega)]; exact q7
  · rw [hP l hl] at hi; exact h.sd l hl i hi hgi
  · rw [hP l hl]; exact h.nd l hl
  · rcases h.ok i hi hgi with q | q
    · exact .inl q
    · refine .inr (q.as rfl rfl rfl (fun u hu => ?_))
      show i ∈ up g.P s xs _
      by_cases e : 2 * n + u = s
      · rw [e] at hu ⊢; rw [up_same]; exact hx i hu
      · rw [up_ne _ _ e]; exact hu

theorem Inv.from (h : Inv n g H d X) {c f : Nat} (hf : f < (g.lt c).length ∨ g.lt c = []) : Inv n (g.from c f) H d X := by
  refine ⟨h.rg, fun i hi hgi => ?_, h.wt, h.sd, h.nd, h.pl, h.ok⟩
  show up g.fr c f i < _ ∨ _
  by_cases e : i = c
  · subst e; rw [up_same]; exact hf
  · rw [up_ne _ _ e]; exact h.fr i hi hgi

/-- It holds by a literal that it leans on. -/
theorem Inv.leant {c : Nat} (h : Inv n g H d (fun i => X i ∨ i = c)) (ea : g.a c = -1) {x : Int} (hx : x ∈ g.lt c) {q : Nat} (hq : H[q]? = some x) (hp : c ∈ g.P (2 * n + vl x)) : Inv n g H d (fun i => X i ∧ i ≠ c) :=
  h.off fun i hi hgi hX => by
    by_cases e : i = c
    · subst e; exact .inr (.inl ⟨ea, x, hx, q, hq, hp⟩)
    · rcases hX with hX | hX
      · exact .inl ⟨hX, e⟩
      · exact absurd hX e
end

/-! ### Reasons; how many lean -/
/-- Whoever holds for a clause is of it, and all others of it do not hold, and did not ahead of it. -/
def Rs (g : G) (L : List E) : Prop := ∀ (q : Nat) (e : E), L[q]? = some e → 0 ≤ e.r → ∃ c : Nat, e.r = c ∧ c < g.nx ∧ (1 ≤ e.g → g.gn c = false) ∧ (e.l : Int) ∈ g.lt c ∧ ∀ y ∈ g.lt c, y ≠ e.l → ∃ r : Nat, r < q ∧ (litsF L)[r]? = some (U.notF y)

theorem litsF_app (L M : List E) : litsF (L ++ M) = litsF L ++ litsF M := by simp [litsF]

theorem Rs.take {g : G} {L : List E} (h : Rs g L) (m : Nat) : Rs g (L.take m) := by
  intro q e he hr
  have hq := (List.getElem?_eq_some_iff.1 he).1
  simp at hq
  rw [List.getElem?_take_of_lt (by omega)] at he
  obtain ⟨c, c1, c2, c3, c4, c5⟩ := h q e he hr
  refine ⟨c, c1, c2, c3, c4, fun y hy hne => ?_⟩
  obtain ⟨r, r1, r2⟩ := c5 y hy hne
  refine ⟨r, r1, ?_⟩
  have : litsF (L.take m) = (litsF L).take m := by simp [litsF, List.map_take]
  rw [this, List.getElem?_take_of_lt (by omega)]; exact r2

theorem Rs.snoc {g : G} {L : List E} (h : Rs g L) {e : E} (he : 0 ≤ e.r → ∃ c : Nat, e.r = c ∧ c < g.nx ∧ (1 ≤ e.g → g.gn c = false) ∧ (e.l : Int) ∈ g.lt c ∧ ∀ y ∈ g.lt c, y ≠ e.l → ∃ r : Nat, (litsF L)[r]? = some (U.notF y)) : Rs g (L ++ [e]) := by
  intro q e' hq hr
  have lift : ∀ (r : Nat) (x : Int), (litsF L)[r]? = some x → r < L.length ∧ (litsF (L ++ [e]))[r]? = some x := fun r x hx => by
    have hr := (List.getElem?_eq_some_iff.1 hx).1
    rw [litsF_len] at hr
    refine ⟨hr, ?_⟩
    rw [litsF_app, List.getElem?_append_left (by rw [litsF_len]; exact hr)]; exact hx
  by_cases c : q < L.length
  · rw [List.getElem?_append_left c] at hq
    obtain ⟨c, c1, c2, c3, c4, c5⟩ := h q e' hq hr
    refine ⟨c, c1, c2, c3, c4, fun y hy hne => ?_⟩
    obtain ⟨r, r1, r2⟩ := c5 y hy hne
    exact ⟨r, r1, (lift r _ r2).2⟩
  · have hl := (List.getElem?_eq_some_iff.1 hq).1
    simp at hl
    have : q = L.length := by omega
    subst this
    simp at hq
    subst hq
    obtain ⟨c, c1, c2, c3, c4, c5⟩ := he hr
    refine ⟨c, c1, c2, c3, c4, fun y hy hne => ?_⟩
    obtain ⟨r, r1⟩ := c5 y hy hne
    exact ⟨r, lift r _ r1⟩

theorem Rs.as {g g' : G} {L : List E} (h : Rs g L) (e1 : g'.nx = g.nx) (e2 : g'.gn = g.gn) (e3 : g'.lt = g.lt) : Rs g' L := by
  intro q e he hr
  obtain ⟨c, c1, c2, c3, c4, c5⟩ := h q e he hr
  exact ⟨c, c1, by rw [e1]; exact c2, by rw [e2]; exact c3, by rw [e3]; exact c4, by rw [e3]; exact c5⟩

/-- How many lean. -/
def sumL (n : Nat) (P : Nat → List Nat) : Nat := ((List.range n).map (fun v => (P (2 * n + v)).length)).sum

theorem sum_out {n m : Nat} {P : Nat → List Nat} {s : Nat} {xs : List Nat} (hs : ∀ v, v < m → 2 * n + v ≠ s) : ((List.range m).map (fun v => (up P s xs (2 * n + v)).length)).sum = ((List.range m).map (fun v => (P (2 * n + v)).length)).sum := by
  congr 1
  apply List.map_congr_left
  intro v hv
  rw [up_ne _ _ (hs v (List.mem_range.1 hv))]

theorem sum_in {n : Nat} {P : Nat → List Nat} {u : Nat} {xs : List Nat} : ∀ {m : Nat}, u < m → ((List.range m).map (fun v => (up P (2 * n + u) xs (2 * n + v)).length)).sum + (P (2 * n + u)).length = ((List.range m).map (fun v => (P (2 * n + v)).length)).sum + xs.length := by
  intro m
  induction m with
  | zero => intro h; omega
  | succ m ih =>
    intro h
    rw [List.range_succ, List.map_append, List.map_append, List.sum_append, List.sum_append]
    simp only [List.map_cons, List.map_nil, List.sum_cons, List.sum_nil]
    by_cases e : u = m
    · subst e
      rw [sum_out (fun v hv => by omega), up_same]; omega
    · have := ih (by omega)
      rw [up_ne _ _ (show 2 * n + m ≠ 2 * n + u by omega)]; omega

theorem sum_slot {n : Nat} {g : G} {u : Nat} (hu : u < n) (xs : List Nat) (v : Value) : sumL n (g.slot (2 * n + u) xs v).P + (g.P (2 * n + u)).length = sumL n g.P + xs.length := sum_in hu

theorem sum_other {n : Nat} {g : G} {s : Nat} (hs : s < 2 * n ∨ 3 * n ≤ s) (xs : List Nat) (v : Value) : sumL n (g.slot s xs v).P = sumL n g.P := sum_out (fun v hv => by omega)

theorem sum_le {n : Nat} {P : Nat → List Nat} {u : Nat} (hu : u < n) : (P (2 * n + u)).length ≤ sumL n P := by
  have := sum_in (n := n) (P := P) (u := u) (xs := []) hu
  simp only [List.length_nil] at this
  unfold sumL
  omega

/-- All but what the lists of clauses, and the watched literals, say is as it was. -/
structure Same (g g' : G) : Prop where
  nx : g'.nx = g.nx
  cb : g'.cb = g.cb
  lt : g'.lt = g.lt
  lv : g'.lv = g.lv
  gn : g'.gn = g.gn
  mp : g'.mp = g.mp
  hv : g'.hv = g.hv
  rm : g'.rm = g.rm

theorem Same.refl (g : G) : Same g g := ⟨rfl, rfl, rfl, rfl, rfl, rfl, rfl, rfl⟩
theorem Same.trans {a b c : G} (h : Same a b) (k : Same b c) : Same a c := ⟨k.nx.trans h.nx, k.cb.trans h.cb, k.lt.trans h.lt, k.lv.trans h.lv, k.gn.trans h.gn, k.mp.trans h.mp, k.hv.trans h.hv, k.rm.trans h.rm⟩

/-- What came to hold did for clauses. -/
def Ext (L L' : List E) (lev : Nat) : Prop := ∃ M, L' = L ++ M ∧ ∀ e ∈ M, e.g = lev ∧ 0 ≤ e.r

theorem Ext.refl (L : List E) (lev : Nat) : Ext L L lev := ⟨[], by simp, fun e he => by simp at he⟩
theorem Ext.trans {a b c : List E} {lev : Nat} (h : Ext a b lev) (k : Ext b c lev) : Ext a c lev := by
  obtain ⟨M, rfl, h2⟩ := h
  obtain ⟨N, rfl, k2⟩ := k
  exact ⟨M ++ N, by simp, fun e he => (List.mem_append.1 he).elim (h2 e) (k2 e)⟩
theorem Ext.one (L : List E) (lev m : Nat) (c : Nat) : Ext L (L ++ [⟨m, lev, c⟩]) lev := ⟨_, rfl, fun e he => by rw [List.mem_singleton] at he; subst he; exact ⟨rfl, Int.natCast_nonneg c⟩⟩
theorem Ext.len {L L' : List E} {lev : Nat} (h : Ext L L' lev) : L.length ≤ L'.length := by obtain ⟨M, rfl, _⟩ := h; simp
theorem Ext.at {L L' : List E} {lev : Nat} (h : Ext L L' lev) {q : Nat} {x : Int} (hx : (litsF L)[q]? = some x) : (litsF L')[q]? = some x := by
  obtain ⟨M, rfl, _⟩ := h
  have hr := (List.getElem?_eq_some_iff.1 hx).1
  rw [litsF_app, List.getElem?_append_left hr]; exact hx

/-- A list whose members are few is short. -/
theorem nodup_len {l : List Nat} {n : Nat} (h : l.Nodup) (hl : ∀ x ∈ l, x < n) : l.length ≤ n := pig n l h hl

end Go.Proofs.YtimfjoinjfecjaaGreat

namespace Go.Proofs.YtimfjoinjfecjaaGreat
open Go.RowKit
set_option linter.unusedVariables false

def upN (f : Nat → Nat) (v k : Nat) : Nat → Nat := fun i => if i = v then k else f i

theorem upN_same (f : Nat → Nat) (v k : Nat) : upN f v k v = k := by simp [upN]
theorem upN_ne (f : Nat → Nat) {v i : Nat} (k : Nat) (h : i ≠ v) : upN f v k i = f i := by simp [upN, h]

def ptrO (pb : Option Nat) : Value := .pointer (pb.map (fun b => ⟨b, 0, none⟩))

/-- What a page tells of the numbers below 4096. -/
def Pg (w : World) : Option Nat → (Nat → Nat) → Prop
  | none, mk => ∀ i, i < 4096 → mk i = 0
  | some b, mk => ∃ pc, w.heap[b]? = some (.cells pc 160 (0, 0)) ∧ ∀ i, i < 4096 → pc[i]? = some (.int .u8 (mk i))

theorem Pg.keep {w w' : World} {pb : Option Nat} {mk : Nat → Nat} (h : Pg w pb mk) (e : ∀ b, pb = some b → w'.heap[b]? = w.heap[b]?) : Pg w' pb mk := by
  cases pb with
  | none => exact h
  | some b => obtain ⟨pc, h1, h2⟩ := h; exact ⟨pc, by rw [e b rfl]; exact h1, h2⟩

theorem quo0 {i : Nat} (hi : i < 4096) : (i : Int).tdiv 4096 = 0 := by rw [Int.tdiv_eq_ediv_of_nonneg (by omega)]; omega
theorem rem0 {i : Nat} (hi : i < 4096) : (i : Int).tmod 4096 = i := by rw [Int.tmod_eq_emod_of_nonneg (by omega)]; omega

theorem of_is {w : World} {MB off : Nat} {pb : Option Nat} {mk : Nat → Nat} (hc : w.cell? ⟨MB, off, none⟩ = some (ptrO pb)) (hp : Pg w pb mk) (i : Nat) (hi : i < 4096) {y : Int} (hy : (mk i : Int) = y) :
    Calls Tryz.prog 90 #[.pointer (some ⟨MB, off, none⟩), .int .i64 i] w fun e w' => e = .returned (.int .u8 y) ∧ w' = w := by
  subst hy
  have h1 := quo0 hi
  have h2 := rem0 hi
  cases pb with
  | none =>
    have hc2 : w.cell? ⟨MB, off, none⟩ = some (.pointer none) := hc
    rw [hp i hi]
    clear hc
    go_enter Tryz.func90, Tryz.ntmps90
    go_wp2
    go_ret
    exact ⟨rfl, rfl⟩
  | some b =>
    obtain ⟨pc, hb, h⟩ := hp
    have hc1 : w.cell? ⟨MB, off, none⟩ = some (.pointer (some ⟨b, 0, none⟩)) := hc
    have hc2 : w.cell? ⟨b, i, none⟩ = some (.int .u8 (mk i)) := by rw [cell_of hb]; exact h i hi
    have h3 : (i : Int) < 4096 := by omega
    clear h hb hc
    go_enter Tryz.func90, Tryz.ntmps90
    go_wp2
    go_ret
    exact ⟨rfl, rfl⟩

theorem zero_page (i : Nat) (hi : i < 4096) : Tryz.zeroCells160[i]? = some (.int .u8 0) := by
  have h : Tryz.zeroCells160.toList = List.replicate 4096 (.int .u8 0) := by kernel_rfl
  rw [← Array.getElem?_toList, h, List.getElem?_replicate, if_pos hi]

/-- A mark is set. -/
structure MarkEnd (w : World) (MB off : Nat) (T : TypeId) (cs : Array Value) (pb : Option Nat) (mk : Nat → Nat) (i k : Nat) (pb' : Option Nat) (cs' : Array Value) (w' : World) : Prop where
  blk : w'.heap[MB]? = some (.cells cs' T (0, 0))
  ptr : cs'[off]? = some (ptrO pb')
  oth : ∀ o, o ≠ off → cs'[o]? = cs[o]?
  pg : Pg w' pb' (upN mk i k)
  nw : pb' = pb ∨ pb' = some w.heap.size
  os : w'.os = w.os
  tape : w'.tape = w.tape
  output : w'.output = w.output
  size : w.heap.size ≤ w'.heap.size
  block : ∀ j, j < w.heap.size → j ≠ MB → pb ≠ some j → w'.heap[j]? = w.heap[j]?
  ko : KeepsOthers w w'

theorem set_is {w : World} {MB off : Nat} {T : TypeId} {cs : Array Value} {pb : Option Nat} {mk : Nat → Nat} (hb : w.heap[MB]? = some (.cells cs T (0, 0))) (hc : cs[off]? = some (ptrO pb)) (hp : Pg w pb mk) (hm : ∀ b, pb = some b → b ≠ MB) (i : Nat) (hi : i < 4096) (k : Nat) {y : Int} (hy : (k : Int) = y) :
    Calls Tryz.prog 91 #[.pointer (some ⟨MB, off, none⟩), .int .i64 i, .int .u8 y] w fun e w' => e = .returned (.tuple #[]) ∧ ∃ pb' cs', Hid (MarkEnd w MB off T cs pb mk i k pb' cs' w') := by
  subst hy
  have h1 := quo0 hi
  have h2 := rem0 hi
  have h3 : (i : Int) < 4096 := by omega
  have hMB := blk_lt hb
  have hf : w.frozen? ⟨MB, off, none⟩ = false := frozen_of hb
  cases pb with
  | none =>
    have c1 : w.cell? ⟨MB, off, none⟩ = some (.pointer none) := by rw [cell_of hb]; exact hc
    have HB := hid hb
    have HC := hid hc
    have HP := hid hp
    clear hb hc hp hm
    go_enter Tryz.func91, Tryz.ntmps91
    go_wp2
    go_end0
    refine ⟨rfl, some w.heap.size, cs.setIfInBounds off (ptrO (some w.heap.size)), hid ?_⟩
    have hsz : (w.setCell ⟨MB, off, none⟩ (.pointer (some ⟨w.heap.size, 0, none⟩))).heap.size = w.heap.size := by simp [World.setCell]
    have hol : off < cs.size := (Array.getElem?_eq_some_iff.1 HC.out).1
    have hk : ∀ j, j < w.heap.size → ((w.setCell ⟨MB, off, none⟩ (.pointer (some ⟨w.heap.size, 0, none⟩))).alloc (.cells (Tryz.zeroCells160.setIfInBounds i (.int .u8 k)) 160)).heap[j]? = (w.setCell ⟨MB, off, none⟩ (.pointer (some ⟨w.heap.size, 0, none⟩))).heap[j]? := fun j hj => heap_alloc_old _ _ (by rw [hsz]; exact hj)
    refine ⟨?_, ?_, ?_, ?_, .inr rfl, rfl, rfl, rfl, ?_, ?_, ?_⟩
    · rw [hk MB hMB]; exact set_same HB.out _
    · simp [hol]
    · intro o ho; rw [Array.getElem?_setIfInBounds_ne (fun c => ho c.symm)]
    · refine ⟨Tryz.zeroCells160.setIfInBounds i (.int .u8 k), ?_, fun o ho => ?_⟩
      · have := new_same (w.setCell ⟨MB, off, none⟩ (.pointer (some ⟨w.heap.size, 0, none⟩))) (.cells (Tryz.zeroCells160.setIfInBounds i (.int .u8 k)) 160)
        rw [hsz] at this
        exact this
      · rw [Array.getElem?_setIfInBounds]
        have hz := zero_page o ho
        have hl := (Array.getElem?_eq_some_iff.1 hz).1
        by_cases c : i = o
        · subst c; rw [if_pos rfl, if_pos hl, upN_same]
        · rw [if_neg c, hz, upN_ne _ _ (fun e => c e.symm), HP.out o ho]; rfl
    · simp [World.setCell]
    · intro j hj hne _; rw [hk j hj]; exact set_other _ hne
    · exact (KeepsOthers.setCell _ _ _).trans (KeepsOthers.alloc _ _)
  | some b =>
    obtain ⟨pc, hbp, h⟩ := hp
    have c1 : w.cell? ⟨MB, off, none⟩ = some (.pointer (some ⟨b, 0, none⟩)) := by rw [cell_of hb]; exact hc
    have c2 : w.cell? ⟨b, i, none⟩ = some (.int .u8 (mk i)) := by rw [cell_of hbp]; exact h i hi
    have f2 : w.frozen? ⟨b, i, none⟩ = false := frozen_of hbp
    have hne := hm b rfl
    have HB := hid hb
    have HC := hid hc
    have HP := hid hbp
    have H := hid h
    clear hb hc hbp h hm
    go_enter Tryz.func91, Tryz.ntmps91
    go_wp2
    go_end0
    refine ⟨rfl, some b, cs, hid ⟨?_, HC.out, fun _ _ => rfl, ?_, .inl rfl, rfl, rfl, rfl, by simp [World.setCell], ?_, KeepsOthers.setCell _ _ _⟩⟩
    · rw [set_other _ (fun c => hne c.symm)]; exact HB.out
    · refine ⟨_, set_same HP.out _, fun o ho => ?_⟩
      rw [Array.getElem?_setIfInBounds]
      have hl := (Array.getElem?_eq_some_iff.1 (H.out o ho)).1
      by_cases c : i = o
      · subst c; rw [if_pos rfl, if_pos hl, upN_same]
      · rw [if_neg c, H.out o ho, upN_ne _ _ (fun e => c e.symm)]
    · intro j hj _ hb2; exact set_other _ (fun c => hb2 (by rw [c]))

section
variable {k : K} {w : World} {F : Nat → Fc} {ls ss : List Int} {p : V}
theorem level_no (s : Raw k w F ls ss p) (v : Int) (h : isF k.n v = false) : Calls Tryz.prog 88 #[.pointer (some ⟨k.OB, 0, none⟩), .int .i64 v] w fun e w' => e = .returned (.int .i64 (-1)) ∧ w' = w := by
  have HS := hid s
  clear s
  go_enter Tryz.func88, Tryz.ntmps88
  go_wp2_with (go_at_call 128; with_reducible (refine (assigned_no HS.out _ h).mono ?_); rintro e w ⟨rfl, rfl⟩)
  go_ret
  exact ⟨rfl, rfl⟩

theorem level_yes (s : Raw k w F ls ss p) (v : Nat) (h : v < k.n) {y : Int} (hy : ((F v).v = 0 ∧ y = -1) ∨ ((F v).v ≠ 0 ∧ y = (F v).g)) : Calls Tryz.prog 88 #[.pointer (some ⟨k.OB, 0, none⟩), .int .i64 v] w fun e w' => e = .returned (.int .i64 y) ∧ w' = w := by
  have HS := hid s
  obtain ⟨x, hx⟩ : ∃ x, (F v).v = x := ⟨_, rfl⟩
  have HX := hid hx
  rw [hx] at hy
  have c0 := s.c0
  have fa := (s.fa h).2.1
  have h' : (v : Int) < k.n := by omega
  clear s hx
  rcases hy with ⟨hz, rfl⟩ | ⟨hz, hy⟩
  · have hz' : (x != 0) = false := by simpa using hz
    clear hz
    go_enter Tryz.func88, Tryz.ntmps88
    go_wp2_with (go_at_call 128; with_reducible (refine (assigned_yes HS.out _ h HX.out).mono ?_); rintro e w ⟨rfl, rfl⟩)
    go_ret
    exact ⟨rfl, rfl⟩
  · have hz' : (x != 0) = true := by simpa using hz
    rw [← hy] at fa
    clear hz hy
    go_enter Tryz.func88, Tryz.ntmps88
    go_wp2_with (go_at_call 128; with_reducible (refine (assigned_yes HS.out _ h HX.out).mono ?_); rintro e w ⟨rfl, rfl⟩)
    go_ret
    exact ⟨rfl, rfl⟩
end

section
variable {k : K} {w : World} {L : List E} {lev : Nat} {p : V}
theorem level_is (t : Trl k w L lev p) (v : Int) {y : Int} (hy : levelF L v = y) : Calls Tryz.prog 88 #[.pointer (some ⟨k.OB, 0, none⟩), .int .i64 v] w fun e w' => e = .returned (.int .i64 y) ∧ w' = w := by
  obtain ⟨F, S, s, g, _⟩ := t
  subst hy
  cases hi : isF k.n v
  · rw [(g.lookOut (v := v) (by simp [isF] at hi; omega)).1]; exact level_no s v hi
  · obtain ⟨u, rfl, hu⟩ := isF_yes hi
    refine level_yes s u hu ?_
    rcases g.look hu with ⟨h1, h2, _⟩ | ⟨h1, h2, _⟩
    · exact .inl ⟨h1, h2⟩
    · exact .inr ⟨h1, h2⟩
end

end Go.Proofs.YtimfjoinjfecjaaGreat
