/-
  What is assigned, as a list; what the calls make of it.
-/
import Derived.Test.YtimpoagdidnpiaaProg
namespace Go.Proofs.Ytimpoagdidnpiaa
set_option linter.unusedVariables false

/-- A literal that holds, its level, its reason. -/
structure E where
  l : Nat
  g : Nat
  r : Int

/-- What is known of a variable. -/
structure Fc where
  v : Int
  g : Int
  r : Int

def vr (e : E) : Nat := e.l / 2
def sg (l : Nat) : Int := if l % 2 = 1 then -1 else 1
def factOf (e : E) : Fc := ⟨sg e.l, e.g, e.r⟩

def atF (L : List E) (v : Int) : Option E := L.find? (fun e => decide ((vr e : Int) = v))

theorem at_some {L : List E} {v : Int} {e : E} (h : atF L v = some e) : e ∈ L ∧ (vr e : Int) = v := by
  unfold atF at h
  exact ⟨List.mem_of_find?_eq_some h, by simpa using List.find?_some h⟩
theorem at_none {L : List E} {v : Int} : atF L v = none ↔ ∀ e ∈ L, (vr e : Int) ≠ v := by
  unfold atF
  rw [List.find?_eq_none]
  simp
theorem at_neg {L : List E} {v : Int} (h : v < 0) : atF L v = none := at_none.2 fun e _ c => by omega

def mayF (n : Nat) (L : List E) (l : Int) : Bool := decide (0 ≤ l ∧ l / 2 < n) && (atF L (l / 2)).isNone
def valueF (L : List E) (l : Int) : Int := if l < 0 then 0 else match atF L (l / 2) with
  | none => 0
  | some e => if (e.l : Int) = l then 1 else -1
def levelF (L : List E) (v : Int) : Int := match atF L v with
  | none => -1
  | some e => e.g
def reasonF (L : List E) (v : Int) : Int := match atF L v with
  | none => -1
  | some e => e.r
def litsF (L : List E) : List Int := L.map (fun e => (e.l : Int))

def cutN (L : List E) (x : Int) : Nat → Nat
  | 0 => 0
  | q + 1 => match L[q]? with
    | some e => if x < (e.g : Int) then cutN L x q else q + 1
    | none => q + 1

def backOk (lev : Nat) (x : Int) : Bool := decide (0 ≤ x ∧ x < lev)
def backL (L : List E) (lev : Nat) (x : Int) : List E := if backOk lev x then L.take (cutN L x L.length) else L
def backV (lev : Nat) (x : Int) : Nat := if backOk lev x then x.toNat else lev
def backG (L : List E) (lev : Nat) (x : Int) : List Int := if backOk lev x then (L.drop (cutN L x L.length)).reverse.map (fun e => (vr e : Int)) else []

/-! ### What holds between the calls -/
structure Good (n : Nat) (L : List E) (F : Nat → Fc) (S : List Nat) : Prop where
  lt : ∀ e ∈ L, vr e < n
  f1 : ∀ e ∈ L, F (vr e) = factOf e
  f0 : ∀ v, v < n → (∀ e ∈ L, vr e ≠ v) → (F v).v = 0
  nd : (L.map vr).Nodup
  cut : ∀ (i s : Nat), S[i]? = some s → i ≤ s ∧ (∃ e, L[s]? = some e ∧ e.g = i + 1) ∧ ∀ (j : Nat) (e : E), L[j]? = some e → (e.g ≤ i ↔ j < s)
  lv : ∀ e ∈ L, e.g ≤ S.length
  ll : S.length ≤ L.length

theorem pig : ∀ (n : Nat) (l : List Nat), l.Nodup → (∀ x ∈ l, x < n) → l.length ≤ n := by
  intro n
  induction n with
  | zero =>
    intro l _ h
    cases l with
    | nil => simp
    | cons a l => have := h a (by simp); omega
  | succ n ih =>
    intro l hn h
    by_cases hm : n ∈ l
    · have h1 := ih (l.erase n) (hn.erase n) (fun x hx => by
        have := (List.Nodup.mem_erase_iff hn).1 hx
        have := h x this.2
        omega)
      rw [List.length_erase_of_mem hm] at h1
      omega
    · have := ih l hn (fun x hx => by
        have h2 := h x hx
        have : x ≠ n := fun c => hm (c ▸ hx)
        omega)
      omega

theorem Good.len {n : Nat} {L : List E} {F : Nat → Fc} {S : List Nat} (g : Good n L F S) : L.length ≤ n := by
  have := pig n (L.map vr) g.nd (fun x hx => by
    obtain ⟨e, he, rfl⟩ := List.mem_map.1 hx
    exact g.lt e he)
  simpa using this

theorem sg_cases (l : Nat) : (l % 2 = 1 ∧ sg l = -1) ∨ (l % 2 = 0 ∧ sg l = 1) := by
  unfold sg
  by_cases h : l % 2 = 1
  · exact .inl ⟨h, by rw [if_pos h]⟩
  · exact .inr ⟨by omega, by rw [if_neg h]⟩

theorem sg_ne (l : Nat) : sg l ≠ 0 := by rcases sg_cases l with ⟨_, h⟩ | ⟨_, h⟩ <;> rw [h] <;> decide

section
variable {n : Nat} {L : List E} {F : Nat → Fc} {S : List Nat}

theorem Good.has (g : Good n L F S) {v : Nat} (hv : v < n) (h : (F v).v ≠ 0) : ∃ e, atF L v = some e ∧ e ∈ L ∧ vr e = v := by
  cases ha : atF L v with
  | none => exact absurd (g.f0 v hv (fun e he c => (at_none.1 ha) e he (by rw [c]))) h
  | some e => obtain ⟨h1, h2⟩ := at_some ha; exact ⟨e, rfl, h1, by omega⟩

theorem Good.hasnt (g : Good n L F S) {v : Nat} (h : (F v).v = 0) : atF L v = none := by
  refine at_none.2 fun e he c => ?_
  have hv : vr e = v := by omega
  have := g.f1 e he
  rw [hv] at this
  rw [this] at h
  exact sg_ne _ h

theorem Good.one (g : Good n L F S) {e : E} (h : e ∈ L) : atF L (vr e) = some e := by
  cases ha : atF L (vr e) with
  | none => exact absurd rfl (at_none.1 ha e h)
  | some e' =>
    obtain ⟨h1, h2⟩ := at_some ha
    have hv : vr e' = vr e := by omega
    have q1 := g.f1 e h
    have q2 := g.f1 e' h1
    rw [hv, q1] at q2
    simp only [factOf, Fc.mk.injEq] at q2
    obtain ⟨q3, q4, q5⟩ := q2
    obtain ⟨l, lg, lr⟩ := e
    obtain ⟨l', lg', lr'⟩ := e'
    simp only [vr] at hv q3 q4 q5
    have e1 : l = l' := by
      rcases sg_cases l with ⟨a, b⟩ | ⟨a, b⟩ <;> rcases sg_cases l' with ⟨c, d⟩ | ⟨c, d⟩ <;> rw [b, d] at q3 <;> omega
    have e2 : lg = lg' := by omega
    subst e1 e2 q5
    rfl

/-- The value of a literal, by what is known of its variable. -/
theorem Good.value (g : Good n L F S) (l u : Nat) (hu : l / 2 = u) (h : u < n) : valueF L l = if l % 2 = 1 then -(F u).v else (F u).v := by
  subst hu
  have h0 : ¬ ((l : Int) < 0) := by omega
  have h2 : (l : Int) / 2 = ((l / 2 : Nat) : Int) := by omega
  unfold valueF
  rw [if_neg h0, h2]
  by_cases hz : (F (l / 2)).v = 0
  · rw [g.hasnt hz, hz]; simp
  · obtain ⟨e, ha, he, hv⟩ := g.has h hz
    rw [ha]
    have := g.f1 e he
    rw [hv] at this
    rw [this]
    simp only [factOf]
    simp only [vr] at hv
    by_cases hl : e.l = l
    · rw [hl, if_pos rfl]
      rcases sg_cases l with ⟨a, b⟩ | ⟨a, b⟩ <;> rw [b] <;> simp [a]
    · rw [if_neg (by omega)]
      rcases sg_cases e.l with ⟨a, b⟩ | ⟨a, b⟩
      · have : ¬ l % 2 = 1 := by omega
        rw [b, if_neg this]
      · have : l % 2 = 1 := by omega
        rw [b, if_pos this]

theorem Good.valueOut (g : Good n L F S) {l : Nat} (h : n ≤ l / 2) : valueF L l = 0 := by
  have h2 : (l : Int) / 2 = ((l / 2 : Nat) : Int) := by omega
  unfold valueF
  rw [if_neg (by omega), h2, at_none.2 fun e he c => by have := g.lt e he; omega]

theorem value_neg {L : List E} {l : Int} (h : l < 0) : valueF L l = 0 := by simp [valueF, h]

theorem Good.look (g : Good n L F S) {v : Nat} (hv : v < n) : ((F v).v = 0 ∧ levelF L v = -1 ∧ reasonF L v = -1) ∨ ((F v).v ≠ 0 ∧ levelF L v = (F v).g ∧ reasonF L v = (F v).r) := by
  by_cases hz : (F v).v = 0
  · refine .inl ⟨hz, ?_, ?_⟩
    · unfold levelF; rw [g.hasnt hz]
    · unfold reasonF; rw [g.hasnt hz]
  · obtain ⟨e, ha, he, rfl⟩ := g.has hv hz
    have := g.f1 e he
    refine .inr ⟨hz, ?_, ?_⟩
    · unfold levelF; rw [ha, this]; rfl
    · unfold reasonF; rw [ha, this]; rfl

theorem Good.lookOut (g : Good n L F S) {v : Int} (h : v < 0 ∨ (n : Int) ≤ v) : levelF L v = -1 ∧ reasonF L v = -1 := by
  have : atF L v = none := at_none.2 fun e he c => by have := g.lt e he; omega
  unfold levelF reasonF
  rw [this]
  exact ⟨rfl, rfl⟩

theorem Good.may (g : Good n L F S) (l u : Nat) (hu : l / 2 = u) (h : u < n) : mayF n L l = decide ((F u).v = 0) := by
  subst hu
  have h2 : (l : Int) / 2 = ((l / 2 : Nat) : Int) := by omega
  unfold mayF
  rw [h2]
  by_cases hz : (F (l / 2)).v = 0
  · rw [g.hasnt hz]; simp [hz]; omega
  · obtain ⟨e, ha, _⟩ := g.has h hz
    rw [ha]; simp [hz]

theorem may_out {n : Nat} {L : List E} {l : Int} (h : l < 0 ∨ (n : Int) ≤ l / 2) : mayF n L l = false := by
  unfold mayF
  simp
  intro h0 h1
  omega

/-! ### What the calls make -/
def upd (F : Nat → Fc) (v : Nat) (f : Fc) : Nat → Fc := fun u => if u = v then f else F u

theorem Good.add (g : Good n L F S) {l : Nat} (hl : l / 2 < n) (hz : (F (l / 2)).v = 0) (r : Int) : Good n (L ++ [⟨l, S.length, r⟩]) (upd F (l / 2) ⟨sg l, S.length, r⟩) S := by
  have hno : ∀ e ∈ L, vr e ≠ l / 2 := fun e he c => by
    have := g.f1 e he
    rw [c] at this
    rw [this] at hz
    exact sg_ne _ hz
  refine ⟨?_, ?_, ?_, ?_, ?_, ?_, ?_⟩
  · intro e he
    rcases List.mem_append.1 he with h | h
    · exact g.lt e h
    · rw [List.mem_singleton] at h; subst h; exact hl
  · intro e he
    rcases List.mem_append.1 he with h | h
    · simp only [upd]; rw [if_neg (hno e h)]; exact g.f1 e h
    · rw [List.mem_singleton] at h; subst h; simp [upd, vr, factOf]
  · intro v hv h
    have h1 := h ⟨l, S.length, r⟩ (by simp)
    simp only [vr] at h1
    simp only [upd]
    rw [if_neg (fun c => h1 c.symm)]
    exact g.f0 v hv fun e he => h e (by simp [he])
  · rw [List.map_append, List.nodup_append]
    refine ⟨g.nd, by simp, ?_⟩
    intro a ha b hb
    obtain ⟨e, he, rfl⟩ := List.mem_map.1 ha
    simp at hb
    subst hb
    exact hno e he
  · intro i s hs
    obtain ⟨h1, ⟨e, h2, h3⟩, h4⟩ := g.cut i s hs
    have hsl := (List.getElem?_eq_some_iff.1 h2).1
    have hi := (List.getElem?_eq_some_iff.1 hs).1
    refine ⟨h1, ⟨e, by rw [List.getElem?_append_left hsl]; exact h2, h3⟩, fun j e' hj => ?_⟩
    by_cases c : j < L.length
    · rw [List.getElem?_append_left c] at hj
      exact h4 j e' hj
    · have hj2 := (List.getElem?_eq_some_iff.1 hj).1
      simp at hj2
      have : j = L.length := by omega
      subst this
      simp at hj
      subst hj
      simp
      omega
  · intro e he
    rcases List.mem_append.1 he with h | h
    · exact g.lv e h
    · rw [List.mem_singleton] at h; subst h; exact Nat.le_refl _
  · have := g.ll; simp; omega

theorem Good.begin (g : Good n L F S) {l : Nat} (hl : l / 2 < n) (hz : (F (l / 2)).v = 0) : Good n (L ++ [⟨l, S.length + 1, -1⟩]) (upd F (l / 2) ⟨sg l, (S.length : Int) + 1, -1⟩) (S ++ [L.length]) := by
  have hno : ∀ e ∈ L, vr e ≠ l / 2 := fun e he c => by
    have := g.f1 e he
    rw [c] at this
    rw [this] at hz
    exact sg_ne _ hz
  refine ⟨?_, ?_, ?_, ?_, ?_, ?_, ?_⟩
  · intro e he
    rcases List.mem_append.1 he with h | h
    · exact g.lt e h
    · rw [List.mem_singleton] at h; subst h; exact hl
  · intro e he
    rcases List.mem_append.1 he with h | h
    · simp only [upd]; rw [if_neg (hno e h)]; exact g.f1 e h
    · rw [List.mem_singleton] at h; subst h; simp [upd, vr, factOf]
  · intro v hv h
    have h1 := h ⟨l, S.length + 1, -1⟩ (by simp)
    simp only [vr] at h1
    simp only [upd]
    rw [if_neg (fun c => h1 c.symm)]
    exact g.f0 v hv fun e he => h e (by simp [he])
  · rw [List.map_append, List.nodup_append]
    refine ⟨g.nd, by simp, ?_⟩
    intro a ha b hb
    obtain ⟨e, he, rfl⟩ := List.mem_map.1 ha
    simp at hb
    subst hb
    exact hno e he
  · intro i s hs
    by_cases ci : i < S.length
    · rw [List.getElem?_append_left ci] at hs
      obtain ⟨h1, ⟨e, h2, h3⟩, h4⟩ := g.cut i s hs
      have hsl := (List.getElem?_eq_some_iff.1 h2).1
      refine ⟨h1, ⟨e, by rw [List.getElem?_append_left hsl]; exact h2, h3⟩, fun j e' hj => ?_⟩
      by_cases c : j < L.length
      · rw [List.getElem?_append_left c] at hj
        exact h4 j e' hj
      · have hj2 := (List.getElem?_eq_some_iff.1 hj).1
        simp at hj2
        have : j = L.length := by omega
        subst this
        simp at hj
        subst hj
        simp
        omega
    · have hj2 := (List.getElem?_eq_some_iff.1 hs).1
      simp at hj2
      have : i = S.length := by omega
      subst this
      simp at hs
      subst hs
      refine ⟨g.ll, ⟨⟨l, S.length + 1, -1⟩, by simp, rfl⟩, fun j e' hj => ?_⟩
      by_cases c : j < L.length
      · rw [List.getElem?_append_left c] at hj
        have := g.lv e' (List.mem_of_getElem? hj)
        exact ⟨fun _ => c, fun _ => this⟩
      · have hj2 := (List.getElem?_eq_some_iff.1 hj).1
        simp at hj2
        have : j = L.length := by omega
        subst this
        simp at hj
        subst hj
        simp
  · intro e he
    rcases List.mem_append.1 he with h | h
    · have := g.lv e h; simp; omega
    · rw [List.mem_singleton] at h; subst h; simp
  · have := g.ll; simp; omega

/-- What is known when variables are none any more. -/
def clr (F : Nat → Fc) (zs : List Nat) : Nat → Fc := fun v => if v ∈ zs then ⟨0, 0, 0⟩ else F v

theorem clr_snoc (F : Nat → Fc) (zs : List Nat) (v : Nat) : clr F (zs ++ [v]) = upd (clr F zs) v ⟨0, 0, 0⟩ := by
  funext u
  simp only [clr, upd, List.mem_append, List.mem_singleton]
  by_cases h : u = v
  · simp [h]
  · simp [h]

theorem Good.back (g : Good n L F S) {i s : Nat} (hs : S[i]? = some s) : Good n (L.take s) (clr F ((L.drop s).reverse.map vr)) (S.take i) := by
  obtain ⟨h1, ⟨e0, h2, h3⟩, h4⟩ := g.cut i s hs
  have hsl := (List.getElem?_eq_some_iff.1 h2).1
  have hi := (List.getElem?_eq_some_iff.1 hs).1
  have hap : L.take s ++ L.drop s = L := List.take_append_drop s L
  have hnd := g.nd
  rw [← hap, List.map_append, List.nodup_append] at hnd
  have hmem : ∀ e, e ∈ L.take s → e ∈ L := fun e he => List.mem_of_mem_take he
  refine ⟨fun e he => g.lt e (hmem e he), fun e he => ?_, fun v hv h => ?_, hnd.1, ?_, ?_, ?_⟩
  · simp only [clr]
    rw [if_neg]
    · exact g.f1 e (hmem e he)
    · intro c
      rw [List.mem_map] at c
      obtain ⟨e', he', hv⟩ := c
      exact hnd.2.2 (vr e) (List.mem_map_of_mem he) (vr e') (List.mem_map_of_mem (List.mem_reverse.1 he')) hv.symm
  · simp only [clr]
    by_cases c : v ∈ (L.drop s).reverse.map vr
    · rw [if_pos c]
    · rw [if_neg c]
      refine g.f0 v hv fun e he hc => ?_
      rw [← hap] at he
      rcases List.mem_append.1 he with h5 | h5
      · exact h e h5 hc
      · exact c (List.mem_map.2 ⟨e, List.mem_reverse.2 h5, hc⟩)
  · intro i' s' hs'
    have hi' : i' < i := by
      have := (List.getElem?_eq_some_iff.1 hs').1
      simp at this
      omega
    rw [List.getElem?_take_of_lt hi'] at hs'
    obtain ⟨k1, ⟨e1, k2, k3⟩, k4⟩ := g.cut i' s' hs'
    have hlt : s' < s := (h4 s' e1 k2).1 (by omega)
    refine ⟨k1, ⟨e1, by rw [List.getElem?_take_of_lt hlt]; exact k2, k3⟩, fun j e hj => ?_⟩
    have hj2 := (List.getElem?_eq_some_iff.1 hj).1
    simp at hj2
    rw [List.getElem?_take_of_lt (by omega)] at hj
    exact k4 j e hj
  · intro e he
    obtain ⟨j, hj⟩ := List.mem_iff_getElem?.1 he
    have hj2 := (List.getElem?_eq_some_iff.1 hj).1
    simp at hj2
    rw [List.getElem?_take_of_lt (by omega)] at hj
    have := (h4 j e hj).2 (by omega)
    simp
    omega
  · simp
    omega

/-- The place that the document's search finds. -/
theorem Good.cutAt (g : Good n L F S) {i s : Nat} (hs : S[i]? = some s) : cutN L i L.length = s := by
  obtain ⟨h1, ⟨e0, h2, h3⟩, h4⟩ := g.cut i s hs
  have hsl := (List.getElem?_eq_some_iff.1 h2).1
  have key : ∀ q, q ≤ L.length → s ≤ q → cutN L i q = s := by
    intro q
    induction q with
    | zero => intro _ h; simp [cutN]; omega
    | succ q ih =>
      intro hq hs'
      have e1 : L[q]? = some L[q] := List.getElem?_eq_getElem (by omega)
      have h5 := h4 q _ e1
      simp only [cutN, e1]
      by_cases c : s = q + 1
      · rw [if_neg]
        · exact c.symm
        · have := h5.2 (by omega); omega
      · rw [if_pos]
        · exact ih (by omega) (by omega)
        · have : ¬ q < s := by omega
          rw [← h5] at this
          omega
  exact key _ (Nat.le_refl _) (by omega)

theorem backOk_yes {lev : Nat} {x : Int} (h : backOk lev x = true) : ∃ i : Nat, x = i ∧ i < lev := by
  simp only [backOk, decide_eq_true_eq] at h
  exact ⟨x.toNat, by omega, by omega⟩

theorem back_no {L : List E} {lev : Nat} {x : Int} (h : backOk lev x = false) : backL L lev x = L ∧ backV lev x = lev ∧ backG L lev x = [] := by
  simp [backL, backV, backG, h]

theorem Good.back_yes (g : Good n L F S) {i s : Nat} (hs : S[i]? = some s) : backL L S.length i = L.take s ∧ backV S.length i = i ∧ backG L S.length i = (L.drop s).reverse.map (fun e => (vr e : Int)) := by
  have hi := (List.getElem?_eq_some_iff.1 hs).1
  have h : backOk S.length i = true := by simp [backOk, hi]
  simp [backL, backV, backG, h, g.cutAt hs]
end

end Go.Proofs.Ytimpoagdidnpiaa
