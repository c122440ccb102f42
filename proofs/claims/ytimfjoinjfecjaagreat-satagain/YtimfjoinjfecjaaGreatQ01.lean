/-
  A trail: the plain list, its memory, the calls that only look.
-/
import Derived.Test.YtimfjoinjfecjaaGreatProg
import Derived.WalkKit
import Derived.Deep.RegionWith
import Derived.BigQuiet
import Derived.LoopTactic
import Derived.Laws.AppendOwnNone
import Derived.Laws.OwnMore
import Derived.Laws.MakeOwn
import Derived.Laws.CopyOwn
import Derived.OwnWalk
import Derived.Handy
import Derived.Maps.AppendAt

namespace Go.Proofs.YtimfjoinjfecjaaGreat
set_option linter.unusedVariables false

/-- A literal that holds, its level, its reason. -/
structure E where
  l : Nat
  g : Nat
  r : Int

/-- What is known of a variable. -/
structure Fc where
  v : Int
  g : Int
  r : Int

def vr (e : E) : Nat := e.l / 2
def sg (l : Nat) : Int := if l % 2 = 1 then -1 else 1
def factOf (e : E) : Fc := ⟨sg e.l, e.g, e.r⟩

def atF (L : List E) (v : Int) : Option E := L.find? (fun e => decide ((vr e : Int) = v))

theorem at_some {L : List E} {v : Int} {e : E} (h : atF L v = some e) : e ∈ L ∧ (vr e : Int) = v := by
  unfold atF at h
  exact ⟨List.mem_of_find?_eq_some h, by simpa using List.find?_some h⟩
theorem at_none {L : List E} {v : Int} : atF L v = none ↔ ∀ e ∈ L, (vr e : Int) ≠ v := by
  unfold atF
  rw [List.find?_eq_none]
  simp
def mayF (n : Nat) (L : List E) (l : Int) : Bool := decide (0 ≤ l ∧ l / 2 < n) && (atF L (l / 2)).isNone
def valueF (L : List E) (l : Int) : Int := if l < 0 then 0 else match atF L (l / 2) with
  | none => 0
  | some e => if (e.l : Int) = l then 1 else -1
def levelF (L : List E) (v : Int) : Int := match atF L v with
  | none => -1
  | some e => e.g
def reasonF (L : List E) (v : Int) : Int := match atF L v with
  | none => -1
  | some e => e.r
def litsF (L : List E) : List Int := L.map (fun e => (e.l : Int))

def cutN (L : List E) (x : Int) : Nat → Nat
  | 0 => 0
  | q + 1 => match L[q]? with
    | some e => if x < (e.g : Int) then cutN L x q else q + 1
    | none => q + 1

def backOk (lev : Nat) (x : Int) : Bool := decide (0 ≤ x ∧ x < lev)
def backL (L : List E) (lev : Nat) (x : Int) : List E := if backOk lev x then L.take (cutN L x L.length) else L
def backV (lev : Nat) (x : Int) : Nat := if backOk lev x then x.toNat else lev
def backG (L : List E) (lev : Nat) (x : Int) : List Int := if backOk lev x then (L.drop (cutN L x L.length)).reverse.map (fun e => (vr e : Int)) else []

/-! ### What holds between the calls -/
structure Good (n : Nat) (L : List E) (F : Nat → Fc) (S : List Nat) : Prop where
  lt : ∀ e ∈ L, vr e < n
  f1 : ∀ e ∈ L, F (vr e) = factOf e
  f0 : ∀ v, v < n → (∀ e ∈ L, vr e ≠ v) → (F v).v = 0
  nd : (L.map vr).Nodup
  cut : ∀ (i s : Nat), S[i]? = some s → i ≤ s ∧ (∃ e, L[s]? = some e ∧ e.g = i + 1) ∧ ∀ (j : Nat) (e : E), L[j]? = some e → (e.g ≤ i ↔ j < s)
  lv : ∀ e ∈ L, e.g ≤ S.length
  ll : S.length ≤ L.length

theorem pig : ∀ (n : Nat) (l : List Nat), l.Nodup → (∀ x ∈ l, x < n) → l.length ≤ n := by
  intro n
  induction n with
  | zero =>
    intro l _ h
    cases l with
    | nil => simp
    | cons a l => have := h a (by simp); omega
  | succ n ih =>
    intro l hn h
    by_cases hm : n ∈ l
    · have h1 := ih (l.erase n) (hn.erase n) (fun x hx => by
        have := (List.Nodup.mem_erase_iff hn).1 hx
        have := h x this.2
        omega)
      rw [List.length_erase_of_mem hm] at h1
      omega
    · have := ih l hn (fun x hx => by
        have h2 := h x hx
        have : x ≠ n := fun c => hm (c ▸ hx)
        omega)
      omega

theorem Good.len {n : Nat} {L : List E} {F : Nat → Fc} {S : List Nat} (g : Good n L F S) : L.length ≤ n := by
  have := pig n (L.map vr) g.nd (fun x hx => by
    obtain ⟨e, he, rfl⟩ := List.mem_map.1 hx
    exact g.lt e he)
  simpa using this

theorem sg_cases (l : Nat) : (l % 2 = 1 ∧ sg l = -1) ∨ (l % 2 = 0 ∧ sg l = 1) := by
  unfold sg
  by_cases h : l % 2 = 1
  · exact .inl ⟨h, by rw [if_pos h]⟩
  · exact .inr ⟨by omega, by rw [if_neg h]⟩

theorem sg_ne (l : Nat) : sg l ≠ 0 := by rcases sg_cases l with ⟨_, h⟩ | ⟨_, h⟩ <;> rw [h] <;> decide

section
variable {n : Nat} {L : List E} {F : Nat → Fc} {S : List Nat}

theorem Good.has (g : Good n L F S) {v : Nat} (hv : v < n) (h : (F v).v ≠ 0) : ∃ e, atF L v = some e ∧ e ∈ L ∧ vr e = v := by
  cases ha : atF L v with
  | none => exact absurd (g.f0 v hv (fun e he c => (at_none.1 ha) e he (by rw [c]))) h
  | some e => obtain ⟨h1, h2⟩ := at_some ha; exact ⟨e, rfl, h1, by omega⟩

theorem Good.hasnt (g : Good n L F S) {v : Nat} (h : (F v).v = 0) : atF L v = none := by
  refine at_none.2 fun e he c => ?_
  have hv : vr e = v := by omega
  have := g.f1 e he
  rw [hv] at this
  rw [this] at h
  exact sg_ne _ h

theorem Good.one (g : Good n L F S) {e : E} (h : e ∈ L) : atF L (vr e) = some e := by
  cases ha : atF L (vr e) with
  | none => exact absurd rfl (at_none.1 ha e h)
  | some e' =>
    obtain ⟨h1, h2⟩ := at_some ha
    have hv : vr e' = vr e := by omega
    have q1 := g.f1 e h
    have q2 := g.f1 e' h1
    rw [hv, q1] at q2
    simp only [factOf, Fc.mk.injEq] at q2
    obtain ⟨q3, q4, q5⟩ := q2
    obtain ⟨l, lg, lr⟩ := e
    obtain ⟨l', lg', lr'⟩ := e'
    simp only [vr] at hv q3 q4 q5
    have e1 : l = l' := by
      rcases sg_cases l with ⟨a, b⟩ | ⟨a, b⟩ <;> rcases sg_cases l' with ⟨c, d⟩ | ⟨c, d⟩ <;> rw [b, d] at q3 <;> omega
    have e2 : lg = lg' := by omega
    subst e1 e2 q5
    rfl

/-- The value of a literal, by what is known of its variable. -/
theorem Good.value (g : Good n L F S) (l u : Nat) (hu : l / 2 = u) (h : u < n) : valueF L l = if l % 2 = 1 then -(F u).v else (F u).v := by
  subst hu
  have h0 : ¬ ((l : Int) < 0) := by omega
  have h2 : (l : Int) / 2 = ((l / 2 : Nat) : Int) := by omega
  unfold valueF
  rw [if_neg h0, h2]
  by_cases hz : (F (l / 2)).v = 0
  · rw [g.hasnt hz, hz]; simp
  · obtain ⟨e, ha, he, hv⟩ := g.has h hz
    rw [ha]
    have := g.f1 e he
    rw [hv] at this
    rw [this]
    simp only [factOf]
    simp only [vr] at hv
    by_cases hl : e.l = l
    · rw [hl, if_pos rfl]
      rcases sg_cases l with ⟨a, b⟩ | ⟨a, b⟩ <;> rw [b] <;> simp [a]
    · rw [if_neg (by omega)]
      rcases sg_cases e.l with ⟨a, b⟩ | ⟨a, b⟩
      · have : ¬ l % 2 = 1 := by omega
        rw [b, if_neg this]
      · have : l % 2 = 1 := by omega
        rw [b, if_pos this]

theorem Good.valueOut (g : Good n L F S) {l : Nat} (h : n ≤ l / 2) : valueF L l = 0 := by
  have h2 : (l : Int) / 2 = ((l / 2 : Nat) : Int) := by omega
  unfold valueF
  rw [if_neg (by omega), h2, at_none.2 fun e he c => by have := g.lt e he; omega]

theorem value_neg {L : List E} {l : Int} (h : l < 0) : valueF L l = 0 := by simp [valueF, h]

theorem Good.look (g : Good n L F S) {v : Nat} (hv : v < n) : ((F v).v = 0 ∧ levelF L v = -1 ∧ reasonF L v = -1) ∨ ((F v).v ≠ 0 ∧ levelF L v = (F v).g ∧ reasonF L v = (F v).r) := by
  by_cases hz : (F v).v = 0
  · refine .inl ⟨hz, ?_, ?_⟩
    · unfold levelF; rw [g.hasnt hz]
    · unfold reasonF; rw [g.hasnt hz]
  · obtain ⟨e, ha, he, rfl⟩ := g.has hv hz
    have := g.f1 e he
    refine .inr ⟨hz, ?_, ?_⟩
    · unfold levelF; rw [ha, this]; rfl
    · unfold reasonF; rw [ha, this]; rfl

theorem Good.lookOut (g : Good n L F S) {v : Int} (h : v < 0 ∨ (n : Int) ≤ v) : levelF L v = -1 ∧ reasonF L v = -1 := by
  have : atF L v = none := at_none.2 fun e he c => by have := g.lt e he; omega
  unfold levelF reasonF
  rw [this]
  exact ⟨rfl, rfl⟩

theorem Good.may (g : Good n L F S) (l u : Nat) (hu : l / 2 = u) (h : u < n) : mayF n L l = decide ((F u).v = 0) := by
  subst hu
  have h2 : (l : Int) / 2 = ((l / 2 : Nat) : Int) := by omega
  unfold mayF
  rw [h2]
  by_cases hz : (F (l / 2)).v = 0
  · rw [g.hasnt hz]; simp [hz]; omega
  · obtain ⟨e, ha, _⟩ := g.has h hz
    rw [ha]; simp [hz]

theorem may_out {n : Nat} {L : List E} {l : Int} (h : l < 0 ∨ (n : Int) ≤ l / 2) : mayF n L l = false := by
  unfold mayF
  simp
  intro h0 h1
  omega

/-! ### What the calls make -/
def upd (F : Nat → Fc) (v : Nat) (f : Fc) : Nat → Fc := fun u => if u = v then f else F u

theorem Good.add (g : Good n L F S) {l : Nat} (hl : l / 2 < n) (hz : (F (l / 2)).v = 0) (r : Int) : Good n (L ++ [⟨l, S.length, r⟩]) (upd F (l / 2) ⟨sg l, S.length, r⟩) S := by
  have hno : ∀ e ∈ L, vr e ≠ l / 2 := fun e he c => by
    have := g.f1 e he
    rw [c] at this
    rw [this] at hz
    exact sg_ne _ hz
  refine ⟨?_, ?_, ?_, ?_, ?_, ?_, ?_⟩
  · intro e he
    rcases List.mem_append.1 he with h | h
    · exact g.lt e h
    · rw [List.mem_singleton] at h; subst h; exact hl
  · intro e he
    rcases List.mem_append.1 he with h | h
    · simp only [upd]; rw [if_neg (hno e h)]; exact g.f1 e h
    · rw [List.mem_singleton] at h; subst h; simp [upd, vr, factOf]
  · intro v hv h
    have h1 := h ⟨l, S.length, r⟩ (by simp)
    simp only [vr] at h1
    simp only [upd]
    rw [if_neg (fun c => h1 c.symm)]
    exact g.f0 v hv fun e he => h e (by simp [he])
  · rw [List.map_append, List.nodup_append]
    refine ⟨g.nd, by simp, ?_⟩
    intro a ha b hb
    obtain ⟨e, he, rfl⟩ := List.mem_map.1 ha
    simp at hb
    subst hb
    exact hno e he
  · intro i s hs
    obtain ⟨h1, ⟨e, h2, h3⟩, h4⟩ := g.cut i s hs
    have hsl := (List.getElem?_eq_some_iff.1 h2).1
    have hi := (List.getElem?_eq_some_iff.1 hs).1
    refine ⟨h1, ⟨e, by rw [List.getElem?_append_left hsl]; exact h2, h3⟩, fun j e' hj => ?_⟩
    by_cases c : j < L.length
    · rw [List.getElem?_append_left c] at hj
      exact h4 j e' hj
    · have hj2 := (List.getElem?_eq_some_iff.1 hj).1
      simp at hj2
      have : j = L.length := by omega
      subst this
      simp at hj
      subst hj
      simp
      omega
  · intro e he
    rcases List.mem_append.1 he with h | h
    · exact g.lv e h
    · rw [List.mem_singleton] at h; subst h; exact Nat.le_refl _
  · have := g.ll; simp; omega

theorem Good.begin (g : Good n L F S) {l : Nat} (hl : l / 2 < n) (hz : (F (l / 2)).v = 0) : Good n (L ++ [⟨l, S.length + 1, -1⟩]) (upd F (l / 2) ⟨sg l, (S.length : Int) + 1, -1⟩) (S ++ [L.length]) := by
  have hno : ∀ e ∈ L, vr e ≠ l / 2 := fun e he c => by
    have := g.f1 e he
    rw [c] at this
    rw [this] at hz
    exact sg_ne _ hz
  refine ⟨?_, ?_, ?_, ?_, ?_, ?_, ?_⟩
  · intro e he
    rcases List.mem_append.1 he with h | h
    · exact g.lt e h
    · rw [List.mem_singleton] at h; subst h; exact hl
  · intro e he
    rcases List.mem_append.1 he with h | h
    · simp only [upd]; rw [if_neg (hno e h)]; exact g.f1 e h
    · rw [List.mem_singleton] at h; subst h; simp [upd, vr, factOf]
  · intro v hv h
    have h1 := h ⟨l, S.length + 1, -1⟩ (by simp)
    simp only [vr] at h1
    simp only [upd]
    rw [if_neg (fun c => h1 c.symm)]
    exact g.f0 v hv fun e he => h e (by simp [he])
  · rw [List.map_append, List.nodup_append]
    refine ⟨g.nd, by simp, ?_⟩
    intro a ha b hb
    obtain ⟨e, he, rfl⟩ := List.mem_map.1 ha
    simp at hb
    subst hb
    exact hno e he
  · intro i s hs
    by_cases ci : i < S.length
    · rw [List.getElem?_append_left ci] at hs
      obtain ⟨h1, ⟨e, h2, h3⟩, h4⟩ := g.cut i s hs
      have hsl := (List.getElem?_eq_some_iff.1 h2).1
      refine ⟨h1, ⟨e, by rw [List.getElem?_append_left hsl]; exact h2, h3⟩, fun j e' hj => ?_⟩
      by_cases c : j < L.length
      · rw [List.getElem?_append_left c] at hj
        exact h4 j e' hj
      · have hj2 := (List.getElem?_eq_some_iff.1 hj).1
        simp at hj2
        have : j = L.length := by omega
        subst this
        simp at hj
        subst hj
        simp
        omega
    · have hj2 := (List.getElem?_eq_some_iff.1 hs).1
      simp at hj2
      have : i = S.length := by omega
      subst this
      simp at hs
      subst hs
      refine ⟨g.ll, ⟨⟨l, S.length + 1, -1⟩, by simp, rfl⟩, fun j e' hj => ?_⟩
      by_cases c : j < L.length
      · rw [List.getElem?_append_left c] at hj
        have := g.lv e' (List.mem_of_getElem? hj)
        exact ⟨fun _ => c, fun _ => this⟩
      · have hj2 := (List.getElem?_eq_some_iff.1 hj).1
        simp at hj2
        have : j = L.length := by omega
        subst this
        simp at hj
        subst hj
        simp
  · intro e he
    rcases List.mem_append.1 he with h | h
    · have := g.lv e h; simp; omega
    · rw [List.mem_singleton] at h; subst h; simp
  · have := g.ll; simp; omega

/-- What is known when variables are none any more. -/
def clr (F : Nat → Fc) (zs : List Nat) : Nat → Fc := fun v => if v ∈ zs then ⟨0, 0, 0⟩ else F v

theorem clr_snoc (F : Nat → Fc) (zs : List Nat) (v : Nat) : clr F (zs ++ [v]) = upd (clr F zs) v ⟨0, 0, 0⟩ := by
  funext u
  simp only [clr, upd, List.mem_append, List.mem_singleton]
  by_cases h : u = v
  · simp [h]
  · simp [h]

theorem Good.back (g : Good n L F S) {i s : Nat} (hs : S[i]? = some s) : Good n (L.take s) (clr F ((L.drop s).reverse.map vr)) (S.take i) := by
  obtain ⟨h1, ⟨e0, h2, h3⟩, h4⟩ := g.cut i s hs
  have hsl := (List.getElem?_eq_some_iff.1 h2).1
  have hi := (List.getElem?_eq_some_iff.1 hs).1
  have hap : L.take s ++ L.drop s = L := List.take_append_drop s L
  have hnd := g.nd
  rw [← hap, List.map_append, List.nodup_append] at hnd
  have hmem : ∀ e, e ∈ L.take s → e ∈ L := fun e he => List.mem_of_mem_take he
  refine ⟨fun e he => g.lt e (hmem e he), fun e he => ?_, fun v hv h => ?_, hnd.1, ?_, ?_, ?_⟩
  · simp only [clr]
    rw [if_neg]
    · exact g.f1 e (hmem e he)
    · intro c
      rw [List.mem_map] at c
      obtain ⟨e', he', hv⟩ := c
      exact hnd.2.2 (vr e) (List.mem_map_of_mem he) (vr e') (List.mem_map_of_mem (List.mem_reverse.1 he')) hv.symm
  · simp only [clr]
    by_cases c : v ∈ (L.drop s).reverse.map vr
    · rw [if_pos c]
    · rw [if_neg c]
      refine g.f0 v hv fun e he hc => ?_
      rw [← hap] at he
      rcases List.mem_append.1 he with h5 | h5
      · exact h e h5 hc
      · exact c (List.mem_map.2 ⟨e, List.mem_reverse.2 h5, hc⟩)
  · intro i' s' hs'
    have hi' : i' < i := by
      have := (List.getElem?_eq_some_iff.1 hs').1
      simp at this
      omega
    rw [List.getElem?_take_of_lt hi'] at hs'
    obtain ⟨k1, ⟨e1, k2, k3⟩, k4⟩ := g.cut i' s' hs'
    have hlt : s' < s := (h4 s' e1 k2).1 (by omega)
    refine ⟨k1, ⟨e1, by rw [List.getElem?_take_of_lt hlt]; exact k2, k3⟩, fun j e hj => ?_⟩
    have hj2 := (List.getElem?_eq_some_iff.1 hj).1
    simp at hj2
    rw [List.getElem?_take_of_lt (by omega)] at hj
    exact k4 j e hj
  · intro e he
    obtain ⟨j, hj⟩ := List.mem_iff_getElem?.1 he
    have hj2 := (List.getElem?_eq_some_iff.1 hj).1
    simp at hj2
    rw [List.getElem?_take_of_lt (by omega)] at hj
    have := (h4 j e hj).2 (by omega)
    simp
    omega
  · simp
    omega

/-- The place that the document's search finds. -/
theorem Good.cutAt (g : Good n L F S) {i s : Nat} (hs : S[i]? = some s) : cutN L i L.length = s := by
  obtain ⟨h1, ⟨e0, h2, h3⟩, h4⟩ := g.cut i s hs
  have hsl := (List.getElem?_eq_some_iff.1 h2).1
  have key : ∀ q, q ≤ L.length → s ≤ q → cutN L i q = s := by
    intro q
    induction q with
    | zero => intro _ h; simp [cutN]; omega
    | succ q ih =>
      intro hq hs'
      have e1 : L[q]? = some L[q] := List.getElem?_eq_getElem (by omega)
      have h5 := h4 q _ e1
      simp only [cutN, e1]
      by_cases c : s = q + 1
      · rw [if_neg]
        · exact c.symm
        · have := h5.2 (by omega); omega
      · rw [if_pos]
        · exact ih (by omega) (by omega)
        · have : ¬ q < s := by omega
          rw [← h5] at this
          omega
  exact key _ (Nat.le_refl _) (by omega)

theorem backOk_yes {lev : Nat} {x : Int} (h : backOk lev x = true) : ∃ i : Nat, x = i ∧ i < lev := by
  simp only [backOk, decide_eq_true_eq] at h
  exact ⟨x.toNat, by omega, by omega⟩

theorem back_no {L : List E} {lev : Nat} {x : Int} (h : backOk lev x = false) : backL L lev x = L ∧ backV lev x = lev ∧ backG L lev x = [] := by
  simp [backL, backV, backG, h]

theorem Good.back_yes (g : Good n L F S) {i s : Nat} (hs : S[i]? = some s) : backL L S.length i = L.take s ∧ backV S.length i = i ∧ backG L S.length i = (L.drop s).reverse.map (fun e => (vr e : Int)) := by
  have hi := (List.getElem?_eq_some_iff.1 hs).1
  have h : backOk S.length i = true := by simp [backOk, hi]
  simp [backL, backV, backG, h, g.cutAt hs]
end

end Go.Proofs.YtimfjoinjfecjaaGreat

namespace Go.Proofs.YtimfjoinjfecjaaGreat
open Go.RowKit
set_option linter.unusedVariables false

theorem hid {p : Prop} (h : p) : Hid p := h

theorem Tryz.info3 : (Tryz.prog.info? 3).map (fun i => (i.zero, i.size, i.bytes)) = some (some (.int .i64 0), 1, 8) := by kernel_rfl

theorem Below.next {w w1 w2 : World} (h : Below w.heap.size w w1) (k : Below w1.heap.size w1 w2) : Below w.heap.size w w2 :=
  h.trans (k.mono h.size)

theorem cell_lt {w : World} {p : Addr} {v : Value} (h : w.cell? p = some v) : p.block < w.heap.size := by
  by_cases hp : p.block < w.heap.size
  · exact hp
  · exfalso
    have e : w.heap[p.block]? = none := by simp; omega
    simp [World.cell?, e] at h

/-! ### Blocks -/
theorem grown_set (w : World) (a : Addr) (v : Value) : w.grownBy (w.setCell a v) (some a.block) :=
  ⟨rfl, rfl, rfl, by simp [World.setCell], fun k _ hne => Below.heap_setCell _ _ _ _ (fun e => hne (by rw [e]))⟩

theorem grown_new (w : World) (o : Obj) (r : Option Nat) : w.grownBy (w.alloc o) r := World.grownBy_alloc w o r

theorem grown_two {a b c : World} {r : Option Nat} (h : a.grownBy b r) (g : b.grownBy c r) : a.grownBy c r :=
  ⟨g.os.trans h.os, g.tape.trans h.tape, g.output.trans h.output, Nat.le_trans h.size g.size, fun k hk hn => (g.block k (Nat.lt_of_lt_of_le hk h.size) hn).trans (h.block k hk hn)⟩

theorem below_grown {w w' : World} {B : Nat} {r : Option Nat} (g : w.grownBy w' r) (hr : ∀ j, r = some j → B ≤ j) (hB : B ≤ w.heap.size) : Below B w w' :=
  ⟨g.os, g.tape, g.output, g.size, fun k hk => g.block k (by omega) (fun e => by have := hr k e.symm; omega)⟩

theorem grown_below {w w' : World} (b : Below w.heap.size w w') : w.grownBy w' none := ⟨b.os, b.tape, b.output, b.size, fun j hj _ => b.block j hj⟩

theorem blk_lt {w : World} {b : Nat} {o : Obj} (h : w.heap[b]? = some o) : b < w.heap.size := (Array.getElem?_eq_some_iff.1 h).1

theorem set_same {w : World} {b o : Nat} {c : Array Value} {T : TypeId} {fr : Nat × Nat} (h : w.heap[b]? = some (.cells c T fr)) (v : Value) : (w.setCell ⟨b, o, none⟩ v).heap[b]? = some (.cells (c.setIfInBounds o v) T fr) := by
  simp [World.setCell, Array.getElem?_modify, h]

theorem set_other {w : World} {a : Addr} {b : Nat} (v : Value) (h : b ≠ a.block) : (w.setCell a v).heap[b]? = w.heap[b]? := Below.heap_setCell _ _ _ _ h

theorem new_same (w : World) (o : Obj) : (w.alloc o).heap[w.heap.size]? = some o := by
  show (w.heap.push _)[w.heap.size]? = _; simp

theorem cell_of {w : World} {b o : Nat} {c : Array Value} {T : TypeId} {fr : Nat × Nat} (h : w.heap[b]? = some (.cells c T fr)) : w.cell? ⟨b, o, none⟩ = c[o]? := by simp [World.cell?, h]
theorem frozen_of {w : World} {b o : Nat} {c : Array Value} {T : TypeId} (h : w.heap[b]? = some (.cells c T (0, 0))) : w.frozen? ⟨b, o, none⟩ = false := by simp [World.frozen?, h]

theorem own_keep {w w' : World} {base : Nat} {E : TypeId} {sz : Nat} {v : Value} {n : Nat} {xs : List Value} {r : Option Nat} (h : w.ownsRow base E sz v n xs) (g : w.grownBy w' r)
    (hr : ∀ j, r = some j → v.ownBlock ≠ some j) : w'.ownsRow base E sz v n xs := by
  refine ⟨h.1, ?_⟩
  rcases h.2 with h2 | ⟨b, cap, cur, rfl, hb, hg, rest⟩
  · exact .inl h2
  · refine .inr ⟨b, cap, cur, rfl, hb, ?_, rest⟩
    rw [g.block b (blk_lt hg) (fun e => hr b e.symm rfl)]
    exact hg

theorem own_lt {w : World} {base : Nat} {E : TypeId} {sz : Nat} {v : Value} {n : Nat} {xs : List Value} (h : w.ownsRow base E sz v n xs) {j : Nat} (hj : v.ownBlock = some j) : base ≤ j ∧ j < w.heap.size := by
  rcases h.2 with ⟨rfl, _⟩ | ⟨b, cap, cur, rfl, hb, hg, _⟩
  · simp [Value.ownBlock] at hj
  · simp [Value.ownBlock] at hj; subst hj; exact ⟨hb, blk_lt hg⟩

theorem ints_one (xs : List Int) : ∀ v ∈ xs.map (Value.int .i64), v.oneCell' = true := by
  intro v hv
  obtain ⟨x, _, rfl⟩ := List.mem_map.1 hv
  rfl

theorem add_at {b off j : Nat} : (⟨b, off, none⟩ : Addr).add j = ⟨b, off + j, none⟩ := by
  by_cases h : j = 0
  · subst h; rfl
  · simp [Addr.add, h]

theorem below_drew (w : World) : Below w.heap.size w w.drew := ⟨rfl, rfl, rfl, Nat.le_refl _, fun _ _ => rfl⟩
theorem drewN_any (B : Nat) (w : World) (m : Nat) : Below B w (w.drewN m) := ⟨rfl, rfl, rfl, Nat.le_refl _, fun _ _ => rfl⟩

/-! ### Numbers one behind the other, of a block that is full to its end, or of one whose end nobody may come to -/
def OwnL (w : World) (base : Nat) (v : Value) (xs : List Int) : Prop := w.ownsRow base 3 1 v xs.length (xs.map (Value.int .i64))

def LRow (w : World) (base : Nat) (v : Value) (xs : List Int) : Prop :=
  (v = .slice none 0 0 ∧ xs = []) ∨ ∃ g cap cur, v = .slice (some ⟨g, 0, none⟩) xs.length cap ∧ base ≤ g ∧ w.heap[g]? = some (.cells cur 3 (0, 0)) ∧ xs.length ≤ cap ∧ cap ≤ maxLen ∧ (cur.size = cap ∨ cap = xs.length) ∧ cur.toList.take xs.length = xs.map (Value.int .i64)

section
variable {w w' : World} {base : Nat} {v : Value} {xs : List Int}

theorem LRow.nil (w : World) (base : Nat) : LRow w base (.slice none 0 0) [] := .inl ⟨rfl, rfl⟩

theorem LRow.of_own (h : OwnL w base v xs) : LRow w base v xs := by
  rcases h.2 with ⟨h1, h2⟩ | ⟨g, cap, cur, rfl, h1, h2, h3, h4, h5, h6⟩
  · exact .inl ⟨h1, List.eq_nil_of_length_eq_zero h2⟩
  · exact .inr ⟨g, cap, cur, rfl, h1, h2, h3, h4, .inl (by omega), by rw [Nat.mul_one] at h6; exact h6⟩

theorem LRow.keep (h : LRow w base v xs) {r : Option Nat} (g : w.grownBy w' r) (hr : ∀ j, r = some j → v.ownBlock ≠ some j) : LRow w' base v xs := by
  rcases h with h | ⟨b, cap, cur, rfl, hb, hg, rest⟩
  · exact .inl h
  · refine .inr ⟨b, cap, cur, rfl, hb, ?_, rest⟩
    rw [g.block b (blk_lt hg) (fun e => hr b e.symm rfl)]
    exact hg

theorem LRow.lt (h : LRow w base v xs) {j : Nat} (hj : v.ownBlock = some j) : base ≤ j ∧ j < w.heap.size := by
  rcases h with ⟨rfl, _⟩ | ⟨b, cap, cur, rfl, hb, hg, _⟩
  · simp [Value.ownBlock] at hj
  · simp [Value.ownBlock] at hj; subst hj; exact ⟨hb, blk_lt hg⟩

theorem LRow.shape (h : LRow w base v xs) : ∃ ao cap, v = .slice ao xs.length cap ∧ xs.length ≤ cap ∧ cap ≤ maxLen := by
  rcases h with ⟨rfl, rfl⟩ | ⟨b, cap, cur, rfl, hb, hg, h1, h2, _⟩
  · exact ⟨none, 0, rfl, by simp, by unfold maxLen; omega⟩
  · exact ⟨_, _, rfl, h1, h2⟩

theorem LRow.filled (h : LRow w base v xs) (h0 : 0 < xs.length) : ∃ g cap, v = .slice (some ⟨g, 0, none⟩) xs.length cap ∧ xs.length ≤ cap ∧ cap ≤ maxLen := by
  rcases h with ⟨rfl, rfl⟩ | ⟨b, cap, cur, rfl, hb, hg, h1, h2, _⟩
  · simp at h0
  · exact ⟨_, _, rfl, h1, h2⟩

theorem LRow.at {g n cap i : Nat} {x : Int} (h : LRow w base (.slice (some ⟨g, 0, none⟩) n cap) xs) (hx : xs[i]? = some x) : w.cell? ⟨g, i, none⟩ = some (.int .i64 x) := by
  have hi := (List.getElem?_eq_some_iff.1 hx).1
  rcases h with ⟨e, _⟩ | ⟨b, cap, cur, e, hb, hg, h1, h2, h3, h4⟩
  · cases e
  · cases e
    rw [cell_of hg]
    have : (cur.toList.take xs.length)[i]? = some (.int .i64 x) := by rw [h4]; simp [hx]
    rw [List.getElem?_take_of_lt hi] at this
    simpa using this

/-- Its first ones, with no room behind. -/
theorem LRow.full {g n cap m : Nat} (h : LRow w base (.slice (some ⟨g, 0, none⟩) n cap) xs) (hm : m ≤ xs.length) : LRow w base (.slice (some ⟨g, 0, none⟩) m m) (xs.take m) := by
  rcases h with ⟨e, _⟩ | ⟨b, cap, cur, e, hb, hg, h1, h2, h3, h4⟩
  · cases e
  · cases e
    have hl : (xs.take m).length = m := by rw [List.length_take]; omega
    refine .inr ⟨g, m, cur, by rw [hl], hb, hg, by rw [hl]; omega, by omega, .inr hl.symm, ?_⟩
    rw [hl, List.map_take, ← h4, List.take_take]
    congr 1
    omega

/-- Its first ones, with the room that was. -/
theorem OwnL.cut {g n cap m : Nat} (h : OwnL w base (.slice (some ⟨g, 0, none⟩) n cap) xs) (hm : m ≤ xs.length) : OwnL w base (.slice (some ⟨g, 0, none⟩) m cap) (xs.take m) := by
  unfold OwnL
  have hl : (xs.take m).length = m := by rw [List.length_take]; omega
  rw [hl]
  refine ⟨by simp; omega, ?_⟩
  rcases h.2 with ⟨e, _⟩ | ⟨b, c, cur, e, hb, hg, h1, h2, h3, h4⟩
  · cases e
  · cases e
    refine .inr ⟨g, cap, cur, rfl, hb, hg, by omega, h2, h3, ?_⟩
    rw [List.map_take, ← h4, List.take_take]
    congr 1
    omega
end

/-- A block that has cells of that type. -/
def Typ (w : World) (g : Nat) (T : TypeId) : Prop := ∃ c fr, w.heap[g]? = some (.cells c T fr)

/-- That cell lies in the room behind a row. -/
def Room (v : Value) (g i : Nat) : Prop := ∃ n c, v = .slice (some ⟨g, 0, none⟩) n c ∧ n ≤ i ∧ n < c

/-- What lies elsewhere than in the room behind v is as it was, and is not in the room behind v'. -/
def Kept (w w' : World) (v v' : Value) : Prop := ∀ g i T, Typ w g T → ¬ Room v g i → w'.cell? ⟨g, i, none⟩ = w.cell? ⟨g, i, none⟩ ∧ Typ w' g T ∧ ¬ Room v' g i

theorem Typ.lt {w : World} {g : Nat} {T : TypeId} (h : Typ w g T) : g < w.heap.size := by obtain ⟨c, fr, e⟩ := h; exact blk_lt e
theorem Typ.same {w w' : World} {g : Nat} {T : TypeId} (h : Typ w g T) (e : w'.heap[g]? = w.heap[g]?) : Typ w' g T := by obtain ⟨c, fr, h⟩ := h; exact ⟨c, fr, by rw [e]; exact h⟩
theorem Typ.grown {w w' : World} {g : Nat} {T : TypeId} {r : Option Nat} (h : Typ w g T) (k : w.grownBy w' r) (hr : r ≠ some g) : Typ w' g T ∧ ∀ i, w'.cell? ⟨g, i, none⟩ = w.cell? ⟨g, i, none⟩ :=
  ⟨h.same (k.block g h.lt (fun e => hr e.symm)), fun i => World.cell?_of_block (k.block g h.lt (fun e => hr e.symm))⟩

/-- What v' has is of v, or new. -/
def Nw (w : World) (v v' : Value) : Prop := ∀ j, v'.ownBlock = some j → v.ownBlock = some j ∨ w.heap.size ≤ j

theorem new_row (w : World) (B old : Nat) (xs news : List Value) (hB : B ≤ w.heap.size) (h63 : xs.length + news.length ≤ maxLen) :
    (w.drew.alloc (.cells (xs.toArray ++ news.toArray ++ Builtin.zeroCells (Value.int .i64 0).cells (grownCap w (xs.length + news.length) old 3 - (xs.length + news.length))) 3)).ownsRow B 3 1 (.slice (some ⟨w.heap.size, 0, none⟩) (xs.length + news.length) (grownCap w (xs.length + news.length) old 3)) (xs.length + news.length) (xs ++ news) ∧
    w.grownBy (w.drew.alloc (.cells (xs.toArray ++ news.toArray ++ Builtin.zeroCells (Value.int .i64 0).cells (grownCap w (xs.length + news.length) old 3 - (xs.length + news.length))) 3)) none := by
  have hge := grownCap_ge w (xs.length + news.length) old 3
  have hcm := grownCap_le_maxLen w (xs.length + news.length) old 3 h63
  refine ⟨⟨by simp, .inr ⟨w.heap.size, _, _, rfl, hB, heap_alloc_new w.drew _, hge, hcm, ?_, ?_⟩⟩, ⟨rfl, rfl, rfl, by simp, fun k hk _ => heap_alloc_old w.drew _ hk⟩⟩
  · have hz1 : (Value.int IntKind.i64 0).cells.size = 1 := rfl
    simp only [Array.size_append, List.size_toArray, size_zeroCells, hz1]
    omega
  · have e : (xs.length + news.length) * 1 = (xs ++ news).length := by simp
    simp only [Array.toList_append, List.append_assoc]
    rw [← List.append_assoc, e]
    exact List.take_left

/-- One number more behind a row. -/
theorem run_more {w w1 : World} (ty : TypeId) (y : Int) (hw : w = w1.alloc (.cells #[.int .i64 y] 3)) (B : Nat) (v : Value) (xs : List Int) (own : LRow w1 B v xs) (q : Nat) (hq : q = w1.heap.size) (hbd : xs.length ≤ 100000000) (hB : B ≤ w1.heap.size) :
    ∃ v' w', (Builtin.append_ #[42, 42] ty #[v, .slice (some ⟨q, 0, none⟩) 1 1]).run Tryz.prog w = .ok v' w' ∧ OwnL w' B v' (xs ++ [y]) ∧ w1.grownBy w' v.ownBlock ∧ Nw w1 v v' ∧ Kept w1 w' v v' := by
  subst hw hq
  obtain ⟨i0, hi, hz0, hz1, hz2⟩ := info_parts Tryz.info3
  have hnews : ∀ j u, [Value.int .i64 y][j]? = some u → (w1.alloc (.cells #[.int .i64 y] 3)).cell? ((⟨w1.heap.size, 0, none⟩ : Addr).add j) = some u := cell_one_new w1 _ _
  have fin : ∀ {v' w'}, w'.ownsRow B 3 1 v' (xs.length + 1) (xs.map (Value.int .i64) ++ [.int .i64 y]) → OwnL w' B v' (xs ++ [y]) := fun h => by simpa [OwnL] using h
  have g0 := grown_new w1 (.cells #[.int .i64 y] 3) none
  -- a new block
  have fresh : ∀ {v' w' : _} {r : Option Nat}, (w1.alloc (.cells #[.int .i64 y] 3)).grownBy w' none → (∀ j, v'.ownBlock = some j → w1.heap.size ≤ j) → w1.grownBy w' r ∧ Nw w1 v v' ∧ Kept w1 w' v v' := by
    intro v' w' r g2 hn
    have g := grown_two g0 g2
    refine ⟨⟨g.os, g.tape, g.output, g.size, fun j hj _ => g.block j hj (by simp)⟩, fun j hj => .inr (hn j hj), fun gb i T ht _ => ?_⟩
    obtain ⟨t1, t2⟩ := ht.grown g (by simp)
    refine ⟨t2 i, t1, ?_⟩
    rintro ⟨n, c, e, _⟩
    have := hn gb (by rw [e]; rfl)
    have := ht.lt
    omega
  rcases own with ⟨rfl, rfl⟩ | ⟨g, cap, cur, rfl, hb, hg, h1, h2, h3, h4⟩
  · obtain ⟨v', w', h1, h2, h3, h4, h5⟩ := run_append_own_at (P := Tryz.prog) (w1.alloc (.cells #[.int .i64 y] 3)) B 42 ty 3 i0 (.int .i64 0) 1 8 Tryz.underlying42 hi hz0 hz1 hz2 rfl (by omega) (.slice none 0 0) 0 [] (World.ownsRow_nil _ _ _ _) ⟨w1.heap.size, 0, none⟩ 1 1 [.int .i64 y] (by simp) hnews (by simp [Value.oneCell']) (by unfold maxLen; omega) (by omega) (by simp; omega)
    obtain ⟨f1, f2, f3⟩ := fresh (v' := v') (r := (Value.slice none 0 0).ownBlock) h3 (fun j hj => by
      rcases h5 with h5 | h5
      · rw [h5] at hj; cases hj
      · rw [h5] at hj; have := Option.some.inj hj; simp at this; omega)
    exact ⟨v', w', h1, fin (by simpa using h2), f1, f2, f3⟩
  · have hg' : (w1.alloc (.cells #[.int .i64 y] 3)).heap[g]? = some (.cells cur 3 (0, 0)) := by rw [g0.block g (blk_lt hg) (by simp)]; exact hg
    by_cases hc : xs.length < cap
    · have hcs : cur.size = cap := by omega
      have hr := run_append_room (P := Tryz.prog) (w1.alloc (.cells #[.int .i64 y] 3)) 42 ty 3 i0 Tryz.underlying42 hi g xs.length cap cur hg' ⟨w1.heap.size, 0, none⟩ 1 1 [.int .i64 y] (by rw [hz1]; rfl) hnews (by simp [Value.oneCell']) (by omega) (by rw [hz1]; simp; omega)
      rw [hz1, Nat.mul_one] at hr
      have hset := setRow_heap (w1.alloc (.cells #[.int .i64 y] 3)) g cur (cur.toList.take xs.length ++ [Value.int .i64 y] ++ cur.toList.drop (xs.length + [Value.int .i64 y].length)).toArray 3 _ hg'
      have hoth : ∀ j, j ≠ g → ((w1.alloc (.cells #[.int .i64 y] 3)).setRow g (cur.toList.take xs.length ++ [Value.int .i64 y] ++ cur.toList.drop (xs.length + [Value.int .i64 y].length)).toArray).heap[j]? = (w1.alloc (.cells #[.int .i64 y] 3)).heap[j]? := fun j hj => setRow_other _ g j _ hj
      refine ⟨_, _, hr, fin ⟨by simp, .inr ⟨g, cap, _, rfl, hb, hset, by omega, h2, ?_, ?_⟩⟩, grown_two (grown_new w1 _ _) ⟨rfl, rfl, rfl, by simp, fun k _ hk => hoth k (fun e => hk (by simp [Value.ownBlock, e]))⟩, fun j hj => .inl (by simpa [Value.ownBlock] using hj), fun gb i T ht hnr => ?_⟩
      · simp; omega
      · rw [h4]
        have e : (xs.length + 1) * 1 = (xs.map (Value.int .i64) ++ [Value.int .i64 y]).length := by simp
        rw [e]
        exact List.take_left
      · have hlt := ht.lt
        by_cases e : gb = g
        · subst e
          have hi' : i < xs.length := by
            by_cases q : i < xs.length
            · exact q
            · exact absurd ⟨xs.length, cap, rfl, by omega, hc⟩ hnr
          refine ⟨?_, ?_, ?_⟩
          · rw [cell_of hset, cell_of hg]
            simp only [List.append_assoc, List.getElem?_toArray]
            rw [List.getElem?_append_left (by simp; omega), List.getElem?_take_of_lt hi']
            simp
          · obtain ⟨c, fr, hh⟩ := ht
            rw [hg] at hh; cases hh
            exact ⟨_, _, hset⟩
          · rintro ⟨n, c, e, h5, _⟩
            cases e; omega
        · have e1 := (hoth gb e).trans (g0.block gb hlt (by simp))
          refine ⟨World.cell?_of_block e1, ht.same e1, ?_⟩
          rintro ⟨n, c, e2, _⟩
          cases e2; exact e rfl
    · have hcap : cap = xs.length := by omega
      subst hcap
      have hold : ∀ j u, (xs.map (Value.int .i64))[j]? = some u → (w1.alloc (.cells #[.int .i64 y] 3)).cell? ((⟨g, 0, none⟩ : Addr).add j) = some u := by
        intro j u hj
        have hjl := (List.getElem?_eq_some_iff.1 hj).1
        simp at hjl
        rw [add_at, cell_of hg', Nat.zero_add]
        rw [← h4, List.getElem?_take_of_lt hjl] at hj
        simpa using hj
      have hr := run_append_grow (P := Tryz.prog) (w1.alloc (.cells #[.int .i64 y] 3)) 42 ty 3 i0 (.int .i64 0) Tryz.underlying42 hi hz0 ⟨g, 0, none⟩ xs.length xs.length (xs.map (Value.int .i64)) (by rw [hz1]; simp) hold ⟨w1.heap.size, 0, none⟩ 1 1 [.int .i64 y] (by rw [hz1]; rfl) hnews (by omega) (by omega) (by rw [hz2]; exact growslice_fits (by omega) (by omega))
      obtain ⟨n1, n2⟩ := new_row (w1.alloc (.cells #[.int .i64 y] 3)) B xs.length (xs.map (Value.int .i64)) [.int .i64 y] (by simp; omega) (by unfold maxLen; simp; omega)
      simp only [List.length_map, List.length_singleton] at n1 n2
      obtain ⟨f1, f2, f3⟩ := fresh (r := (Value.slice (some ⟨g, 0, none⟩) xs.length xs.length).ownBlock) n2 (fun j hj => by
        have : (w1.alloc (.cells #[.int .i64 y] 3)).heap.size = j := by
          have := own_lt n1 hj
          exact Option.some.inj hj
        simp at this
        omega)
      exact ⟨_, _, hr, fin n1, f1, f2, f3⟩

theorem append_new {w w1 : World} {ops : Array Oper} {rest : List Oper} {o : Oper} {a : Act} {Q : Exit → Act → World → Prop} (hgd : o.guard = none) (s x : Operand)
    (ho : o.op = .call { callee := .builtin .append, args := #[s, x], argTypes := #[42, 42] })
    (y : Int) (hw : w = w1.alloc (.cells #[.int .i64 y] 3)) (B : Nat) (v : Value) (xs : List Int) (hs : a.eval s = v) (own : LRow w1 B v xs)
    (q : Nat) (hx : a.eval x = .slice (some ⟨q, 0, none⟩) 1 1) (hq : q = w1.heap.size) (hbd : xs.length ≤ 100000000) (hB : B ≤ w1.heap.size)
    (h : ∀ v' w', Hid (OwnL w' B v' (xs ++ [y])) → Hid (w1.grownBy w' v.ownBlock) → Hid (Nw w1 v v' ∧ Kept w1 w' v v') → wpList Tryz.prog ops Q rest (a.put o.dst v') w') : wpList Tryz.prog ops Q (o :: rest) a w := by
  obtain ⟨v', w', hr, h2, h3, h4, h5⟩ := run_more o.type y hw B v xs own q hq hbd hB
  refine wpList_plain hgd fun K hK => ?_
  unfold Oper.wp execOp
  simp only [ho, resolve, invoke, builtin, Sem.run_bind, Sem.run_pure, Result.andThen_ok, List.map_toArray, List.map_cons, List.map_nil, hs, hx, hr]
  exact hK _ _ (h v' w' h2 h3 ⟨h4, h5⟩)

end Go.Proofs.YtimfjoinjfecjaaGreat

namespace Go.Proofs.YtimfjoinjfecjaaGreat
open Go.RowKit
set_option linter.unusedVariables false

structure K where
  B : Nat
  FB : Nat
  OB : Nat
  n : Nat

/-- The lists that a trail has: literals, starts. -/
structure V where
  l : Value
  s : Value

/-- What is known of the variables, in memory. -/
def Facts (w : World) (FB n : Nat) (F : Nat → Fc) : Prop :=
  ∃ c : Array Value, w.heap[FB]? = some (.cells c 157 (0, 0)) ∧ c.size = n * 3 ∧ ∀ i, i < n → c[i * 3]? = some (.int .i64 (F i).v) ∧ c[i * 3 + 1]? = some (.int .i64 (F i).g) ∧ c[i * 3 + 2]? = some (.int .i64 (F i).r)

structure Raw (k : K) (w : World) (F : Nat → Fc) (ls ss : List Int) (p : V) : Prop where
  lo : k.B ≤ k.FB
  lt : k.FB < k.OB
  hn : k.n ≤ 1048576
  cl : w.heap[k.OB]? = some (.cells #[.slice (some ⟨k.FB, 0, none⟩) k.n k.n, p.l, p.s] 78 (0, 0))
  fc : Facts w k.FB k.n F
  rl : LRow w (k.OB + 1) p.l ls
  rs : OwnL w (k.OB + 1) p.s ss
  ne : ∀ j, p.l.ownBlock = some j → p.s.ownBlock ≠ some j

def Mine (k : K) (p : V) (j : Nat) : Prop := j = k.FB ∨ j = k.OB ∨ p.l.ownBlock = some j ∨ p.s.ownBlock = some j

/-- A cell that the trail does not write. -/
def Safe (k : K) (p : V) (g i : Nat) : Prop := g ≠ k.FB ∧ g ≠ k.OB ∧ p.s.ownBlock ≠ some g ∧ ¬ Room p.l g i

/-- From w to w' blocks of the trail alone have changed; what it has now is of it, or new. -/
structure Fr (k : K) (p p' : V) (w w' : World) : Prop where
  os : w'.os = w.os
  tape : w'.tape = w.tape
  output : w'.output = w.output
  size : w.heap.size ≤ w'.heap.size
  block : ∀ j, j < w.heap.size → ¬ Mine k p j → w'.heap[j]? = w.heap[j]?
  new : ∀ j, j < w.heap.size → Mine k p' j → Mine k p j
  safe : ∀ g i T, Typ w g T → Safe k p g i → w'.cell? ⟨g, i, none⟩ = w.cell? ⟨g, i, none⟩ ∧ Typ w' g T ∧ Safe k p' g i

theorem Fr.refl (k : K) (p : V) (w : World) : Fr k p p w w := ⟨rfl, rfl, rfl, Nat.le_refl _, fun _ _ _ => rfl, fun _ _ h => h, fun _ _ _ ht h => ⟨rfl, ht, h⟩⟩

theorem Fr.trans {k : K} {p p' p'' : V} {w w' w'' : World} (h : Fr k p p' w w') (g : Fr k p' p'' w' w'') : Fr k p p'' w w'' := by
  refine ⟨g.os.trans h.os, g.tape.trans h.tape, g.output.trans h.output, Nat.le_trans h.size g.size, fun j hj hm => ?_, fun j hj hm => ?_, fun b i T ht hs => ?_⟩
  · rw [g.block j (Nat.lt_of_lt_of_le hj h.size) (fun c => hm (h.new j hj c)), h.block j hj hm]
  · exact h.new j hj (g.new j (Nat.lt_of_lt_of_le hj h.size) hm)
  · obtain ⟨a1, a2, a3⟩ := h.safe b i T ht hs
    obtain ⟨b1, b2, b3⟩ := g.safe b i T a2 a3
    exact ⟨b1.trans a1, b2, b3⟩

theorem Fr.grown {k : K} {p : V} {w w' : World} {r : Option Nat} (g : w.grownBy w' r) (hr : ∀ j, r = some j → j = k.FB ∨ j = k.OB) : Fr k p p w w' :=
  ⟨g.os, g.tape, g.output, g.size, fun j hj hm => g.block j hj (fun e => hm ((hr j e.symm).elim .inl (fun h => .inr (.inl h)))), fun _ _ h => h, fun b i T ht hs => by
    obtain ⟨t1, t2⟩ := ht.grown g (fun e => (hr b e).elim hs.1 hs.2.1)
    exact ⟨t2 i, t1, hs⟩⟩

theorem Fr.below {k : K} {p : V} {w w' : World} (b : Below w.heap.size w w') : Fr k p p w w' := Fr.grown (grown_below b) (fun j hj => by cases hj)
theorem Fr.drew (k : K) (p : V) (w : World) : Fr k p p w w.drew := Fr.below (below_drew w)

/-- What is known of the variables and the trail's own fields alone have changed. -/
structure Lo (k : K) (w w' : World) : Prop where
  os : w'.os = w.os
  tape : w'.tape = w.tape
  output : w'.output = w.output
  size : w.heap.size ≤ w'.heap.size
  block : ∀ j, j < w.heap.size → j ≠ k.FB → j ≠ k.OB → w'.heap[j]? = w.heap[j]?

theorem Lo.refl (k : K) (w : World) : Lo k w w := ⟨rfl, rfl, rfl, Nat.le_refl _, fun _ _ _ _ => rfl⟩
theorem Lo.trans {k : K} {w w' w'' : World} (h : Lo k w w') (g : Lo k w' w'') : Lo k w w'' :=
  ⟨g.os.trans h.os, g.tape.trans h.tape, g.output.trans h.output, Nat.le_trans h.size g.size, fun j hj h1 h2 => (g.block j (Nat.lt_of_lt_of_le hj h.size) h1 h2).trans (h.block j hj h1 h2)⟩
theorem Lo.below {k : K} {w w' : World} (b : Below w.heap.size w w') : Lo k w w' := ⟨b.os, b.tape, b.output, b.size, fun j hj _ _ => b.block j hj⟩
theorem Lo.grown {k : K} {w w1 w' : World} {r : Option Nat} (h : Lo k w w1) (g : w1.grownBy w' r) (hr : ∀ j, r = some j → j < w.heap.size → j = k.FB ∨ j = k.OB) : Lo k w w' :=
  ⟨g.os.trans h.os, g.tape.trans h.tape, g.output.trans h.output, Nat.le_trans h.size g.size, fun j hj h1 h2 => (g.block j (Nat.lt_of_lt_of_le hj h.size) (fun c => (hr j c.symm hj).elim h1 h2)).trans (h.block j hj h1 h2)⟩
theorem Lo.fr {k : K} {p p' : V} {w w' : World} (h : Lo k w w') (hl : p'.l.ownBlock = p.l.ownBlock) (hs : p'.s.ownBlock = p.s.ownBlock) (hroom : ∀ g i, Room p'.l g i → Room p.l g i) : Fr k p p' w w' := by
  refine ⟨h.os, h.tape, h.output, h.size, fun j hj hm => h.block j hj (fun c => hm (.inl c)) (fun c => hm (.inr (.inl c))), fun j _ hm => ?_, fun b i T ht q => ?_⟩
  rotate_left
  · have e1 := h.block b ht.lt q.1 q.2.1
    exact ⟨World.cell?_of_block e1, ht.same e1, q.1, q.2.1, by rw [hs]; exact q.2.2.1, fun c => q.2.2.2 (hroom b i c)⟩
  rcases hm with e | e | e | e
  · exact .inl e
  · exact .inr (.inl e)
  · exact .inr (.inr (.inl (hl ▸ e)))
  · exact .inr (.inr (.inr (hs ▸ e)))

section
variable {k : K} {w w' : World} {F : Nat → Fc} {ls ss : List Int} {p : V}

theorem Facts.keep {FB n : Nat} (h : Facts w FB n F) {r : Option Nat} (g : w.grownBy w' r) (hr : ∀ j, r = some j → j ≠ FB) : Facts w' FB n F := by
  obtain ⟨c, h1, h2⟩ := h
  exact ⟨c, by rw [g.block _ (blk_lt h1) (fun e => hr _ e.symm rfl)]; exact h1, h2⟩

theorem OwnL.keep {base : Nat} {v : Value} {xs : List Int} (h : OwnL w base v xs) {r : Option Nat} (g : w.grownBy w' r) (hr : ∀ j, r = some j → v.ownBlock ≠ some j) : OwnL w' base v xs := own_keep h g hr
theorem OwnL.lt {base : Nat} {v : Value} {xs : List Int} (h : OwnL w base v xs) {j : Nat} (hj : v.ownBlock = some j) : base ≤ j ∧ j < w.heap.size := own_lt h hj

theorem Raw.keep (s : Raw k w F ls ss p) {r : Option Nat} (g : w.grownBy w' r) (hr : ∀ j, r = some j → ¬ Mine k p j) : Raw k w' F ls ss p := by
  refine ⟨s.lo, s.lt, s.hn, ?_, s.fc.keep g (fun j hj e => hr j hj (.inl e)), s.rl.keep g (fun j hj e => hr j hj (.inr (.inr (.inl e)))), s.rs.keep g (fun j hj e => hr j hj (.inr (.inr (.inr e)))), s.ne⟩
  rw [g.block _ (blk_lt s.cl) (fun e => hr _ e.symm (.inr (.inl rfl)))]; exact s.cl

theorem Raw.below (s : Raw k w F ls ss p) (b : Below w.heap.size w w') : Raw k w' F ls ss p := s.keep (grown_below b) (fun j hj => by cases hj)
theorem Raw.drew (s : Raw k w F ls ss p) : Raw k w.drew F ls ss p := s.below (below_drew w)

theorem Raw.fb_lt (s : Raw k w F ls ss p) : k.FB < w.heap.size := by obtain ⟨c, h, _⟩ := s.fc; exact blk_lt h

theorem Raw.mine_lt (s : Raw k w F ls ss p) {j : Nat} (h : Mine k p j) : k.B ≤ j ∧ j < w.heap.size := by
  have h1 := s.lo; have h3 := s.lt
  rcases h with e | e | e | e
  · exact ⟨by omega, e ▸ s.fb_lt⟩
  · exact ⟨by omega, e ▸ blk_lt s.cl⟩
  · have := s.rl.lt e; exact ⟨by omega, this.2⟩
  · have := s.rs.lt e; exact ⟨by omega, this.2⟩

theorem Fr.be {p' : V} (s : Raw k w F ls ss p) (f : Fr k p p' w w') (hB : k.B ≤ w.heap.size) : Below k.B w w' :=
  ⟨f.os, f.tape, f.output, f.size, fun j hj => f.block j (by omega) (fun h => by have := s.mine_lt h; omega)⟩

/-- What is known of a variable is written. -/
theorem Facts.put {FB n : Nat} (h : Facts w FB n F) {i : Nat} (hi : i < n) (f : Fc) : Facts (((w.setCell ⟨FB, i * 3, none⟩ (.int .i64 f.v)).setCell ⟨FB, i * 3 + 1, none⟩ (.int .i64 f.g)).setCell ⟨FB, i * 3 + 2, none⟩ (.int .i64 f.r)) FB n (upd F i f) := by
  obtain ⟨c, h1, h2, h3⟩ := h
  refine ⟨_, set_same (set_same (set_same h1 _) _) _, by simpa using h2, fun j hj => ?_⟩
  obtain ⟨q1, q2, q3⟩ := h3 j hj
  simp only [Array.getElem?_setIfInBounds, upd]
  by_cases e : j = i
  · subst e
    have l1 : j * 3 < c.size := by omega
    have l2 : j * 3 + 1 < c.size := by omega
    have l3 : j * 3 + 2 < c.size := by omega
    refine ⟨?_, ?_, ?_⟩ <;> simp [l1, l2, l3]
  · rw [if_neg e]
    refine ⟨?_, ?_, ?_⟩
    · rw [if_neg (by omega), if_neg (by omega), if_neg (by omega)]; exact q1
    · rw [if_neg (by omega), if_neg (by omega), if_neg (by omega)]; exact q2
    · rw [if_neg (by omega), if_neg (by omega), if_neg (by omega)]; exact q3

theorem grown3 (w : World) (b o1 o2 o3 : Nat) (x y z : Value) : w.grownBy (((w.setCell ⟨b, o1, none⟩ x).setCell ⟨b, o2, none⟩ y).setCell ⟨b, o3, none⟩ z) (some b) :=
  grown_two (grown_two (grown_set w ⟨b, o1, none⟩ x) (grown_set _ ⟨b, o2, none⟩ y)) (grown_set _ ⟨b, o3, none⟩ z)

theorem Raw.putf (s : Raw k w F ls ss p) {i : Nat} (hi : i < k.n) (f : Fc) : Raw k (((w.setCell ⟨k.FB, i * 3, none⟩ (.int .i64 f.v)).setCell ⟨k.FB, i * 3 + 1, none⟩ (.int .i64 f.g)).setCell ⟨k.FB, i * 3 + 2, none⟩ (.int .i64 f.r)) (upd F i f) ls ss p := by
  have g := grown3 w k.FB (i * 3) (i * 3 + 1) (i * 3 + 2) (.int .i64 f.v) (.int .i64 f.g) (.int .i64 f.r)
  have hlt := s.lt
  refine ⟨s.lo, s.lt, s.hn, ?_, s.fc.put hi f, s.rl.keep g (fun j hj e => ?_), s.rs.keep g (fun j hj e => ?_), s.ne⟩
  · rw [g.block _ (blk_lt s.cl) (fun e => by have := Option.some.inj e; omega)]; exact s.cl
  · cases hj; have := (s.rl.lt e).1; omega
  · cases hj; have := (s.rs.lt e).1; omega

/-- The literals are others now. -/
theorem Raw.putl {v' : Value} {ls' : List Int} (s : Raw k w F ls ss p) (g : w.grownBy w' p.l.ownBlock) (own : LRow w' (k.OB + 1) v' ls') (nw : Nw w p.l v') (kp : Kept w w' p.l v') :
    w'.heap[k.OB]? = some (.cells #[.slice (some ⟨k.FB, 0, none⟩) k.n k.n, p.l, p.s] 78 (0, 0)) ∧ Raw k (w'.setCell ⟨k.OB, 1, none⟩ v') F ls' ss ⟨v', p.s⟩ ∧ Fr k p ⟨v', p.s⟩ w (w'.setCell ⟨k.OB, 1, none⟩ v') := by
  have h1 := s.lt
  have far : ∀ j, p.l.ownBlock = some j → k.OB < j := fun j e => (s.rl.lt e).1
  have e1 : w'.heap[k.OB]? = w.heap[k.OB]? := g.block _ (blk_lt s.cl) (fun e => by have := far _ e.symm; omega)
  have e4 := e1.trans s.cl
  have g2 := grown_set w' ⟨k.OB, 1, none⟩ v'
  have f1 : Facts w' k.FB k.n F := s.fc.keep g (fun j hj e => by have := far j hj; omega)
  have r1 : OwnL w' (k.OB + 1) p.s ss := s.rs.keep g (fun j hj e => s.ne j hj e)
  refine ⟨e4, ⟨s.lo, s.lt, s.hn, ?_, f1.keep g2 (fun j hj => by cases hj; show k.OB ≠ k.FB; omega), own.keep g2 (fun j hj e => ?_), r1.keep g2 (fun j hj e => ?_), ?_⟩, ?_⟩
  · rw [set_same e4]; rfl
  · cases hj; have := (own.lt e).1; simp at this; omega
  · cases hj; have := (r1.lt e).1; simp at this; omega
  · intro j hj hs
    rcases nw j hj with e | e
    · exact s.ne j e hs
    · have := (s.rs.lt hs).2; omega
  · refine ⟨g2.os.trans g.os, g2.tape.trans g.tape, g2.output.trans g.output, Nat.le_trans g.size g2.size, fun j hj hm => ?_, fun j hj hm => ?_, fun b i T ht hs => ?_⟩
    · rw [g2.block j (Nat.lt_of_lt_of_le hj g.size) (fun c => hm (.inr (.inl (Option.some.inj c))))]
      exact g.block j hj (fun c => hm (.inr (.inr (.inl c.symm))))
    · rcases hm with e | e | e | e
      · exact .inl e
      · exact .inr (.inl e)
      · rcases nw j e with e | e
        · exact .inr (.inr (.inl e))
        · omega
      · exact .inr (.inr (.inr e))
    · obtain ⟨q1, q2, q3⟩ := kp b i T ht hs.2.2.2
      have e2 := g2.block b (Nat.lt_of_lt_of_le ht.lt g.size) (fun c => hs.2.1 (Option.some.inj c))
      exact ⟨(World.cell?_of_block e2).trans q1, q2.same e2, hs.1, hs.2.1, hs.2.2.1, q3⟩

/-- The starts are others now. -/
theorem Raw.puts {v' : Value} {ss' : List Int} (s : Raw k w F ls ss p) (g : w.grownBy w' p.s.ownBlock) (own : OwnL w' (k.OB + 1) v' ss') (nw : Nw w p.s v') :
    w'.heap[k.OB]? = some (.cells #[.slice (some ⟨k.FB, 0, none⟩) k.n k.n, p.l, p.s] 78 (0, 0)) ∧ Raw k (w'.setCell ⟨k.OB, 2, none⟩ v') F ls ss' ⟨p.l, v'⟩ ∧ Fr k p ⟨p.l, v'⟩ w (w'.setCell ⟨k.OB, 2, none⟩ v') := by
  have h1 := s.lt
  have far : ∀ j, p.s.ownBlock = some j → k.OB < j := fun j e => (s.rs.lt e).1
  have e1 : w'.heap[k.OB]? = w.heap[k.OB]? := g.block _ (blk_lt s.cl) (fun e => by have := far _ e.symm; omega)
  have e4 := e1.trans s.cl
  have g2 := grown_set w' ⟨k.OB, 2, none⟩ v'
  have f1 : Facts w' k.FB k.n F := s.fc.keep g (fun j hj e => by have := far j hj; omega)
  have r1 : LRow w' (k.OB + 1) p.l ls := s.rl.keep g (fun j hj e => s.ne j e hj)
  refine ⟨e4, ⟨s.lo, s.lt, s.hn, ?_, f1.keep g2 (fun j hj => by cases hj; show k.OB ≠ k.FB; omega), r1.keep g2 (fun j hj e => ?_), own.keep g2 (fun j hj e => ?_), ?_⟩, ?_⟩
  · rw [set_same e4]; rfl
  · cases hj; have := (r1.lt e).1; simp at this; omega
  · cases hj; have := (own.lt e).1; simp at this; omega
  · intro j hl hj
    rcases nw j hj with e | e
    · exact s.ne j hl e
    · have := (s.rl.lt hl).2; omega
  · refine ⟨g2.os.trans g.os, g2.tape.trans g.tape, g2.output.trans g.output, Nat.le_trans g.size g2.size, fun j hj hm => ?_, fun j hj hm => ?_, fun b i T ht hs => ?_⟩
    · rw [g2.block j (Nat.lt_of_lt_of_le hj g.size) (fun c => hm (.inr (.inl (Option.some.inj c))))]
      exact g.block j hj (fun c => hm (.inr (.inr (.inr c.symm))))
    · rcases hm with e | e | e | e
      · exact .inl e
      · exact .inr (.inl e)
      · exact .inr (.inr (.inl e))
      · rcases nw j e with e | e
        · exact .inr (.inr (.inr e))
        · omega
    · have e1 := g.block b ht.lt (fun c => hs.2.2.1 c.symm)
      have e2 := (g2.block b (Nat.lt_of_lt_of_le ht.lt g.size) (fun c => hs.2.1 (Option.some.inj c))).trans e1
      refine ⟨World.cell?_of_block e2, ht.same e2, hs.1, hs.2.1, fun c => ?_, hs.2.2.2⟩
      rcases nw b c with e | e
      · exact hs.2.2.1 e
      · have := ht.lt; omega

theorem Raw.c0 (s : Raw k w F ls ss p) : w.cell? ⟨k.OB, 0, none⟩ = some (.slice (some ⟨k.FB, 0, none⟩) k.n k.n) := by rw [cell_of s.cl]; rfl
theorem Raw.c1 (s : Raw k w F ls ss p) : w.cell? ⟨k.OB, 1, none⟩ = some p.l := by rw [cell_of s.cl]; rfl
theorem Raw.c2 (s : Raw k w F ls ss p) : w.cell? ⟨k.OB, 2, none⟩ = some p.s := by rw [cell_of s.cl]; rfl
theorem Raw.cf (s : Raw k w F ls ss p) (i : Nat) : w.frozen? ⟨k.OB, i, none⟩ = false := frozen_of s.cl
theorem Raw.fa (s : Raw k w F ls ss p) {i : Nat} (h : i < k.n) : w.cell? ⟨k.FB, i * 3, none⟩ = some (.int .i64 (F i).v) ∧ w.cell? ⟨k.FB, i * 3 + 1, none⟩ = some (.int .i64 (F i).g) ∧ w.cell? ⟨k.FB, i * 3 + 2, none⟩ = some (.int .i64 (F i).r) := by
  obtain ⟨c, h1, h2, h3⟩ := s.fc
  obtain ⟨q1, q2, q3⟩ := h3 i h
  exact ⟨by rw [cell_of h1]; exact q1, by rw [cell_of h1]; exact q2, by rw [cell_of h1]; exact q3⟩
theorem Raw.ff (s : Raw k w F ls ss p) (i : Nat) : w.frozen? ⟨k.FB, i, none⟩ = false := by obtain ⟨c, h1, _⟩ := s.fc; exact frozen_of h1
theorem Raw.ls_shape (s : Raw k w F ls ss p) : ∃ ao cap, p.s = .slice ao ss.length cap := by
  rcases s.rs.2 with ⟨h1, h2⟩ | ⟨b, cap, cur, h1, _⟩
  · exact ⟨none, 0, by rw [h1, h2]⟩
  · exact ⟨_, _, h1⟩
end

end Go.Proofs.YtimfjoinjfecjaaGreat

namespace Go.Proofs.YtimfjoinjfecjaaGreat
open Go.RowKit
set_option linter.unusedVariables false

/-! ### Literals -/
theorem none_any (w : World) : Calls Tryz.prog 68 #[] w fun e w' => e = .returned (.agg #[.int .i64 (-1), .bool false]) ∧ w' = w.alloc (.cells #[.int .i64 (-1), .bool false] 74) := by
  go_enter Tryz.func68, Tryz.ntmps68
  go_wp2
  go_returns
  exact ⟨rfl, rfl⟩

theorem split_neg (l : Int) (h : l < 0) (w : World) : Calls Tryz.prog 41 #[.int .i64 l] w fun e w' => e = .returned (.agg #[.int .i64 (-1), .bool false]) ∧ Below w.heap.size w w' := by
  go_enter Tryz.func41, Tryz.ntmps41
  go_wp2_with (go_at_call 68; refine (none_any _).mono ?_; rintro e w' ⟨rfl, rfl⟩)
  go_returns
  exact ⟨rfl, by go_grown⟩

theorem split_pos (l : Int) (h : ¬ l < 0) (hu : l ≤ 9223372036854775807) (w : World) : Calls Tryz.prog 41 #[.int .i64 l] w fun e w' => e = .returned (.agg #[.int .i64 (l / 2), .bool (l % 2 == 1)]) ∧ Below w.heap.size w w' := by
  go_enter Tryz.func41, Tryz.ntmps41
  go_wp2
  go_returns
  exact ⟨rfl, by go_grown⟩

theorem field0 (x y : Value) (w : World) : (Instr.field 74 (.agg #[x, y]) 0).run Tryz.prog w = .ok x w := by kernel_rfl
theorem field1 (x y : Value) (w : World) : (Instr.field 74 (.agg #[x, y]) 1).run Tryz.prog w = .ok y w := by kernel_rfl

theorem var_neg (l : Int) (h : l < 0) (w : World) : Calls Tryz.prog 24 #[.int .i64 l] w fun e w' => e = .returned (.int .i64 (-1)) ∧ Below w.heap.size w w' := by
  have f0 := field0
  go_enter Tryz.func24, Tryz.ntmps24
  go_wp2_with (go_at_call 41; refine (split_neg _ h _).mono ?_; rintro e w' ⟨rfl, hb⟩)
  go_returns
  exact ⟨rfl, hb⟩

theorem var_nat (m u : Nat) (hm : m / 2 = u) (hu : (m : Int) ≤ 9223372036854775807) (w : World) : Calls Tryz.prog 24 #[.int .i64 m] w fun e w' => e = .returned (.int .i64 u) ∧ Below w.heap.size w w' := by
  have HE : Hid ((m : Int) / 2 = u) := hid (by omega)
  have f0 := field0
  have h0 : ¬ ((m : Int) < 0) := by omega
  clear hm
  go_enter Tryz.func24, Tryz.ntmps24
  go_wp2_with (go_at_call 41; refine (split_pos _ h0 hu _).mono ?_; rintro e w' ⟨rfl, hb⟩)
  go_returns
  exact ⟨by rw [HE.out]; rfl, hb⟩

theorem neg_nat (m : Nat) (b : Bool) (hb : decide (m % 2 = 1) = b) (hu : (m : Int) ≤ 9223372036854775807) (w : World) : Calls Tryz.prog 103 #[.int .i64 m] w fun e w' => e = .returned (.bool b) ∧ Below w.heap.size w w' := by
  have HE : Hid (((m : Int) % 2 == 1) = b) := hid (by rw [← hb, Bool.eq_iff_iff]; simp; omega)
  have f1 := field1
  have h0 : ¬ ((m : Int) < 0) := by omega
  clear hb
  go_enter Tryz.func103, Tryz.ntmps103
  go_wp2_with (go_at_call 41; refine (split_pos _ h0 hu _).mono ?_; rintro e w' ⟨rfl, hb⟩)
  go_returns
  exact ⟨by rw [HE.out]; rfl, hb⟩

/-! ### A trail that is none -/
theorem is_none (v : Int) (w : World) : Calls Tryz.prog 133 #[.pointer none, .int .i64 v] w fun e w' => e = .returned (.bool false) ∧ w' = w := by
  go_enter Tryz.func133, Tryz.ntmps133
  go_wp2
  go_ret
  exact ⟨rfl, rfl⟩

/-! ### A trail -/
def isF (n : Nat) (v : Int) : Bool := decide (0 ≤ v ∧ v < n)

theorem isF_yes {n : Nat} {v : Int} (h : isF n v = true) : ∃ u : Nat, v = u ∧ u < n := by
  simp only [isF, decide_eq_true_eq] at h
  exact ⟨v.toNat, by omega, by omega⟩
theorem isF_nat {n u : Nat} (h : u < n) : isF n (u : Int) = true := by simp [isF, h]

section
variable {k : K} {w : World} {F : Nat → Fc} {ls ss : List Int} {p : V}

theorem is_any (s : Raw k w F ls ss p) (v : Int) : Calls Tryz.prog 133 #[.pointer (some ⟨k.OB, 0, none⟩), .int .i64 v] w fun e w' => e = .returned (.bool (isF k.n v)) ∧ w' = w := by
  have c0 := s.c0
  by_cases h0 : 0 ≤ v
  · by_cases h1 : v < k.n
    · have HV : Hid (isF k.n v = true) := hid (by simp [isF]; omega)
      go_enter Tryz.func133, Tryz.ntmps133
      go_wp2
      go_ret
      exact ⟨by rw [HV.out]; simp, rfl⟩
    · have HV : Hid (isF k.n v = false) := hid (by simp [isF]; omega)
      go_enter Tryz.func133, Tryz.ntmps133
      go_wp2
      go_ret
      exact ⟨by rw [HV.out]; simp, rfl⟩
  · have HV : Hid (isF k.n v = false) := hid (by simp [isF]; omega)
    go_enter Tryz.func133, Tryz.ntmps133
    go_wp2
    go_ret
    exact ⟨by rw [HV.out]; rfl, rfl⟩

theorem assigned_no (s : Raw k w F ls ss p) (v : Int) (h : isF k.n v = false) : Calls Tryz.prog 128 #[.pointer (some ⟨k.OB, 0, none⟩), .int .i64 v] w fun e w' => e = .returned (.bool false) ∧ w' = w := by
  have HS := hid s
  clear s
  go_enter Tryz.func128, Tryz.ntmps128
  go_wp2_with (go_at_call 133; with_reducible (refine (is_any HS.out _).mono ?_); rintro e w ⟨rfl, rfl⟩)
  go_ret
  exact ⟨rfl, rfl⟩

theorem assigned_yes (s : Raw k w F ls ss p) (v : Nat) (h : v < k.n) {x : Int} (hx : (F v).v = x) : Calls Tryz.prog 128 #[.pointer (some ⟨k.OB, 0, none⟩), .int .i64 v] w fun e w' => e = .returned (.bool (x != 0)) ∧ w' = w := by
  have HS := hid s
  have c0 := s.c0
  have fa := (s.fa h).1
  rw [hx] at fa
  have hi := isF_nat h
  have h' : (v : Int) < k.n := by omega
  clear s hx
  go_enter Tryz.func128, Tryz.ntmps128
  go_wp2_with (go_at_call 133; with_reducible (refine (is_any HS.out _).mono ?_); rintro e w ⟨rfl, rfl⟩)
  go_ret
  exact ⟨rfl, rfl⟩

theorem levels_any (s : Raw k w F ls ss p) : Calls Tryz.prog 32 #[.pointer (some ⟨k.OB, 0, none⟩)] w fun e w' => e = .returned (.int .i64 ss.length) ∧ w' = w := by
  obtain ⟨ao, cap, e⟩ := s.ls_shape
  have c2 := s.c2
  rw [e] at c2
  go_enter Tryz.func32, Tryz.ntmps32
  go_wp2
  go_ret
  exact ⟨rfl, rfl⟩
end

end Go.Proofs.YtimfjoinjfecjaaGreat

namespace Go.Proofs.YtimfjoinjfecjaaGreat
open Go.RowKit
set_option linter.unusedVariables false

def castS (S : List Nat) : List Int := S.map (fun s : Nat => (s : Int))

/-- A trail whose list is L, at level lev. -/
def Trl (k : K) (w : World) (L : List E) (lev : Nat) (p : V) : Prop := ∃ F S, Raw k w F (litsF L) (castS S) p ∧ Good k.n L F S ∧ S.length = lev

theorem Trl.below {k : K} {w w' : World} {L : List E} {lev : Nat} {p : V} (t : Trl k w L lev p) (b : Below w.heap.size w w') : Trl k w' L lev p := by
  obtain ⟨F, S, s, g, h⟩ := t; exact ⟨F, S, s.below b, g, h⟩
theorem Trl.keep {k : K} {w w' : World} {L : List E} {lev : Nat} {p : V} (t : Trl k w L lev p) {r : Option Nat} (g : w.grownBy w' r) (hr : ∀ j, r = some j → ¬ Mine k p j) : Trl k w' L lev p := by
  obtain ⟨F, S, s, q, h⟩ := t; exact ⟨F, S, s.keep g hr, q, h⟩
theorem Trl.lt {k : K} {w : World} {L : List E} {lev : Nat} {p : V} (t : Trl k w L lev p) {j : Nat} (h : Mine k p j) : k.B ≤ j ∧ j < w.heap.size := by
  obtain ⟨F, S, s, _⟩ := t; exact s.mine_lt h
theorem Trl.len {k : K} {w : World} {L : List E} {lev : Nat} {p : V} (t : Trl k w L lev p) : L.length ≤ k.n ∧ k.n ≤ 1048576 ∧ lev ≤ L.length := by
  obtain ⟨F, S, s, g, h⟩ := t; exact ⟨g.len, s.hn, by rw [← h]; exact g.ll⟩
theorem Trl.be {k : K} {w w1 w' : World} {L : List E} {lev : Nat} {p p' : V} (t : Trl k w1 L lev p) (f : Fr k p p' w1 w') (hB : k.B = w.heap.size) (b : Below w.heap.size w w1) : Below w.heap.size w w' := by
  obtain ⟨F, S, s, _⟩ := t
  have h1 := b.size
  have := Fr.be s f (by omega)
  rw [hB] at this
  exact b.trans this

/-- That a literal can not be assigned. -/
def No (n : Nat) (F : Nat → Fc) (l : Int) : Prop := l < 0 ∨ ∃ m u : Nat, l = m ∧ m / 2 = u ∧ (n ≤ u ∨ (u < n ∧ (F u).v ≠ 0))

theorem Good.cases {n : Nat} {L : List E} {F : Nat → Fc} {S : List Nat} (g : Good n L F S) (l : Int) : (mayF n L l = false ∧ No n F l) ∨ (mayF n L l = true ∧ ∃ m u : Nat, l = m ∧ m / 2 = u ∧ u < n ∧ (F u).v = 0) := by
  by_cases h0 : l < 0
  · exact .inl ⟨may_out (.inl h0), .inl h0⟩
  · obtain ⟨m, rfl⟩ : ∃ m : Nat, l = m := ⟨l.toNat, by omega⟩
    by_cases h1 : m / 2 < n
    · by_cases h2 : (F (m / 2)).v = 0
      · exact .inr ⟨by rw [g.may m _ rfl h1]; simp [h2], m, _, rfl, rfl, h1, h2⟩
      · exact .inl ⟨by rw [g.may m _ rfl h1]; simp [h2], .inr ⟨m, _, rfl, rfl, .inr ⟨h1, h2⟩⟩⟩
    · exact .inl ⟨may_out (.inr (by omega)), .inr ⟨m, _, rfl, rfl, .inl (by omega)⟩⟩

section
variable {k : K} {w : World} {F : Nat → Fc} {ls ss : List Int} {p : V}

theorem free_no (s : Raw k w F ls ss p) (l : Int) (hu : l ≤ 9223372036854775807) (h : No k.n F l) : Calls Tryz.prog 100 #[.pointer (some ⟨k.OB, 0, none⟩), .int .i64 l] w fun e w' => e = .returned (.bool false) ∧ Below w.heap.size w w' := by
  have HS := hid s
  clear s
  rcases h with h | ⟨m, u, rfl, hm, h | ⟨h, hz⟩⟩
  · have hi : isF k.n (-1) = false := by simp [isF]
    go_enter Tryz.func100, Tryz.ntmps100
    go_wp2_with (first
      | (go_at_call 24; with_reducible (refine (var_neg _ h _).mono ?_); rintro e w1 ⟨rfl, b1⟩)
      | (go_at_call 133; with_reducible (refine (is_any (HS.out.below b1) _).mono ?_); rintro e w1 ⟨rfl, rfl⟩))
    go_ret
    exact ⟨rfl, b1⟩
  · have hi : isF k.n u = false := by simp [isF]; omega
    have HM := hid hm
    clear hm
    go_enter Tryz.func100, Tryz.ntmps100
    go_wp2_with (first
      | (go_at_call 24; with_reducible (refine (var_nat _ _ HM.out hu _).mono ?_); rintro e w1 ⟨rfl, b1⟩)
      | (go_at_call 133; with_reducible (refine (is_any (HS.out.below b1) _).mono ?_); rintro e w1 ⟨rfl, rfl⟩))
    go_ret
    exact ⟨rfl, b1⟩
  · have hi := isF_nat h
    have HM := hid hm
    obtain ⟨x, hx⟩ : ∃ x, (F u).v = x := ⟨_, rfl⟩
    have HX := hid hx
    rw [hx] at hz
    have hz' : (x != 0) = true := by simpa using hz
    clear hm hx hz
    go_enter Tryz.func100, Tryz.ntmps100
    go_wp2_with (first
      | (go_at_call 24; with_reducible (refine (var_nat _ _ HM.out hu _).mono ?_); rintro e w1 ⟨rfl, b1⟩)
      | (go_at_call 133; with_reducible (refine (is_any (HS.out.below b1) _).mono ?_); rintro e w1 ⟨rfl, rfl⟩)
      | (go_at_call 128; with_reducible (refine (assigned_yes (HS.out.below b1) u h HX.out).mono ?_); rintro e w1 ⟨rfl, rfl⟩))
    go_ret
    exact ⟨rfl, b1⟩

theorem free_yes (s : Raw k w F ls ss p) (m u : Nat) (hm : m / 2 = u) (hu : (m : Int) ≤ 9223372036854775807) (h : u < k.n) (hz : (F u).v = 0) : Calls Tryz.prog 100 #[.pointer (some ⟨k.OB, 0, none⟩), .int .i64 m] w fun e w' => e = .returned (.bool true) ∧ Below w.heap.size w w' := by
  have HS := hid s
  have hi := isF_nat h
  have HM := hid hm
  have HX := hid hz
  clear s hm hz
  go_enter Tryz.func100, Tryz.ntmps100
  go_wp2_with (first
    | (go_at_call 24; with_reducible (refine (var_nat _ _ HM.out hu _).mono ?_); rintro e w1 ⟨rfl, b1⟩)
    | (go_at_call 133; with_reducible (refine (is_any (HS.out.below b1) _).mono ?_); rintro e w1 ⟨rfl, rfl⟩)
    | (go_at_call 128; with_reducible (refine (assigned_yes (HS.out.below b1) u h HX.out).mono ?_); rintro e w1 ⟨rfl, rfl⟩))
  go_ret
  exact ⟨rfl, b1⟩

theorem value_out (s : Raw k w F ls ss p) (l : Int) (hu : l ≤ 9223372036854775807) (h : l < 0 ∨ ∃ m u : Nat, l = m ∧ m / 2 = u ∧ k.n ≤ u) : Calls Tryz.prog 138 #[.pointer (some ⟨k.OB, 0, none⟩), .int .i64 l] w fun e w' => e = .returned (.int .i64 0) ∧ Below w.heap.size w w' := by
  have HS := hid s
  clear s
  rcases h with h | ⟨m, u, rfl, hm, h⟩
  · have hi : isF k.n (-1) = false := by simp [isF]
    go_enter Tryz.func138, Tryz.ntmps138
    go_wp2_with (first
      | (go_at_call 24; with_reducible (refine (var_neg _ h _).mono ?_); rintro e w1 ⟨rfl, b1⟩)
      | (go_at_call 133; with_reducible (refine (is_any (HS.out.below b1) _).mono ?_); rintro e w1 ⟨rfl, rfl⟩))
    go_ret
    exact ⟨rfl, b1⟩
  · have hi : isF k.n u = false := by simp [isF]; omega
    have HM := hid hm
    clear hm
    go_enter Tryz.func138, Tryz.ntmps138
    go_wp2_with (first
      | (go_at_call 24; with_reducible (refine (var_nat _ _ HM.out hu _).mono ?_); rintro e w1 ⟨rfl, b1⟩)
      | (go_at_call 133; with_reducible (refine (is_any (HS.out.below b1) _).mono ?_); rintro e w1 ⟨rfl, rfl⟩))
    go_ret
    exact ⟨rfl, b1⟩

theorem value_in (s : Raw k w F ls ss p) (m u : Nat) (hm : m / 2 = u) (hu : (m : Int) ≤ 9223372036854775807) (h : u < k.n) {x y : Int} (hx : (F u).v = x) (hb : -1 ≤ x ∧ x ≤ 1) (hy : (if m % 2 = 1 then -x else x) = y) :
    Calls Tryz.prog 138 #[.pointer (some ⟨k.OB, 0, none⟩), .int .i64 m] w fun e w' => e = .returned (.int .i64 y) ∧ Below w.heap.size w w' := by
  have HS := hid s
  have hi := isF_nat h
  have HM := hid hm
  have h' : (u : Int) < k.n := by omega
  have c0 := s.c0
  have fa := (s.fa h).1
  rw [hx] at fa
  obtain ⟨hb1, hb2⟩ := hb
  by_cases ho : m % 2 = 1
  · have HO : Hid (decide (m % 2 = 1) = true) := hid (by simp [ho])
    rw [if_pos ho] at hy
    subst hy
    clear s hm hx ho
    go_enter Tryz.func138, Tryz.ntmps138
    go_wp2_with (first
      | (go_at_call 24; with_reducible (refine (var_nat _ _ HM.out hu _).mono ?_); rintro e w1 ⟨rfl, b1⟩)
      | (go_at_call 133; with_reducible (refine (is_any (HS.out.below b1) _).mono ?_); rintro e w1 ⟨rfl, rfl⟩)
      | (go_at_call 103; with_reducible (refine (neg_nat _ _ HO.out hu _).mono ?_); rintro e w2 ⟨rfl, b2⟩; have c0' := (b2.cell (cell_lt ((b1.cell (cell_lt c0)).trans c0))).trans ((b1.cell (cell_lt c0)).trans c0); have fa' := (b2.cell (cell_lt ((b1.cell (cell_lt fa)).trans fa))).trans ((b1.cell (cell_lt fa)).trans fa)))
    go_ret
    exact ⟨rfl, Below.next b1 b2⟩
  · have HO : Hid (decide (m % 2 = 1) = false) := hid (by simp [ho])
    rw [if_neg ho] at hy
    subst hy
    clear s hm hx ho
    go_enter Tryz.func138, Tryz.ntmps138
    go_wp2_with (first
      | (go_at_call 24; with_reducible (refine (var_nat _ _ HM.out hu _).mono ?_); rintro e w1 ⟨rfl, b1⟩)
      | (go_at_call 133; with_reducible (refine (is_any (HS.out.below b1) _).mono ?_); rintro e w1 ⟨rfl, rfl⟩)
      | (go_at_call 103; with_reducible (refine (neg_nat _ _ HO.out hu _).mono ?_); rintro e w2 ⟨rfl, b2⟩; have c0' := (b2.cell (cell_lt ((b1.cell (cell_lt c0)).trans c0))).trans ((b1.cell (cell_lt c0)).trans c0); have fa' := (b2.cell (cell_lt ((b1.cell (cell_lt fa)).trans fa))).trans ((b1.cell (cell_lt fa)).trans fa)))
    go_ret
    exact ⟨rfl, Below.next b1 b2⟩





theorem reason_no (s : Raw k w F ls ss p) (v : Int) (h : isF k.n v = false) : Calls Tryz.prog 89 #[.pointer (some ⟨k.OB, 0, none⟩), .int .i64 v] w fun e w' => e = .returned (.int .i64 (-1)) ∧ w' = w := by
  have HS := hid s
  clear s
  go_enter Tryz.func89, Tryz.ntmps89
  go_wp2_with (go_at_call 128; with_reducible (refine (assigned_no HS.out _ h).mono ?_); rintro e w ⟨rfl, rfl⟩)
  go_ret
  exact ⟨rfl, rfl⟩

theorem reason_yes (s : Raw k w F ls ss p) (v : Nat) (h : v < k.n) {y : Int} (hy : ((F v).v = 0 ∧ y = -1) ∨ ((F v).v ≠ 0 ∧ y = (F v).r)) : Calls Tryz.prog 89 #[.pointer (some ⟨k.OB, 0, none⟩), .int .i64 v] w fun e w' => e = .returned (.int .i64 y) ∧ w' = w := by
  have HS := hid s
  obtain ⟨x, hx⟩ : ∃ x, (F v).v = x := ⟨_, rfl⟩
  have HX := hid hx
  rw [hx] at hy
  have c0 := s.c0
  have fa := (s.fa h).2.2
  have h' : (v : Int) < k.n := by omega
  clear s hx
  rcases hy with ⟨hz, rfl⟩ | ⟨hz, hy⟩
  · have hz' : (x != 0) = false := by simpa using hz
    clear hz
    go_enter Tryz.func89, Tryz.ntmps89
    go_wp2_with (go_at_call 128; with_reducible (refine (assigned_yes HS.out _ h HX.out).mono ?_); rintro e w ⟨rfl, rfl⟩)
    go_ret
    exact ⟨rfl, rfl⟩
  · have hz' : (x != 0) = true := by simpa using hz
    rw [← hy] at fa
    clear hz hy
    go_enter Tryz.func89, Tryz.ntmps89
    go_wp2_with (go_at_call 128; with_reducible (refine (assigned_yes HS.out _ h HX.out).mono ?_); rintro e w ⟨rfl, rfl⟩)
    go_ret
    exact ⟨rfl, rfl⟩
end

/-! ### As the list says -/
section
variable {k : K} {w : World} {L : List E} {lev : Nat} {p : V}

theorem value_is (t : Trl k w L lev p) (l : Int) (hu : l ≤ 9223372036854775807) {y : Int} (hy : valueF L l = y) : Calls Tryz.prog 138 #[.pointer (some ⟨k.OB, 0, none⟩), .int .i64 l] w fun e w' => e = .returned (.int .i64 y) ∧ Hid (Below w.heap.size w w') := by
  obtain ⟨F, S, s, g, _⟩ := t
  subst hy
  by_cases h0 : l < 0
  · rw [value_neg h0]; exact value_out s l hu (.inl h0)
  · obtain ⟨m, rfl⟩ : ∃ m : Nat, l = m := ⟨l.toNat, by omega⟩
    by_cases h1 : m / 2 < k.n
    · refine value_in s m _ rfl hu h1 rfl ?_ (g.value m _ rfl h1).symm
      by_cases hz : (F (m / 2)).v = 0
      · rw [hz]; omega
      · obtain ⟨e, _, he, hv⟩ := g.has h1 hz
        have := g.f1 e he
        rw [hv] at this
        rw [this]
        simp only [factOf]
        rcases sg_cases e.l with ⟨_, b⟩ | ⟨_, b⟩ <;> rw [b] <;> omega
    · rw [g.valueOut (by omega)]; exact value_out s _ hu (.inr ⟨m, _, rfl, rfl, by omega⟩)



theorem reason_is (t : Trl k w L lev p) (v : Int) {y : Int} (hy : reasonF L v = y) : Calls Tryz.prog 89 #[.pointer (some ⟨k.OB, 0, none⟩), .int .i64 v] w fun e w' => e = .returned (.int .i64 y) ∧ w' = w := by
  obtain ⟨F, S, s, g, _⟩ := t
  subst hy
  cases hi : isF k.n v
  · rw [(g.lookOut (v := v) (by simp [isF] at hi; omega)).2]; exact reason_no s v hi
  · obtain ⟨u, rfl, hu⟩ := isF_yes hi
    refine reason_yes s u hu ?_
    rcases g.look hu with ⟨h1, _, h2⟩ | ⟨h1, _, h2⟩
    · exact .inl ⟨h1, h2⟩
    · exact .inr ⟨h1, h2⟩

theorem levels_is (t : Trl k w L lev p) : Calls Tryz.prog 32 #[.pointer (some ⟨k.OB, 0, none⟩)] w fun e w' => e = .returned (.int .i64 lev) ∧ w' = w := by
  obtain ⟨F, S, s, g, rfl⟩ := t
  have := levels_any s
  rw [show (castS S).length = S.length by simp [castS]] at this
  exact this

theorem litsF_len (L : List E) : (litsF L).length = L.length := by simp [litsF]

/-- The literals, with no room behind them. -/
theorem lits_is (t : Trl k w L lev p) : Calls Tryz.prog 50 #[.pointer (some ⟨k.OB, 0, none⟩)] w fun e w' => ∃ ao, e = .returned (.slice ao L.length L.length) ∧ Hid (LRow w (k.OB + 1) (.slice ao L.length L.length) (litsF L) ∧ p.l.ownBlock = (Value.slice ao L.length L.length).ownBlock) ∧ w' = w := by
  obtain ⟨F, S, s, g, _⟩ := t
  have c1 := s.c1
  have hlen := litsF_len L
  rcases s.rl with ⟨h1, h2⟩ | ⟨b, cap, cur, h1, h2, h3, h4, h5, h6, h7⟩
  · have hL : L.length = 0 := by rw [← hlen, h2]; rfl
    have HR : Hid (LRow w (k.OB + 1) (.slice none 0 0) (litsF L) ∧ p.l.ownBlock = (Value.slice none 0 0).ownBlock) := hid ⟨.inl ⟨rfl, h2⟩, by rw [h1]⟩
    rw [h1] at c1
    rw [hL]
    clear s g h1 h2 hlen hL
    go_enter Tryz.func50, Tryz.ntmps50
    go_wp2
    go_ret
    exact ⟨_, rfl, HR, rfl⟩
  · have HR : Hid (LRow w (k.OB + 1) (.slice (some ⟨b, 0, none⟩) L.length L.length) (litsF L) ∧ p.l.ownBlock = (Value.slice (some ⟨b, 0, none⟩) L.length L.length).ownBlock) := by
      refine hid ⟨?_, by rw [h1]; rfl⟩
      have q : LRow w (k.OB + 1) (.slice (some ⟨b, 0, none⟩) (litsF L).length cap) (litsF L) := .inr ⟨b, cap, cur, rfl, h2, h3, h4, h5, h6, h7⟩
      have := q.full (m := L.length) (by omega)
      rw [← hlen, List.take_length, hlen] at this
      exact this
    rw [h1, hlen] at c1
    rw [hlen] at h4
    have h4' : (L.length : Int) ≤ cap := by omega
    unfold maxLen at h5
    have h5' : (cap : Int) ≤ 9223372036854775807 := by omega
    clear s g h1 h2 h3 h6 h7 hlen h5
    go_enter Tryz.func50, Tryz.ntmps50
    go_wp2
    go_ret
    exact ⟨_, rfl, HR, rfl⟩
end

end Go.Proofs.YtimfjoinjfecjaaGreat
