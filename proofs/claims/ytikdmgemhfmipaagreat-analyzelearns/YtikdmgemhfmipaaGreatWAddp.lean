/-
  A clause more: what becomes of the watch.
-/
import Derived.Test.YtikdmgemhfmipaaGreatWClone
namespace Go.Proofs.YtikdmgemhfmipaaGreat
open Go.RowKit Go.Maps
set_option linter.unusedVariables false

def addG (g : G) (cn : Nat) (lv : Value) (xs : List Int) (mb : Nat) : G :=
  { g with nx := g.nx + 1, cb := up g.cb g.nx cn, lt := up g.lt g.nx xs, lv := up g.lv g.nx lv, a := up g.a g.nx (-1), b := up g.b g.nx (-1), fr := up g.fr g.nx 0, gn := up g.gn g.nx false, mp := some mb }

section
variable {k : WK} {w w' : World} {g : G} {cn mb : Nat} {lv : Value} {xs : List Int}

theorem live_iff {x : Int} : live g x = true ↔ 0 ≤ x ∧ x < g.nx ∧ g.gn x.toNat = false := by
  simp [live, and_assoc]

theorem live_add (x : Int) (hx : x ≠ g.nx) : live (addG g cn lv xs mb) x = live g x := by
  rw [Bool.eq_iff_iff, live_iff, live_iff]
  show 0 ≤ x ∧ x < ((g.nx + 1 : Nat) : Int) ∧ up g.gn g.nx false x.toNat = false ↔ _
  by_cases h : 0 ≤ x ∧ x < g.nx
  · rw [up_ne _ _ (by omega)]
    exact ⟨fun q => ⟨h.1, h.2, q.2.2⟩, fun q => ⟨h.1, by omega, q.2.2⟩⟩
  · exact ⟨fun q => absurd ⟨q.1, by omega⟩ h, fun q => absurd ⟨q.1, q.2.1⟩ h⟩

theorem live_new : live (addG g cn lv xs mb) g.nx = true := by
  rw [live_iff]
  refine ⟨by omega, ?_, up_same _ _ _⟩
  show (g.nx : Int) < ((g.nx + 1 : Nat) : Int)
  omega

theorem live_no : live g g.nx = false := by
  rw [Bool.eq_false_iff, ne_eq, live_iff]
  omega

theorem liveN_add : liveN (addG g cn lv xs mb) = liveN g + 1 := by
  simp only [liveN, addG]
  rw [List.range_succ, List.filter_append, List.length_append]
  have h1 : (List.range g.nx).filter (fun i => !up g.gn g.nx false i) = (List.range g.nx).filter (fun i => !g.gn i) := by
    apply List.filter_congr
    intro i hi
    rw [up_ne _ _ (by have := List.mem_range.1 hi; omega)]
  rw [h1]
  simp [up_same]

theorem MapAt.add {D : DataW (Option Addr)} (m : MapAt w g mb D) (h : w'.ownsMap Tryz.prog 3 ptrElem mb (g.nx + 1) (D.put (.int .i64 g.nx) (.held (some ⟨cn, 0, none⟩)))) :
    MapAt w' (addG g cn lv xs mb) mb (D.put (.int .i64 g.nx) (.held (some ⟨cn, 0, none⟩))) := by
  refine ⟨h, fun x => ?_, fun x => ?_, ?_⟩
  · by_cases e : x = g.nx
    · subst e
      rw [atKey_put_same m.own.isMap (by trivial), live_new]
      simp [addG, up_same]
    · rw [atKey_put_other (by simpa using e), m.val x, live_add x e]
      by_cases hl : live g x = true
      · have : x.toNat ≠ g.nx := by
          simp only [live, Bool.and_eq_true, decide_eq_true_eq] at hl
          omega
        simp only [addG, hl, if_true]
        rw [up_ne _ _ this]
      · rw [if_neg hl, if_neg hl]
  · by_cases e : x = g.nx
    · subst e
      rw [has_put_same m.own.isMap (by trivial), live_new]
    · rw [has_put_other (by simpa using e), m.has x, live_add x e]
  · rw [size_put (m.own.tidy law3), m.has, live_no, m.size, liveN_add]
    rfl

theorem Lst.add {D : DataW (Option Addr)} (l : Lst k w g) (gr : w.grownBy w' (some mb)) {es : Array MapEntry} {clock : Nat} (hmb : w.heap[mb]? = some (Obj.map es clock))
    (hc : w.heap[cn]? = some (.cells #[.int .i64 g.nx, lv, .int .i64 (-1), .int .i64 (-1), .int .i64 0, .bool false] 57 (0, 0))) (hf : ∀ i, i < g.nx → g.cb i ≠ cn) (hl : LitRow w lv xs) (hlo : k.B ≤ cn ∧ k.B ≤ mb)
    (hm : MapAt w' (addG g cn lv xs mb) mb D) : Lst k w' (addG g cn lv xs mb) := by
  have key : ∀ j T, Typ w j T → w'.heap[j]? = w.heap[j]? := fun j T ⟨c, f, t⟩ => gr.block j (blk_lt t) (fun e => by
    rw [Option.some.inj e, hmb] at t; cases t)
  refine ⟨l.hn, fun i hi => ?_, fun i j hi hj e => ?_, fun s hs => ?_, fun s hs i hi => ?_, l.ne, fun i hi hgi => ?_, .inr ⟨mb, D, rfl, hm⟩, fun i hi => ?_, l.lo.p, fun mb' e => by cases e; exact hlo.2⟩
  · change i < g.nx + 1 at hi
    by_cases e : i = g.nx
    · subst e
      simp only [addG, clc, up_same]
      rw [key _ 57 ⟨_, _, hc⟩, hc]
      rfl
    · have h := l.cl i (by omega)
      simp only [addG, clc, up_ne _ _ e]
      rw [key _ 57 ⟨_, _, h⟩, h, clc]
  · change i < g.nx + 1 at hi
    change j < g.nx + 1 at hj
    simp only [addG] at e
    by_cases e1 : i = g.nx <;> by_cases e2 : j = g.nx
    · omega
    · subst e1
      rw [up_same, up_ne _ _ e2] at e
      exact absurd e.symm (hf j (by omega))
    · subst e2
      rw [up_same, up_ne _ _ e1] at e
      exact absurd e (hf i (by omega))
    · rw [up_ne _ _ e1, up_ne _ _ e2] at e
      exact l.inj i j (by omega) (by omega) e
  · refine PRow.as (cb := g.cb) ((l.rw s hs).same (fun j c f e _ => key j 53 ⟨_, _, e⟩)) (fun i hi => ?_)
    exact up_ne _ _ (by have := l.sub s hs i hi; omega)
  · have := l.sub s hs i hi
    show i < g.nx + 1
    omega
  · change i < g.nx + 1 at hi
    simp only [addG] at hgi ⊢
    by_cases e : i = g.nx
    · subst e
      rw [up_same, up_same]
      exact hl.same (fun j _ _ t => key j 3 t)
    · rw [up_ne _ _ e, up_ne _ _ e]
      rw [up_ne _ _ e] at hgi
      exact (l.li i (by omega) hgi).same (fun j _ _ t => key j 3 t)
  · change i < g.nx + 1 at hi
    simp only [addG]
    by_cases e : i = g.nx
    · subst e; rw [up_same]; exact hlo.1
    · rw [up_ne _ _ e]; exact l.lo.c i (by omega)

theorem Inv.add {n : Nat} {H : List Int} {d : Nat} {X : Nat → Prop} (iv : Inv n g H (fun _ => d) X) (hx : ∀ x ∈ xs, 0 ≤ x ∧ x < 2 * n) (hs : ∀ s, s ≤ 3 * n → ∀ i ∈ g.P s, i < g.nx) : Inv n (addG g cn lv xs mb) H (fun _ => d) (fun i => X i ∨ i = g.nx) := by
  refine ⟨fun i hi hgi => ?_, fun i hi hgi => ?_, fun i hi hgi => ?_, fun l hl i hi hgi => ?_, iv.nd, iv.pl, fun i hi hgi => ?_⟩
  · change i < g.nx + 1 at hi
    simp only [addG] at hgi ⊢
    by_cases e : i = g.nx
    · subst e; rw [up_same]; exact hx
    · rw [up_ne _ _ e]; rw [up_ne _ _ e] at hgi; exact iv.rg i (by omega) hgi
  · change i < g.nx + 1 at hi
    simp only [addG] at hgi ⊢
    by_cases e : i = g.nx
    · subst e; rw [up_same, up_same]
      cases xs with
      | nil => exact .inr rfl
      | cons y ys => exact .inl (by simp)
    · rw [up_ne _ _ e, up_ne _ _ e]; rw [up_ne _ _ e] at hgi; exact iv.fr i (by omega) hgi
  · change i < g.nx + 1 at hi
    by_cases e : i = g.nx
    · subst e; exact .inl ⟨up_same _ _ _, up_same _ _ _⟩
    · have hgi' : g.gn i = false := by rw [← up_ne g.gn false e]; exact hgi
      have h := iv.wt i (by omega) hgi'
      unfold WtOk at h ⊢
      simp only [addG, up_ne _ _ e]
      exact h
  · have hin := hs l (by omega) i hi
    have e : i ≠ g.nx := by omega
    have hgi' : g.gn i = false := by rw [← up_ne g.gn false e]; exact hgi
    have h := iv.sd l hl i hi hgi'
    simp only [addG, up_ne _ _ e]
    exact h
  · change i < g.nx + 1 at hi
    by_cases e : i = g.nx
    · exact .inl (.inr e)
    · have hgi' : g.gn i = false := by rw [← up_ne g.gn false e]; exact hgi
      rcases iv.ok i (by omega) hgi' with h | h
      · exact .inl (.inl h)
      · refine .inr ?_
        exact h.as (up_ne _ _ e) (up_ne _ _ e) (up_ne _ _ e) (fun v hv => hv)

theorem Rs.add {L : List E} (h : Rs g L) : Rs (addG g cn lv xs mb) L := by
  intro q e he hr
  obtain ⟨c, h1, h2, h3, h4, h5⟩ := h q e he hr
  have hne : c ≠ g.nx := by omega
  refine ⟨c, h1, ?_, ?_, ?_⟩
  · show c < g.nx + 1; omega
  · simp only [addG]; rw [up_ne _ _ hne]; exact h3
  · simp only [addG]; rw [up_ne _ _ hne]; exact ⟨h4, h5⟩
end

/-- What Add has made. -/
structure AddD (n : Nat) (g g' : G) (xs : List Int) : Prop where
  nx : g'.nx = g.nx + 1
  lt : g'.lt = up g.lt g.nx xs
  gn : g'.gn = up g.gn g.nx false
  su : tot n g' = tot n g + 1
  rm : g'.rm = g.rm

end Go.Proofs.YtikdmgemhfmipaaGreat
