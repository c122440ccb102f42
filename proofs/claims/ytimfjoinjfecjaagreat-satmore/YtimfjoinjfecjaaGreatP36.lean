/-
  What a solver keeps between two rounds of its search.
-/
import Derived.Test.YtimfjoinjfecjaaGreatP17
import Derived.Test.YtimfjoinjfecjaaGreatP33
import Derived.Test.YtimfjoinjfecjaaGreatP34
import Derived.Test.YtimfjoinjfecjaaGreatP35

namespace Go.Proofs.YtimfjoinjfecjaaGreat
open Go.RowKit Go.Maps
set_option linter.unusedVariables false

/-- All literals of one are those of the other. -/
def Sames (c d : List Int) : Prop := ∀ x, x ∈ c ↔ x ∈ d

/-- What is learned. -/
structure Lc (n : Nat) (H : List (List Int)) (c : List Int) : Prop where
  st : U.Stp H c
  ne : c ≠ []
  nt : ∀ y ∈ c, U.notF y ∉ c
  nn : ∀ y ∈ c, 0 ≤ y ∧ y < 2 * (n : Int)
  ln : c.length ≤ n + 1

/-- Each variable of the clauses is assigned, or waits. -/
def Wts (l : List (List Int)) (s : SS) : Prop := ∀ c ∈ l, ∀ x ∈ c, Od.wt s.W (vl x : Nat) = true ∨ (atF s.L (vl x : Nat)).isSome = true

structure Iv (al : Bool) (n : Nat) (l : List (List Int)) (s : SS) (g : G) : Prop where
  nx : g.nx = l.length + s.prf.length
  lt : ∀ i, i < g.nx → (l ++ s.prf)[i]? = some (g.lt i)
  cn : s.cls.length = g.nx
  cl : ∀ i, i < g.nx → g.gn i = false → s.cls[i]? = some (g.lt i)
  og : ∀ i, i < l.length → g.gn i = false
  nn : ∀ c ∈ l ++ s.prf, ∀ y ∈ c, 0 ≤ y ∧ y < 2 * (n : Int)
  cf : s.cf = s.prf.length
  fs : s.fs.length = s.prf.length
  ns : g.rm + s.ns.length ≤ s.prf.length
  wg : s.wg ≤ 17179869184
  rd : s.rd ≤ s.en
  dc : Dc s.L
  r1 : ∀ e ∈ s.L, -1 ≤ e.r
  wt : Wts l s
  cz : ∀ v, v < s.lev → Closed g (pre s.L v)
  ok : ∀ (i : Nat) (c : List Int), s.prf[i]? = some c → Lc n (l ++ s.prf.take i) c
  ds : ∀ (i j : Nat) (c d : List Int), i < j → l.length ≤ j → (l ++ s.prf)[i]? = some c → (l ++ s.prf)[j]? = some d → g.gn i = false → ¬ Sames c d
  ng : al = true → ∀ i, i < g.nx → g.gn i = false
  lm : 1000 ≤ s.lim
  nu : ∀ x ∈ s.ns, ∃ i : Nat, x = i ∧ l.length ≤ i ∧ i < g.nx ∧ g.gn i = false
  nd : s.ns.Nodup

theorem Closed.sm {g g' : G} {L : List E} (h : Closed g L) (e1 : g'.nx = g.nx) (e2 : g'.gn = g.gn) (e3 : g'.lt = g.lt) : Closed g' L := by
  intro i hi hg
  rw [e1] at hi
  rw [e2] at hg
  rw [e3]
  exact h i hi hg

theorem Dc.take {L : List E} (h : Dc L) (m : Nat) : Dc (L.take m) := by
  intro q e he hr
  have hq := (List.getElem?_eq_some_iff.1 he).1
  simp at hq
  rw [List.getElem?_take_of_lt (by omega)] at he
  obtain ⟨h1, h2⟩ := h q e he hr
  refine ⟨h1, fun q' e' hq' he' => h2 q' e' hq' ?_⟩
  rw [List.getElem?_take_of_lt (by omega)] at he'
  exact he'

theorem back_mem {L : List E} {lev : Nat} {x : Int} {e : E} (h : e ∈ backL L lev x) : e ∈ L := by
  unfold backL at h
  split at h
  · exact List.mem_of_mem_take h
  · exact h

theorem Dc.back {L : List E} (h : Dc L) (lev : Nat) (x : Int) : Dc (backL L lev x) := by
  unfold backL
  split
  · exact h.take _
  · exact h

theorem at_app {L M : List E} {v : Int} (h : (atF L v).isSome = true) : (atF (L ++ M) v).isSome = true := by
  unfold atF at h ⊢
  rw [List.find?_append]
  cases hf : L.find? (fun e => decide ((vr e : Int) = v)) with
  | none => rw [hf] at h; cases h
  | some e => rfl

/-! ### Run -/
section
variable {al : Bool} {k : K} {w : World} {p : V} {n : Nat} {l : List (List Int)} {s : SS} {g g' : G} {L' : List E} {H' : List Int}

theorem Iv.run (iv : Iv al n l s g) (sm : Sm0 g g') (ex : Ext s.L L' s.lev) : Iv al n l (upW s L' s.lev H') g' := by
  obtain ⟨M, rfl, hM⟩ := ex
  refine ⟨by rw [sm.nx]; exact iv.nx, by rw [sm.nx, sm.lt]; exact iv.lt, by rw [sm.nx]; exact iv.cn, by rw [sm.nx, sm.lt, sm.gn]; exact iv.cl, by rw [sm.gn]; exact iv.og, iv.nn, iv.cf, iv.fs, by rw [sm.rm]; exact iv.ns, iv.wg, iv.rd, iv.dc.ext ⟨M, rfl, hM⟩, fun e he => ?_, fun c hc x hx => ?_, fun v hv => ?_, iv.ok, by rw [sm.gn]; exact iv.ds, by rw [sm.nx, sm.gn]; exact iv.ng, iv.lm, by rw [sm.nx, sm.gn]; exact iv.nu, iv.nd⟩
  · rcases List.mem_append.1 he with h | h
    · exact iv.r1 e h
    · have := (hM e h).2; omega
  · rcases iv.wt c hc x hx with h | h
    · exact .inl h
    · exact .inr (at_app h)
  · show Closed g' (pre (s.L ++ M) v)
    rw [pre_app (fun e he => by rw [(hM e he).1]; exact hv)]
    exact (iv.cz v hv).sm sm.nx sm.gn sm.lt

theorem Iv.tl (iv : Iv al n l s g) (rs : Rs g s.L) : Tl s.L (l ++ s.prf) := by
  refine ⟨fun q e he hr => ?_, iv.dc⟩
  obtain ⟨c, c1, c2, c3, c4, c5⟩ := rs q e he hr
  have h := iv.lt c c2
  exact ⟨c, g.lt c, c1, h, c4, fun y hy hne => ⟨(iv.nn _ (List.mem_of_getElem? h) y hy).1, c5 y hy hne⟩⟩

/-- A clause that does not hold has a literal of the level that is. -/
theorem conf_at {L : List E} {v c : Nat} (cz : Closed g (pre L v)) (nd : ND L) (top : ∀ e ∈ L, e.g ≤ v + 1) (hc : c < g.nx) (hg : g.gn c = false) (h3 : ∀ y ∈ g.lt c, valueF L y = -1) : ∃ y ∈ g.lt c, levelF L (vl y : Nat) = (v + 1 : Nat) := by
  refine Classical.byContradiction fun hn => ?_
  have key : ∀ y ∈ g.lt c, valueF (pre L v) y = -1 := fun y hy => by
    obtain ⟨_, y0, q, hq⟩ := val_neg (L := L) (x := y) (by rw [h3 y hy]; omega)
    obtain ⟨e, he, h1⟩ := lits_at.1 hq
    have hy' : y = U.notF e.l := by rw [h1, U.not_not y0]
    have hle : e.g ≤ v := by
      refine Classical.byContradiction fun h => hn ⟨y, hy, ?_⟩
      have := top e (List.mem_of_getElem? he)
      rw [hy', vl_lit, level_of nd he]
      omega
    rw [hy']
    exact (val_pre nd he).1 hle
  rcases cz c hc hg with ⟨x, hx, v1⟩ | ⟨x, hx, y, hy, hne, v1, v2⟩
  · have := key x hx; omega
  · have := key x hx; omega

/-! ### What is learned -/
/-- All that is known where something is learned. -/
structure Tau (n : Nat) (l : List (List Int)) (s : SS) (g : G) (x : Nat) (s1 : PS) : Prop where
  met : ∀ v ∈ s1.met, v < n
  lf : ∀ es : List Int, es.Perm s1.oth → Fall s.L es → ∃ b, Lf n s.L s.lev (l ++ s.prf) x es b ∧ es.length ≤ n

theorem Iv.teach (iv : Iv al n l s g) (t : Trl k w s.L s.lev p) (hk : k.n = n) (rs : Rs g s.L) (hl1 : 1 ≤ s.lev) {c : Nat} (hc : c < g.nx) (hg : g.gn c = false) (h3 : ∀ y ∈ g.lt c, valueF s.L y = -1) :
    ∃ x s1, learnP s.L s.lev s.cls c = some (x, s1) ∧ Tau n l s g x s1 := by
  have tl := iv.tl rs
  obtain ⟨v, hv⟩ : ∃ v, s.lev = v + 1 := ⟨s.lev - 1, by omega⟩
  have hx := conf_at (iv.cz v (by omega)) t.nd (fun e he => by rw [← hv]; exact t.mono.2 e he) hc hg h3
  rw [← hv] at hx
  obtain ⟨x, s1, h1, h2⟩ := learn_facts t tl hl1 (iv.lt c hc) h3 hx
  have wf := learn_wf (n := n) (fun e he => by rw [← hk]; exact t.lits_lt e he) h1
  have e1 : learnP s.L s.lev s.cls c = learnP s.L s.lev (l ++ s.prf) c := by
    refine learn_congr (fun u hu => ?_) ?_
    · cases ha : atF s.L u with
      | none => unfold levelF at hu; rw [ha] at hu; simp only at hu; omega
      | some e =>
        unfold levelF at hu
        rw [ha] at hu
        simp only at hu
        have hm := (at_some ha).1
        have hr : reasonF s.L u = e.r := by unfold reasonF; rw [ha]
        rw [hr]
        unfold clF
        by_cases hr0 : e.r < 0
        · rw [if_pos hr0, if_pos hr0]
        · rw [if_neg hr0, if_neg hr0]
          obtain ⟨q, hq⟩ := List.mem_iff_getElem?.1 hm
          obtain ⟨c', c1, c2, c3, _⟩ := rs q e hq (by omega)
          rw [c1, Int.toNat_natCast, iv.lt c' c2, iv.cl c' c2 (c3 (by omega))]
    · unfold clF
      rw [if_neg (by omega), if_neg (by omega), Int.toNat_natCast, iv.lt c hc, iv.cl c hc hg]
  refine ⟨x, s1, e1.trans h1, wf.lt, fun es hp hf => ?_⟩
  obtain ⟨b, hb⟩ := h2 es hp hf
  refine ⟨b, by rw [← hk]; exact hb, ?_⟩
  have h4 := hp.length_eq
  have h5 := wf.ol
  have h6 := wf.len
  omega

/-- Reasons are numbers of clauses. -/
theorem Iv.rsn (iv : Iv al n l s g) (rs : Rs g s.L) {c : Nat} (hc : c < g.nx) (met : List Int) : ∀ y ∈ rsnF s.L s.lev c met, -1 ≤ y ∧ y < (l.length : Int) + s.fs.length := by
  have h0 := iv.nx
  have h1 := iv.fs
  intro y hy
  unfold rsnF at hy
  rcases List.mem_cons.1 hy with rfl | hy
  · omega
  · obtain ⟨v, _, rfl⟩ := List.mem_map.1 hy
    unfold reasonF
    cases ha : atF s.L v with
    | none => simp only; omega
    | some e =>
      have hm := (at_some ha).1
      have h2 := iv.r1 e hm
      simp only
      by_cases hr : e.r < 0
      · omega
      · obtain ⟨q, hq⟩ := List.mem_iff_getElem?.1 hm
        obtain ⟨c', c1, c2, _⟩ := rs q e hq (by omega)
        omega
end

theorem hlv_le : ∀ (f : Nat) (A : List Int) (x : Nat), (hlvF f A x).2 ≤ x := by
  intro f
  induction f with
  | zero => intro A x; exact Nat.le_refl _
  | succ f ih =>
    intro A x
    unfold hlvF
    split
    · have := ih (Od.halveF A) (x / 2); omega
    · exact Nat.le_refl _

theorem weigh_wg {s : SS} (h : s.wg ≤ 17179869184) (met : List Int) : (weighF s met).wg ≤ 17179869184 := by
  unfold weighF
  split
  · assumption
  · show (hlvF (s.wg + s.wg / 32) (bumpsF s.A s.wg met) (s.wg + s.wg / 32)).2 ≤ _
    obtain ⟨f, hf⟩ : ∃ f, s.wg + s.wg / 32 = f + 1 := ⟨s.wg + s.wg / 32 - 1, by omega⟩
    rw [hf]
    unfold hlvF
    split
    · have := hlv_le f (Od.halveF (bumpsF s.A s.wg met)) ((f + 1) / 2); omega
    · show f + 1 ≤ _; omega

theorem lrnF_flds (c : SC) (s : SS) (x : Int) (met xs : List Int) (bk : Int) :
    (lrnF c s x met xs bk).L = backL s.L s.lev bk ∧ (lrnF c s x met xs bk).lev = backV s.lev bk ∧ (lrnF c s x met xs bk).cls = s.cls ++ [xs] ∧ (lrnF c s x met xs bk).prf = s.prf ++ [xs] ∧ (lrnF c s x met xs bk).fs.length = s.fs.length + 1 ∧ (lrnF c s x met xs bk).ns = s.ns ++ [((c.fst + s.fs.length : Nat) : Int)] ∧ (lrnF c s x met xs bk).cf = s.cf + 1 ∧ (lrnF c s x met xs bk).rd = s.rd ∧ (lrnF c s x met xs bk).en = s.en ∧ (lrnF c s x met xs bk).lim = s.lim ∧ (lrnF c s x met xs bk).W = pushvF c.kw.n s.W (backG s.L s.lev bk) ∧ (s.wg ≤ 17179869184 → (lrnF c s x met xs bk).wg ≤ 17179869184) := by
  obtain ⟨a1, a2, a3, a4, a5, a6, a7, a8, a9, a10, a11, a12, a13⟩ := weigh_flds (s.ct (s.cf + 1)) met
  refine ⟨?_, ?_, ?_, ?_, ?_, ?_, a5, a9, a10, a11, ?_, fun h => weigh_wg (s := s.ct (s.cf + 1)) h met⟩
  · show backL (weighF (s.ct (s.cf + 1)) met).L (weighF (s.ct (s.cf + 1)) met).lev bk = _
    rw [a1, a2]; rfl
  · show backV (weighF (s.ct (s.cf + 1)) met).lev bk = _
    rw [a2]; rfl
  · show (weighF (s.ct (s.cf + 1)) met).cls ++ [xs] = _
    rw [a6]; rfl
  · show (weighF (s.ct (s.cf + 1)) met).prf ++ [xs] = _
    rw [a7]; rfl
  · show (usesF c.fst ((s.cf + 1 : Nat) : Int) (weighF (s.ct (s.cf + 1)) met).fs (rsnF s.L s.lev x met) ++ [_]).length = _
    rw [List.length_append, uses_len, a3]; rfl
  · show (weighF (s.ct (s.cf + 1)) met).ns ++ [((c.fst + (usesF c.fst ((s.cf + 1 : Nat) : Int) (weighF (s.ct (s.cf + 1)) met).fs (rsnF s.L s.lev x met)).length : Nat) : Int)] = _
    rw [a4, uses_len, a3]; rfl
  · show pushvF c.kw.n (weighF (s.ct (s.cf + 1)) met).W (backG (weighF (s.ct (s.cf + 1)) met).L (weighF (s.ct (s.cf + 1)) met).lev bk) = _
    rw [a13, a1, a2]; rfl

/-! ### Who waits -/
theorem push_len (n : Nat) (W : List Bool) (v : Int) : (Od.pushW n W v).length = W.length := by
  unfold Od.pushW; split
  · rw [List.length_set]
  · rfl

theorem push_wt {n : Nat} {W : List Bool} (hW : W.length = n) (v : Int) (u : Nat) (h : Od.wt W u = true ∨ (v = u ∧ u < n)) : Od.wt (Od.pushW n W v) u = true := by
  unfold Od.pushW
  cases e : Od.pushA n W v with
  | false =>
    rw [if_neg (by decide)]
    rcases h with h | ⟨rfl, h⟩
    · exact h
    · unfold Od.pushA at e
      rw [Od.isF_nat h] at e
      simpa using e
  | true =>
    rw [if_pos rfl]
    unfold Od.pushA at e
    rw [Bool.and_eq_true] at e
    obtain ⟨y, rfl, hy⟩ := Od.isF_yes e.1
    rw [Int.toNat_natCast, Od.wt_set (by omega)]
    split
    · rfl
    · rcases h with h | ⟨h, _⟩
      · exact h
      · omega

theorem pushv_wt {n : Nat} : ∀ (vs : List Int) (W : List Bool), W.length = n → ∀ u : Nat, (Od.wt W u = true ∨ ((u : Int) ∈ vs ∧ u < n)) → Od.wt (pushvF n W vs) u = true := by
  intro vs
  induction vs with
  | nil => intro W _ u h; rcases h with h | h; exact h; simp at h
  | cons v vs ih =>
    intro W hW u h
    show Od.wt (pushvF n (Od.pushW n W v) vs) u = true
    refine ih _ (by rw [push_len]; exact hW) u ?_
    rcases h with h | ⟨h, hu⟩
    · exact .inl (push_wt hW v u (.inl h))
    · rcases List.mem_cons.1 h with h | h
      · exact .inl (push_wt hW v u (.inr ⟨h.symm, hu⟩))
      · exact .inr ⟨h, hu⟩

/-- Behind a way back each is assigned, or waits. -/
theorem wts_back {k : K} {w : World} {p : V} {n : Nat} {l : List (List Int)} {s s' : SS} (h : Wts l s) (t : Trl k w s.L s.lev p) (hk : k.n = n) (hW : s.W.length = n) {b : Nat} (e1 : s'.L = backL s.L s.lev b) (e2 : s'.W = pushvF n s.W (backG s.L s.lev b)) : Wts l s' := by
  intro c hc x hx
  rw [e1, e2]
  rcases h c hc x hx with h | h
  · exact .inl (pushv_wt _ _ hW _ (.inl h))
  · by_cases hb : b < s.lev
    · obtain ⟨b1, b2, b3⟩ := t.back_pre hb
      rw [b1]
      obtain ⟨e, he⟩ := Option.isSome_iff_exists.1 h
      obtain ⟨hm, hv⟩ := at_some he
      have hv' : vr e = vl x := by omega
      by_cases hg : e.g ≤ b
      · refine .inr ?_
        have : e ∈ pre s.L b := pre_mem.2 ⟨hm, hg⟩
        obtain ⟨q, hq⟩ := List.mem_iff_getElem?.1 this
        rw [← hv', at_of (pre_nd t.nd b) hq]; rfl
      · refine .inl (pushv_wt _ _ hW _ (.inr ⟨?_, ?_⟩))
        · rw [← hv']; exact b3 e hm (by omega)
        · rw [← hv', ← hk]; exact t.lits_lt e hm
    · refine .inr ?_
      have : backL s.L s.lev b = s.L := by
        unfold backL backOk
        rw [if_neg (by simp; omega)]
      rw [this]; exact h

section
variable {al : Bool} {k : K} {w : World} {p : V} {n : Nat} {l : List (List Int)} {s : SS} {g g' : G}

theorem Closed.add {L : List E} {sz : Nat} {xs : List Int} (h : Closed g L) (d : AddD n sz g g' xs) (hn : ∃ x ∈ xs, ∃ y ∈ xs, x ≠ y ∧ valueF L x = 0 ∧ valueF L y = 0) : Closed g' L := by
  intro i hi hg
  rw [d.nx] at hi
  rw [d.gn] at hg
  rw [d.lt]
  by_cases e : i = g.nx
  · subst e; rw [up_same]; exact .inr hn
  · rw [up_ne _ _ e] at hg ⊢
    exact h i (by omega) hg

theorem Iv.learn (iv : Iv al n l s g) (t : Trl k w s.L s.lev p) (hk : k.n = n) (hW : s.W.length = n) {x : Nat} {es : List Int} {b sz : Nat} (lf : Lf n s.L s.lev (l ++ s.prf) x es b) (hes : es.length ≤ n) (c : SC) (hcn : c.kw.n = n) (hfst : c.fst = l.length) (cf : Int) (met : List Int) (d : AddD n sz g g' (U.notF x :: es)) :
    Iv al n l (lrnF c s cf met (U.notF x :: es) b) g' := by
  obtain ⟨f1, f2, f3, f4, f5, f6, f7, f8, f9, f10, f11, f12⟩ := lrnF_flds c s cf met (U.notF x :: es) b
  obtain ⟨b1, b2, b3⟩ := t.back_pre lf.lt
  have h0 := iv.nx
  have h1 := iv.cn
  rw [hcn] at f11
  obtain ⟨jx, ex, hjx, hlx, hgx⟩ := lf.x0
  have nd := t.nd
  have hzero : ∀ v, v < s.lev → valueF (pre s.L v) (U.notF x) = 0 := fun v hv => by
    rw [← hlx]; exact (val_pre nd hjx).2 (by omega)
  have hout : ∀ y ∈ U.notF x :: es, y = U.notF x ∨ valueF (pre s.L (s.lev - 1)) y = -1 := fun y hy => by
    rcases List.mem_cons.1 hy with rfl | hy
    · exact .inl rfl
    · obtain ⟨_, ll, h2, h3, h4⟩ := lf.vs y hy
      obtain ⟨j, e, he, rfl, _⟩ := lf.at_ y (List.mem_cons_of_mem _ hy)
      rw [vl_lit, level_of nd he] at h2
      have := lf.lt
      exact .inr ((val_pre nd he).1 (by omega))
  have hget : ∀ i, i < g.nx → (l ++ (s.prf ++ [U.notF x :: es]))[i]? = (l ++ s.prf)[i]? := fun i hi => by
    rw [← List.append_assoc, List.getElem?_append_left (by rw [List.length_append]; omega)]
  have hlast : (l ++ (s.prf ++ [U.notF x :: es]))[g.nx]? = some (U.notF x :: es) := by
    rw [← List.append_assoc, List.getElem?_append_right (by rw [List.length_append]; omega), List.length_append, h0]; simp
  have hlen : ∀ i y, (l ++ (s.prf ++ [U.notF x :: es]))[i]? = some y → i ≤ g.nx := fun i y h => by
    have := (List.getElem?_eq_some_iff.1 h).1
    simp at this; omega
  refine ⟨by rw [f4, d.nx, h0]; simp; omega, fun i hi => ?_, by rw [f3, d.nx]; simp; omega, fun i hi hg => ?_, fun i hi => ?_, fun c hc y hy => ?_, by rw [f7, f4, iv.cf]; simp, by rw [f5, f4, iv.fs]; simp, by rw [f6, f4, d.rm]; have := iv.ns; simp; omega, f12 iv.wg, by rw [f8, f9]; exact iv.rd, by rw [f1]; exact iv.dc.back _ _, fun e he => iv.r1 e (back_mem (by rw [← f1]; exact he)), wts_back iv.wt t hk hW f1 f11, fun v hv => ?_, fun i c hc => ?_, fun i j c e hij hj hi hj2 hg => ?_, fun ha i hi => ?_, by rw [f10]; exact iv.lm, fun y hy => ?_, ?_⟩
  · rw [f4, d.lt]
    rw [d.nx] at hi
    by_cases e : i = g.nx
    · subst e; rw [up_same]; exact hlast
    · rw [up_ne _ _ e, hget i (by omega)]; exact iv.lt i (by omega)
  · rw [f3, d.lt]
    rw [d.nx] at hi
    rw [d.gn] at hg
    by_cases e : i = g.nx
    · subst e; rw [up_same, List.getElem?_append_right (by omega), h1]; simp
    · rw [up_ne _ _ e] at hg ⊢
      rw [List.getElem?_append_left (by omega)]; exact iv.cl i (by omega) hg
  · rw [d.gn, up_ne _ _ (by omega)]; exact iv.og i hi
  · rw [f4, ← List.append_assoc] at hc
    rcases List.mem_append.1 hc with hc | hc
    · exact iv.nn c hc y hy
    · rw [List.mem_singleton] at hc; subst hc; exact lf.nn y hy
  · rw [f2, b2] at hv
    rw [f1, b1, pre_pre (by omega)]
    have hlt := lf.lt
    refine (iv.cz v (by omega)).add d ?_
    rcases lf.e0 with e | ⟨y, hy, j, e, he, rfl, hg⟩
    · have h2 := lf.bk
      rw [e] at h2
      have : (0 : Int) = b := h2
      omega
    · refine ⟨_, List.mem_cons_self, _, List.mem_cons_of_mem _ hy, fun hne => ?_, hzero v (by omega), (val_pre nd he).2 (by omega)⟩
      have h3 := lf.l0
      rw [hne, vl_lit, level_of nd he] at h3
      omega
  · rw [f4] at hc
    by_cases hi : i < s.prf.length
    · rw [List.getElem?_append_left hi] at hc
      rw [f4, List.take_append_of_le_length (by omega)]
      exact iv.ok i c hc
    · have hi2 := (List.getElem?_eq_some_iff.1 hc).1
      simp at hi2
      obtain rfl : i = s.prf.length := by omega
      rw [List.getElem?_append_right (Nat.le_refl _)] at hc
      simp at hc
      subst hc
      rw [f4, List.take_left' rfl]
      refine ⟨lf.stp, by simp, fun y hy hn => ?_, lf.nn, by simp; omega⟩
      obtain ⟨j, e, he, rfl, _⟩ := lf.at_ y hy
      obtain ⟨j', e', he', h5, _⟩ := lf.at_ _ hn
      rw [U.not_not (by omega)] at h5
      have v1 := val_of nd he'
      rw [← h5] at v1
      have v2 := val_pos nd (lits_at.2 ⟨e, he, rfl⟩)
      omega
  · rw [f4] at hi hj2
    rw [d.gn] at hg
    have hjn := hlen j e hj2
    rw [hget i (by omega)] at hi
    by_cases hjl : j < g.nx
    · rw [hget j hjl] at hj2
      rw [up_ne _ _ (by omega)] at hg
      exact iv.ds i j c e hij hj hi hj2 hg
    · obtain rfl : j = g.nx := by omega
      rw [hlast] at hj2
      cases hj2
      rw [up_ne _ _ (by omega)] at hg
      intro hs
      have hlt := lf.lt
      have hi3 := iv.lt i (by omega)
      rw [hi] at hi3
      cases hi3
      rcases iv.cz (s.lev - 1) (by omega) i (by omega) hg with ⟨y, hy, v1⟩ | ⟨y, hy, z, hz, hne, v1, v2⟩
      · rcases hout y ((hs y).1 hy) with rfl | v3
        · have := hzero (s.lev - 1) (by omega); omega
        · omega
      · rcases hout y ((hs y).1 hy) with rfl | v3
        · rcases hout z ((hs z).1 hz) with rfl | v4
          · exact hne rfl
          · omega
        · omega
  · rw [d.gn]
    rw [d.nx] at hi
    by_cases e : i = g.nx
    · subst e; rw [up_same]
    · rw [up_ne _ _ e]; exact iv.ng ha i (by omega)
  · rw [f6] at hy
    rw [d.nx, d.gn]
    have hfs := iv.fs
    rcases List.mem_append.1 hy with hy | hy
    · obtain ⟨i, e, h2, h3, h4⟩ := iv.nu y hy
      exact ⟨i, e, h2, by omega, by rw [up_ne _ _ (by omega)]; exact h4⟩
    · rw [List.mem_singleton] at hy
      exact ⟨g.nx, by rw [hy]; omega, by omega, by omega, up_same _ _ _⟩
  · rw [f6, List.nodup_append]
    refine ⟨iv.nd, by simp, fun y hy z hz => ?_⟩
    rw [List.mem_singleton] at hz
    obtain ⟨i, e, h2, h3, h4⟩ := iv.nu y hy
    have hfs := iv.fs
    omega
end
end Go.Proofs.YtimfjoinjfecjaaGreat
