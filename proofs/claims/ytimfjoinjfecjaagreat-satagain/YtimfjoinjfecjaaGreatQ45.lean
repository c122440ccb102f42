/-
  What a solver keeps between two rounds of its search.
  What a solver keeps: a new round, a decision, the beginning, an answer.
  search: what is told of clauses.
  search: the walk.
-/
import Derived.Test.YtimfjoinjfecjaaGreatQ39
import Derived.Test.YtimfjoinjfecjaaGreatQ42
import Derived.Test.YtimfjoinjfecjaaGreatQ44
import Derived.Test.YtimfjoinjfecjaaGreatQ43
import Derived.Test.YtimfjoinjfecjaaGreatQ37

namespace Go.Proofs.YtimfjoinjfecjaaGreat
open Go.RowKit Go.Maps
set_option linter.unusedVariables false

/-- All literals of one are those of the other. -/
def Sames (c d : List Int) : Prop := ∀ x, x ∈ c ↔ x ∈ d

/-- What is learned. -/
structure Lc (n : Nat) (H : List (List Int)) (c : List Int) : Prop where
  st : U.Stp H c
  ne : c ≠ []
  nt : ∀ y ∈ c, U.notF y ∉ c
  nn : ∀ y ∈ c, 0 ≤ y ∧ y < 2 * (n : Int)
  ln : c.length ≤ n + 1

/-- Each variable of the clauses is assigned, or waits. -/
def Wts (l : List (List Int)) (s : SS) : Prop := ∀ c ∈ l, ∀ x ∈ c, Od.wt s.W (vl x : Nat) = true ∨ (atF s.L (vl x : Nat)).isSome = true

structure Iv (al : Bool) (n : Nat) (l : List (List Int)) (s : SS) (g : G) : Prop where
  nx : g.nx = l.length + s.prf.length
  lt : ∀ i, i < g.nx → (l ++ s.prf)[i]? = some (g.lt i)
  cn : s.cls.length = g.nx
  cl : ∀ i, i < g.nx → g.gn i = false → s.cls[i]? = some (g.lt i)
  og : ∀ i, i < l.length → g.gn i = false
  nn : ∀ c ∈ l ++ s.prf, ∀ y ∈ c, 0 ≤ y ∧ y < 2 * (n : Int)
  cf : s.cf = s.prf.length
  fs : s.fs.length = s.prf.length
  ns : g.rm + s.ns.length ≤ s.prf.length
  wg : s.wg ≤ 17179869184
  rd : s.rd ≤ s.en
  dc : Dc s.L
  r1 : ∀ e ∈ s.L, -1 ≤ e.r
  wt : Wts l s
  cz : ∀ v, v < s.lev → Closed g (pre s.L v)
  ok : ∀ (i : Nat) (c : List Int), s.prf[i]? = some c → Lc n (l ++ s.prf.take i) c
  ds : ∀ (i j : Nat) (c d : List Int), i < j → l.length ≤ j → (l ++ s.prf)[i]? = some c → (l ++ s.prf)[j]? = some d → g.gn i = false → ¬ Sames c d
  ng : al = true → ∀ i, i < g.nx → g.gn i = false
  lm : 1000 ≤ s.lim
  nu : ∀ x ∈ s.ns, ∃ i : Nat, x = i ∧ l.length ≤ i ∧ i < g.nx ∧ g.gn i = false
  nd : s.ns.Nodup

theorem Closed.sm {g g' : G} {L : List E} (h : Closed g L) (e1 : g'.nx = g.nx) (e2 : g'.gn = g.gn) (e3 : g'.lt = g.lt) : Closed g' L := by
  intro i hi hg
  rw [e1] at hi
  rw [e2] at hg
  rw [e3]
  exact h i hi hg

theorem Dc.take {L : List E} (h : Dc L) (m : Nat) : Dc (L.take m) := by
  intro q e he hr
  have hq := (List.getElem?_eq_some_iff.1 he).1
  simp at hq
  rw [List.getElem?_take_of_lt (by omega)] at he
  obtain ⟨h1, h2⟩ := h q e he hr
  refine ⟨h1, fun q' e' hq' he' => h2 q' e' hq' ?_⟩
  rw [List.getElem?_take_of_lt (by omega)] at he'
  exact he'

theorem back_mem {L : List E} {lev : Nat} {x : Int} {e : E} (h : e ∈ backL L lev x) : e ∈ L := by
  unfold backL at h
  split at h
  · exact List.mem_of_mem_take h
  · exact h

theorem Dc.back {L : List E} (h : Dc L) (lev : Nat) (x : Int) : Dc (backL L lev x) := by
  unfold backL
  split
  · exact h.take _
  · exact h

theorem at_app {L M : List E} {v : Int} (h : (atF L v).isSome = true) : (atF (L ++ M) v).isSome = true := by
  unfold atF at h ⊢
  rw [List.find?_append]
  cases hf : L.find? (fun e => decide ((vr e : Int) = v)) with
  | none => rw [hf] at h; cases h
  | some e => rfl

/-! ### Run -/
section
variable {al : Bool} {k : K} {w : World} {p : V} {n : Nat} {l : List (List Int)} {s : SS} {g g' : G} {L' : List E} {H' : List Int}

theorem Iv.run (iv : Iv al n l s g) (sm : Sm0 g g') (ex : Ext s.L L' s.lev) : Iv al n l (upW s L' s.lev H') g' := by
  obtain ⟨M, rfl, hM⟩ := ex
  refine ⟨by rw [sm.nx]; exact iv.nx, by rw [sm.nx, sm.lt]; exact iv.lt, by rw [sm.nx]; exact iv.cn, by rw [sm.nx, sm.lt, sm.gn]; exact iv.cl, by rw [sm.gn]; exact iv.og, iv.nn, iv.cf, iv.fs, by rw [sm.rm]; exact iv.ns, iv.wg, iv.rd, iv.dc.ext ⟨M, rfl, hM⟩, fun e he => ?_, fun c hc x hx => ?_, fun v hv => ?_, iv.ok, by rw [sm.gn]; exact iv.ds, by rw [sm.nx, sm.gn]; exact iv.ng, iv.lm, by rw [sm.nx, sm.gn]; exact iv.nu, iv.nd⟩
  · rcases List.mem_append.1 he with h | h
    · exact iv.r1 e h
    · have := (hM e h).2; omega
  · rcases iv.wt c hc x hx with h | h
    · exact .inl h
    · exact .inr (at_app h)
  · show Closed g' (pre (s.L ++ M) v)
    rw [pre_app (fun e he => by rw [(hM e he).1]; exact hv)]
    exact (iv.cz v hv).sm sm.nx sm.gn sm.lt

theorem Iv.tl (iv : Iv al n l s g) (rs : Rs g s.L) : Tl s.L (l ++ s.prf) := by
  refine ⟨fun q e he hr => ?_, iv.dc⟩
  obtain ⟨c, c1, c2, c3, c4, c5⟩ := rs q e he hr
  have h := iv.lt c c2
  exact ⟨c, g.lt c, c1, h, c4, fun y hy hne => ⟨(iv.nn _ (List.mem_of_getElem? h) y hy).1, c5 y hy hne⟩⟩

/-- A clause that does not hold has a literal of the level that is. -/
theorem conf_at {L : List E} {v c : Nat} (cz : Closed g (pre L v)) (nd : ND L) (top : ∀ e ∈ L, e.g ≤ v + 1) (hc : c < g.nx) (hg : g.gn c = false) (h3 : ∀ y ∈ g.lt c, valueF L y = -1) : ∃ y ∈ g.lt c, levelF L (vl y : Nat) = (v + 1 : Nat) := by
  refine Classical.byContradiction fun hn => ?_
  have key : ∀ y ∈ g.lt c, valueF (pre L v) y = -1 := fun y hy => by
    obtain ⟨_, y0, q, hq⟩ := val_neg (L := L) (x := y) (by rw [h3 y hy]; omega)
    obtain ⟨e, he, h1⟩ := lits_at.1 hq
    have hy' : y = U.notF e.l := by rw [h1, U.not_not y0]
    have hle : e.g ≤ v := by
      refine Classical.byContradiction fun h => hn ⟨y, hy, ?_⟩
      have := top e (List.mem_of_getElem? he)
      rw [hy', vl_lit, level_of nd he]
      omega
    rw [hy']
    exact (val_pre nd he).1 hle
  rcases cz c hc hg with ⟨x, hx, v1⟩ | ⟨x, hx, y, hy, hne, v1, v2⟩
  · have := key x hx; omega
  · have := key x hx; omega

/-! ### What is learned -/
/-- All that is known where something is learned. -/
structure Tau (n : Nat) (l : List (List Int)) (s : SS) (g : G) (x : Nat) (s1 : PS) : Prop where
  met : ∀ v ∈ s1.met, v < n
  lf : ∀ es : List Int, es.Perm s1.oth → Fall s.L es → ∃ b, Lf n s.L s.lev (l ++ s.prf) x es b ∧ es.length ≤ n

theorem Iv.teach (iv : Iv al n l s g) (t : Trl k w s.L s.lev p) (hk : k.n = n) (rs : Rs g s.L) (hl1 : 1 ≤ s.lev) {c : Nat} (hc : c < g.nx) (hg : g.gn c = false) (h3 : ∀ y ∈ g.lt c, valueF s.L y = -1) :
    ∃ x s1, learnP s.L s.lev s.cls c = some (x, s1) ∧ Tau n l s g x s1 := by
  have tl := iv.tl rs
  obtain ⟨v, hv⟩ : ∃ v, s.lev = v + 1 := ⟨s.lev - 1, by omega⟩
  have hx := conf_at (iv.cz v (by omega)) t.nd (fun e he => by rw [← hv]; exact t.mono.2 e he) hc hg h3
  rw [← hv] at hx
  obtain ⟨x, s1, h1, h2⟩ := learn_facts t tl hl1 (iv.lt c hc) h3 hx
  have wf := learn_wf (n := n) (fun e he => by rw [← hk]; exact t.lits_lt e he) h1
  have e1 : learnP s.L s.lev s.cls c = learnP s.L s.lev (l ++ s.prf) c := by
    refine learn_congr (fun u hu => ?_) ?_
    · cases ha : atF s.L u with
      | none => unfold levelF at hu; rw [ha] at hu; simp only at hu; omega
      | some e =>
        unfold levelF at hu
        rw [ha] at hu
        simp only at hu
        have hm := (at_some ha).1
        have hr : reasonF s.L u = e.r := by unfold reasonF; rw [ha]
        rw [hr]
        unfold clF
        by_cases hr0 : e.r < 0
        · rw [if_pos hr0, if_pos hr0]
        · rw [if_neg hr0, if_neg hr0]
          obtain ⟨q, hq⟩ := List.mem_iff_getElem?.1 hm
          obtain ⟨c', c1, c2, c3, _⟩ := rs q e hq (by omega)
          rw [c1, Int.toNat_natCast, iv.lt c' c2, iv.cl c' c2 (c3 (by omega))]
    · unfold clF
      rw [if_neg (by omega), if_neg (by omega), Int.toNat_natCast, iv.lt c hc, iv.cl c hc hg]
  refine ⟨x, s1, e1.trans h1, wf.lt, fun es hp hf => ?_⟩
  obtain ⟨b, hb⟩ := h2 es hp hf
  refine ⟨b, by rw [← hk]; exact hb, ?_⟩
  have h4 := hp.length_eq
  have h5 := wf.ol
  have h6 := wf.len
  omega

/-- Reasons are numbers of clauses. -/
theorem Iv.rsn (iv : Iv al n l s g) (rs : Rs g s.L) {c : Nat} (hc : c < g.nx) (met : List Int) : ∀ y ∈ rsnF s.L s.lev c met, -1 ≤ y ∧ y < (l.length : Int) + s.fs.length := by
  have h0 := iv.nx
  have h1 := iv.fs
  intro y hy
  unfold rsnF at hy
  rcases List.mem_cons.1 hy with rfl | hy
  · omega
  · obtain ⟨v, _, rfl⟩ := List.mem_map.1 hy
    unfold reasonF
    cases ha : atF s.L v with
    | none => simp only; omega
    | some e =>
      have hm := (at_some ha).1
      have h2 := iv.r1 e hm
      simp only
      by_cases hr : e.r < 0
      · omega
      · obtain ⟨q, hq⟩ := List.mem_iff_getElem?.1 hm
        obtain ⟨c', c1, c2, _⟩ := rs q e hq (by omega)
        omega
end

theorem hlv_le : ∀ (f : Nat) (A : List Int) (x : Nat), (hlvF f A x).2 ≤ x := by
  intro f
  induction f with
  | zero => intro A x; exact Nat.le_refl _
  | succ f ih =>
    intro A x
    unfold hlvF
    split
    · have := ih (Od.halveF A) (x / 2); omega
    · exact Nat.le_refl _

theorem weigh_wg {s : SS} (h : s.wg ≤ 17179869184) (met : List Int) : (weighF s met).wg ≤ 17179869184 := by
  unfold weighF
  split
  · assumption
  · show (hlvF (s.wg + s.wg / 32) (bumpsF s.A s.wg met) (s.wg + s.wg / 32)).2 ≤ _
    obtain ⟨f, hf⟩ : ∃ f, s.wg + s.wg / 32 = f + 1 := ⟨s.wg + s.wg / 32 - 1, by omega⟩
    rw [hf]
    unfold hlvF
    split
    · have := hlv_le f (Od.halveF (bumpsF s.A s.wg met)) ((f + 1) / 2); omega
    · show f + 1 ≤ _; omega

theorem lrnF_flds (c : SC) (s : SS) (x : Int) (met xs : List Int) (bk : Int) :
    (lrnF c s x met xs bk).L = backL s.L s.lev bk ∧ (lrnF c s x met xs bk).lev = backV s.lev bk ∧ (lrnF c s x met xs bk).cls = s.cls ++ [xs] ∧ (lrnF c s x met xs bk).prf = s.prf ++ [xs] ∧ (lrnF c s x met xs bk).fs.length = s.fs.length + 1 ∧ (lrnF c s x met xs bk).ns = s.ns ++ [((c.fst + s.fs.length : Nat) : Int)] ∧ (lrnF c s x met xs bk).cf = s.cf + 1 ∧ (lrnF c s x met xs bk).rd = s.rd ∧ (lrnF c s x met xs bk).en = s.en ∧ (lrnF c s x met xs bk).lim = s.lim ∧ (lrnF c s x met xs bk).W = pushvF c.kw.n s.W (backG s.L s.lev bk) ∧ (s.wg ≤ 17179869184 → (lrnF c s x met xs bk).wg ≤ 17179869184) := by
  obtain ⟨a1, a2, a3, a4, a5, a6, a7, a8, a9, a10, a11, a12, a13⟩ := weigh_flds (s.ct (s.cf + 1)) met
  refine ⟨?_, ?_, ?_, ?_, ?_, ?_, a5, a9, a10, a11, ?_, fun h => weigh_wg (s := s.ct (s.cf + 1)) h met⟩
  · show backL (weighF (s.ct (s.cf + 1)) met).L (weighF (s.ct (s.cf + 1)) met).lev bk = _
    rw [a1, a2]; rfl
  · show backV (weighF (s.ct (s.cf + 1)) met).lev bk = _
    rw [a2]; rfl
  · show (weighF (s.ct (s.cf + 1)) met).cls ++ [xs] = _
    rw [a6]; rfl
  · show (weighF (s.ct (s.cf + 1)) met).prf ++ [xs] = _
    rw [a7]; rfl
  · show (usesF c.fst ((s.cf + 1 : Nat) : Int) (weighF (s.ct (s.cf + 1)) met).fs (rsnF s.L s.lev x met) ++ [_]).length = _
    rw [List.length_append, uses_len, a3]; rfl
  · show (weighF (s.ct (s.cf + 1)) met).ns ++ [((c.fst + (usesF c.fst ((s.cf + 1 : Nat) : Int) (weighF (s.ct (s.cf + 1)) met).fs (rsnF s.L s.lev x met)).length : Nat) : Int)] = _
    rw [a4, uses_len, a3]; rfl
  · show pushvF c.kw.n (weighF (s.ct (s.cf + 1)) met).W (backG (weighF (s.ct (s.cf + 1)) met).L (weighF (s.ct (s.cf + 1)) met).lev bk) = _
    rw [a13, a1, a2]; rfl

/-! ### Who waits -/
theorem push_len (n : Nat) (W : List Bool) (v : Int) : (Od.pushW n W v).length = W.length := by
  unfold Od.pushW; split
  · rw [List.length_set]
  · rfl

theorem push_wt {n : Nat} {W : List Bool} (hW : W.length = n) (v : Int) (u : Nat) (h : Od.wt W u = true ∨ (v = u ∧ u < n)) : Od.wt (Od.pushW n W v) u = true := by
  unfold Od.pushW
  cases e : Od.pushA n W v with
  | false =>
    rw [if_neg (by decide)]
    rcases h with h | ⟨rfl, h⟩
    · exact h
    · unfold Od.pushA at e
      rw [Od.isF_nat h] at e
      simpa using e
  | true =>
    rw [if_pos rfl]
    unfold Od.pushA at e
    rw [Bool.and_eq_true] at e
    obtain ⟨y, rfl, hy⟩ := Od.isF_yes e.1
    rw [Int.toNat_natCast, Od.wt_set (by omega)]
    split
    · rfl
    · rcases h with h | ⟨h, _⟩
      · exact h
      · omega

theorem pushv_wt {n : Nat} : ∀ (vs : List Int) (W : List Bool), W.length = n → ∀ u : Nat, (Od.wt W u = true ∨ ((u : Int) ∈ vs ∧ u < n)) → Od.wt (pushvF n W vs) u = true := by
  intro vs
  induction vs with
  | nil => intro W _ u h; rcases h with h | h; exact h; simp at h
  | cons v vs ih =>
    intro W hW u h
    show Od.wt (pushvF n (Od.pushW n W v) vs) u = true
    refine ih _ (by rw [push_len]; exact hW) u ?_
    rcases h with h | ⟨h, hu⟩
    · exact .inl (push_wt hW v u (.inl h))
    · rcases List.mem_cons.1 h with h | h
      · exact .inl (push_wt hW v u (.inr ⟨h.symm, hu⟩))
      · exact .inr ⟨h, hu⟩

/-- Behind a way back each is assigned, or waits. -/
theorem wts_back {k : K} {w : World} {p : V} {n : Nat} {l : List (List Int)} {s s' : SS} (h : Wts l s) (t : Trl k w s.L s.lev p) (hk : k.n = n) (hW : s.W.length = n) {b : Nat} (e1 : s'.L = backL s.L s.lev b) (e2 : s'.W = pushvF n s.W (backG s.L s.lev b)) : Wts l s' := by
  intro c hc x hx
  rw [e1, e2]
  rcases h c hc x hx with h | h
  · exact .inl (pushv_wt _ _ hW _ (.inl h))
  · by_cases hb : b < s.lev
    · obtain ⟨b1, b2, b3⟩ := t.back_pre hb
      rw [b1]
      obtain ⟨e, he⟩ := Option.isSome_iff_exists.1 h
      obtain ⟨hm, hv⟩ := at_some he
      have hv' : vr e = vl x := by omega
      by_cases hg : e.g ≤ b
      · refine .inr ?_
        have : e ∈ pre s.L b := pre_mem.2 ⟨hm, hg⟩
        obtain ⟨q, hq⟩ := List.mem_iff_getElem?.1 this
        rw [← hv', at_of (pre_nd t.nd b) hq]; rfl
      · refine .inl (pushv_wt _ _ hW _ (.inr ⟨?_, ?_⟩))
        · rw [← hv']; exact b3 e hm (by omega)
        · rw [← hv', ← hk]; exact t.lits_lt e hm
    · refine .inr ?_
      have : backL s.L s.lev b = s.L := by
        unfold backL backOk
        rw [if_neg (by simp; omega)]
      rw [this]; exact h

section
variable {al : Bool} {k : K} {w : World} {p : V} {n : Nat} {l : List (List Int)} {s : SS} {g g' : G}

theorem Closed.add {L : List E} {sz : Nat} {xs : List Int} (h : Closed g L) (d : AddD n sz g g' xs) (hn : ∃ x ∈ xs, ∃ y ∈ xs, x ≠ y ∧ valueF L x = 0 ∧ valueF L y = 0) : Closed g' L := by
  intro i hi hg
  rw [d.nx] at hi
  rw [d.gn] at hg
  rw [d.lt]
  by_cases e : i = g.nx
  · subst e; rw [up_same]; exact .inr hn
  · rw [up_ne _ _ e] at hg ⊢
    exact h i (by omega) hg

theorem Iv.learn (iv : Iv al n l s g) (t : Trl k w s.L s.lev p) (hk : k.n = n) (hW : s.W.length = n) {x : Nat} {es : List Int} {b sz : Nat} (lf : Lf n s.L s.lev (l ++ s.prf) x es b) (hes : es.length ≤ n) (c : SC) (hcn : c.kw.n = n) (hfst : c.fst = l.length) (cf : Int) (met : List Int) (d : AddD n sz g g' (U.notF x :: es)) :
    Iv al n l (lrnF c s cf met (U.notF x :: es) b) g' := by
  obtain ⟨f1, f2, f3, f4, f5, f6, f7, f8, f9, f10, f11, f12⟩ := lrnF_flds c s cf met (U.notF x :: es) b
  obtain ⟨b1, b2, b3⟩ := t.back_pre lf.lt
  have h0 := iv.nx
  have h1 := iv.cn
  rw [hcn] at f11
  obtain ⟨jx, ex, hjx, hlx, hgx⟩ := lf.x0
  have nd := t.nd
  have hzero : ∀ v, v < s.lev → valueF (pre s.L v) (U.notF x) = 0 := fun v hv => by
    rw [← hlx]; exact (val_pre nd hjx).2 (by omega)
  have hout : ∀ y ∈ U.notF x :: es, y = U.notF x ∨ valueF (pre s.L (s.lev - 1)) y = -1 := fun y hy => by
    rcases List.mem_cons.1 hy with rfl | hy
    · exact .inl rfl
    · obtain ⟨_, ll, h2, h3, h4⟩ := lf.vs y hy
      obtain ⟨j, e, he, rfl, _⟩ := lf.at_ y (List.mem_cons_of_mem _ hy)
      rw [vl_lit, level_of nd he] at h2
      have := lf.lt
      exact .inr ((val_pre nd he).1 (by omega))
  have hget : ∀ i, i < g.nx → (l ++ (s.prf ++ [U.notF x :: es]))[i]? = (l ++ s.prf)[i]? := fun i hi => by
    rw [← List.append_assoc, List.getElem?_append_left (by rw [List.length_append]; omega)]
  have hlast : (l ++ (s.prf ++ [U.notF x :: es]))[g.nx]? = some (U.notF x :: es) := by
    rw [← List.append_assoc, List.getElem?_append_right (by rw [List.length_append]; omega), List.length_append, h0]; simp
  have hlen : ∀ i y, (l ++ (s.prf ++ [U.notF x :: es]))[i]? = some y → i ≤ g.nx := fun i y h => by
    have := (List.getElem?_eq_some_iff.1 h).1
    simp at this; omega
  refine ⟨by rw [f4, d.nx, h0]; simp; omega, fun i hi => ?_, by rw [f3, d.nx]; simp; omega, fun i hi hg => ?_, fun i hi => ?_, fun c hc y hy => ?_, by rw [f7, f4, iv.cf]; simp, by rw [f5, f4, iv.fs]; simp, by rw [f6, f4, d.rm]; have := iv.ns; simp; omega, f12 iv.wg, by rw [f8, f9]; exact iv.rd, by rw [f1]; exact iv.dc.back _ _, fun e he => iv.r1 e (back_mem (by rw [← f1]; exact he)), wts_back iv.wt t hk hW f1 f11, fun v hv => ?_, fun i c hc => ?_, fun i j c e hij hj hi hj2 hg => ?_, fun ha i hi => ?_, by rw [f10]; exact iv.lm, fun y hy => ?_, ?_⟩
  · rw [f4, d.lt]
    rw [d.nx] at hi
    by_cases e : i = g.nx
    · subst e; rw [up_same]; exact hlast
    · rw [up_ne _ _ e, hget i (by omega)]; exact iv.lt i (by omega)
  · rw [f3, d.lt]
    rw [d.nx] at hi
    rw [d.gn] at hg
    by_cases e : i = g.nx
    · subst e; rw [up_same, List.getElem?_append_right (by omega), h1]; simp
    · rw [up_ne _ _ e] at hg ⊢
      rw [List.getElem?_append_left (by omega)]; exact iv.cl i (by omega) hg
  · rw [d.gn, up_ne _ _ (by omega)]; exact iv.og i hi
  · rw [f4, ← List.append_assoc] at hc
    rcases List.mem_append.1 hc with hc | hc
    · exact iv.nn c hc y hy
    · rw [List.mem_singleton] at hc; subst hc; exact lf.nn y hy
  · rw [f2, b2] at hv
    rw [f1, b1, pre_pre (by omega)]
    have hlt := lf.lt
    refine (iv.cz v (by omega)).add d ?_
    rcases lf.e0 with e | ⟨y, hy, j, e, he, rfl, hg⟩
    · have h2 := lf.bk
      rw [e] at h2
      have : (0 : Int) = b := h2
      omega
    · refine ⟨_, List.mem_cons_self, _, List.mem_cons_of_mem _ hy, fun hne => ?_, hzero v (by omega), (val_pre nd he).2 (by omega)⟩
      have h3 := lf.l0
      rw [hne, vl_lit, level_of nd he] at h3
      omega
  · rw [f4] at hc
    by_cases hi : i < s.prf.length
    · rw [List.getElem?_append_left hi] at hc
      rw [f4, List.take_append_of_le_length (by omega)]
      exact iv.ok i c hc
    · have hi2 := (List.getElem?_eq_some_iff.1 hc).1
      simp at hi2
      obtain rfl : i = s.prf.length := by omega
      rw [List.getElem?_append_right (Nat.le_refl _)] at hc
      simp at hc
      subst hc
      rw [f4, List.take_left' rfl]
      refine ⟨lf.stp, by simp, fun y hy hn => ?_, lf.nn, by simp; omega⟩
      obtain ⟨j, e, he, rfl, _⟩ := lf.at_ y hy
      obtain ⟨j', e', he', h5, _⟩ := lf.at_ _ hn
      rw [U.not_not (by omega)] at h5
      have v1 := val_of nd he'
      rw [← h5] at v1
      have v2 := val_pos nd (lits_at.2 ⟨e, he, rfl⟩)
      omega
  · rw [f4] at hi hj2
    rw [d.gn] at hg
    have hjn := hlen j e hj2
    rw [hget i (by omega)] at hi
    by_cases hjl : j < g.nx
    · rw [hget j hjl] at hj2
      rw [up_ne _ _ (by omega)] at hg
      exact iv.ds i j c e hij hj hi hj2 hg
    · obtain rfl : j = g.nx := by omega
      rw [hlast] at hj2
      cases hj2
      rw [up_ne _ _ (by omega)] at hg
      intro hs
      have hlt := lf.lt
      have hi3 := iv.lt i (by omega)
      rw [hi] at hi3
      cases hi3
      rcases iv.cz (s.lev - 1) (by omega) i (by omega) hg with ⟨y, hy, v1⟩ | ⟨y, hy, z, hz, hne, v1, v2⟩
      · rcases hout y ((hs y).1 hy) with rfl | v3
        · have := hzero (s.lev - 1) (by omega); omega
        · omega
      · rcases hout y ((hs y).1 hy) with rfl | v3
        · rcases hout z ((hs z).1 hz) with rfl | v4
          · exact hne rfl
          · omega
        · omega
  · rw [d.gn]
    rw [d.nx] at hi
    by_cases e : i = g.nx
    · subst e; rw [up_same]
    · rw [up_ne _ _ e]; exact iv.ng ha i (by omega)
  · rw [f6] at hy
    rw [d.nx, d.gn]
    have hfs := iv.fs
    rcases List.mem_append.1 hy with hy | hy
    · obtain ⟨i, e, h2, h3, h4⟩ := iv.nu y hy
      exact ⟨i, e, h2, by omega, by rw [up_ne _ _ (by omega)]; exact h4⟩
    · rw [List.mem_singleton] at hy
      exact ⟨g.nx, by rw [hy]; omega, by omega, by omega, up_same _ _ _⟩
  · rw [f6, List.nodup_append]
    refine ⟨iv.nd, by simp, fun y hy z hz => ?_⟩
    rw [List.mem_singleton] at hz
    obtain ⟨i, e, h2, h3, h4⟩ := iv.nu y hy
    have hfs := iv.fs
    omega
end
end Go.Proofs.YtimfjoinjfecjaaGreat

namespace Go.Proofs.YtimfjoinjfecjaaGreat
open Go.RowKit Go.Maps
set_option linter.unusedVariables false

theorem luby_pos (i : Nat) (h : 1 ≤ i) : 1 ≤ Ly.luby i := by
  induction i using Nat.strongRecOn with
  | _ i ih =>
    cases e : Ly.isW i with
    | true => rw [Ly.luby_whole e]; omega
    | false =>
      obtain ⟨h1, h2, _⟩ := Ly.back_lt e
      rw [Ly.luby_step e]
      exact ih _ h1 h2

section
variable {al : Bool} {k : K} {w : World} {p : V} {n : Nat} {l : List (List Int)} {s s' : SS} {g g' : G}

/-! ### A new round -/
theorem Iv.anew (iv : Iv al n l s g) (t : Trl k w s.L s.lev p) (hk : k.n = n) (hW : s.W.length = n) (hcf : s.en ≤ s.cf) : Iv al n l (anF n s) g ∧ (anF n s).lev = 0 ∧ (anF n s).cf < (anF n s).en ∧ (anF n s).cf = s.cf := by
  have hl := luby_pos (s.rd + 1) (by omega)
  have hrd := iv.rd
  have f1 : (anF n s).L = backL s.L s.lev (0 : Nat) := rfl
  have f2 : (anF n s).lev = backV s.lev 0 := rfl
  have f3 : (anF n s).W = pushvF n s.W (backG s.L s.lev (0 : Nat)) := rfl
  have f4 : (anF n s).en = s.cf + 64 * Ly.luby (s.rd + 1) := rfl
  have f5 : (anF n s).rd = s.rd + 1 := rfl
  have f6 : (anF n s).cf = s.cf := rfl
  have hlev : (anF n s).lev = 0 := by
    rw [f2]
    unfold backV backOk
    split
    · rfl
    · rename_i h; simp at h; exact h
  refine ⟨⟨iv.nx, iv.lt, iv.cn, iv.cl, iv.og, iv.nn, iv.cf, iv.fs, iv.ns, iv.wg, by rw [f4, f5]; omega, by rw [f1]; exact iv.dc.back _ _, fun e he => iv.r1 e (back_mem (by rw [← f1]; exact he)), wts_back iv.wt t hk hW f1 f3, fun v hv => by rw [hlev] at hv; omega, iv.ok, iv.ds, iv.ng, iv.lm, iv.nu, iv.nd⟩, hlev, by rw [f4, f6]; omega, rfl⟩

/-! ### A decision -/
structure DecR (n : Nat) (l : List (List Int)) (s s' : SS) : Prop where
  cls : s'.cls = s.cls
  prf : s'.prf = s.prf
  fs : s'.fs = s.fs
  ns : s'.ns = s.ns
  lim : s'.lim = s.lim
  tr : s'.tr = s.tr
  wg : s'.wg = s.wg
  cf : s'.cf = s.cf
  rd : s'.rd = s.rd
  en : s'.en = s.en
  A : s'.A = s.A
  wl : s'.W.length = n
  wt : Wts l s → Wts l s'

theorem DecR.trans {s'' : SS} (h : DecR n l s s') (q : DecR n l s' s'') : DecR n l s s'' :=
  ⟨q.cls.trans h.cls, q.prf.trans h.prf, q.fs.trans h.fs, q.ns.trans h.ns, q.lim.trans h.lim, q.tr.trans h.tr, q.wg.trans h.wg, q.cf.trans h.cf, q.rd.trans h.rd, q.en.trans h.en, q.A.trans h.A, q.wl, fun x => q.wt (h.wt x)⟩

theorem litT_half (tr : List Bool) (v : Nat) : litT tr v / 2 = v := by unfold litT; split <;> omega

theorem may_at {L : List E} {x : Nat} (h : mayF n L (x : Nat) = false) (hx : x / 2 < n) : (atF L ((x / 2 : Nat) : Int)).isSome = true := by
  unfold mayF at h
  have e1 : decide ((0 : Int) ≤ (x : Nat) ∧ (x : Int) / 2 < n) = true := by simp; omega
  rw [e1, Bool.true_and] at h
  have e2 : ((x : Int) / 2) = ((x / 2 : Nat) : Int) := by omega
  rw [e2] at h
  cases ha : atF L ((x / 2 : Nat) : Int) with
  | none => rw [ha] at h; cases h
  | some e => rfl

theorem pop_wt {A : List Int} {W : List Bool} {v : Nat} (hA : Od.popA A W = true) (hv : Od.popV A W = v) (hl : v < W.length) (u : Nat) : Od.wt (Od.popW A W) u = if u = v then false else Od.wt W u := by
  unfold Od.popW
  rw [if_pos hA, hv, Int.toNat_natCast, Od.wt_set hl]

theorem at_last {L : List E} {x : Nat} {gg : Nat} {r : Int} : (atF (L ++ [⟨x, gg, r⟩]) ((x / 2 : Nat) : Int)).isSome = true := by
  cases h : atF (L ++ [⟨x, gg, r⟩]) ((x / 2 : Nat) : Int) with
  | none => exact absurd rfl (at_none.1 h ⟨x, gg, r⟩ (by simp))
  | some e => rfl

theorem dec_is (l : List (List Int)) : ∀ (f : Nat) (s : SS) (b : Bool) (s' : SS), s.A.length = n → s.W.length = n → s.W.count true < f → decF n f s = (b, s') →
    DecR n l s s' ∧ ((b = true ∧ ∃ x : Nat, mayF n s.L (x : Nat) = true ∧ s'.L = s.L ++ [⟨x, s.lev + 1, -1⟩] ∧ s'.lev = s.lev + 1) ∨ (b = false ∧ s'.L = s.L ∧ s'.lev = s.lev ∧ ∀ u : Nat, u < n → Od.wt s'.W u = false)) := by
  intro f
  induction f with
  | zero => intro s b s' _ _ h; omega
  | succ f ih =>
    intro s b s' hA hW hc h
    cases hp : Od.popA s.A s.W with
    | false =>
      rw [decF_none hp] at h
      cases h
      have hw : Od.popW s.A s.W = s.W := by unfold Od.popW; rw [hp]; rfl
      refine ⟨⟨rfl, rfl, rfl, rfl, rfl, rfl, rfl, rfl, rfl, rfl, rfl, by show (Od.popW s.A s.W).length = n; rw [hw]; exact hW, fun q => ?_⟩, .inr ⟨rfl, rfl, rfl, fun u hu => ?_⟩⟩
      · intro c hc x hx
        have := q c hc x hx
        show Od.wt (Od.popW s.A s.W) _ = true ∨ _
        rw [hw]; exact this
      · show Od.wt (Od.popW s.A s.W) u = false
        rw [hw]
        rcases Od.bestF_is s.A s.W s.A.length with ⟨_, q⟩ | ⟨v, e, _⟩
        · exact q u (by omega)
        · unfold Od.popA Od.popV at hp
          rw [e] at hp
          simp at hp
    | true =>
      obtain ⟨v, hv, hvn, hvw⟩ := pop_some hp
      have hvl : v < s.W.length := by omega
      have hpl : (Od.popW s.A s.W).length = n := by
        unfold Od.popW
        rw [hp, if_pos rfl, List.length_set]; exact hW
      have hx2 := litT_half s.tr v
      obtain ⟨x, hx⟩ : ∃ x, litT s.tr v = x := ⟨_, rfl⟩
      rw [hx] at hx2
      cases hm : mayF n s.L (x : Nat) with
      | true =>
        rw [decF_yes hp hv hx hm] at h
        cases h
        have eL : (decS n (upO s s.A (Od.popW s.A s.W)) (x : Nat)).L = s.L ++ [⟨x, s.lev + 1, -1⟩] := by
          show addL n s.L (x : Nat) (s.lev + 1) (-1) = _
          unfold addL
          rw [hm, if_pos rfl, Int.toNat_natCast]
        have eV : (decS n (upO s s.A (Od.popW s.A s.W)) (x : Nat)).lev = s.lev + 1 := by
          show decV n s.L s.lev (x : Nat) = _
          unfold decV
          rw [hm, if_pos rfl]
        refine ⟨⟨rfl, rfl, rfl, rfl, rfl, rfl, rfl, rfl, rfl, rfl, rfl, hpl, fun q => ?_⟩, .inl ⟨rfl, x, hm, eL, eV⟩⟩
        intro c hc y hy
        rw [eL]
        show Od.wt (Od.popW s.A s.W) _ = true ∨ _
        rw [pop_wt hp hv hvl]
        by_cases e : vl y = v
        · right; rw [e, ← hx2]; exact at_last
        · rw [if_neg e]
          rcases q c hc y hy with q | q
          · exact .inl q
          · exact .inr (at_app q)
      | false =>
        rw [decF_no hp hv hx hm] at h
        have eL : (decS n (upO s s.A (Od.popW s.A s.W)) (x : Nat)).L = s.L := by
          show addL n s.L (x : Nat) (s.lev + 1) (-1) = _
          unfold addL
          rw [hm]; rfl
        have eV : (decS n (upO s s.A (Od.popW s.A s.W)) (x : Nat)).lev = s.lev := by
          show decV n s.L s.lev (x : Nat) = _
          unfold decV
          rw [hm]; rfl
        have d1 : DecR n l s (decS n (upO s s.A (Od.popW s.A s.W)) (x : Nat)) := by
          refine ⟨rfl, rfl, rfl, rfl, rfl, rfl, rfl, rfl, rfl, rfl, rfl, hpl, fun q => ?_⟩
          intro c hc y hy
          rw [eL]
          show Od.wt (Od.popW s.A s.W) _ = true ∨ _
          rw [pop_wt hp hv hvl]
          by_cases e : vl y = v
          · right; rw [e, ← hx2]; exact may_at hm (by omega)
          · rw [if_neg e]; exact q c hc y hy
        have hcnt := pop_count hp (by omega)
        obtain ⟨d2, r2⟩ := ih (decS n (upO s s.A (Od.popW s.A s.W)) (x : Nat)) b s' (show s.A.length = n from hA) hpl (show (Od.popW s.A s.W).count true < f by omega) h
        refine ⟨d1.trans d2, ?_⟩
        rcases r2 with ⟨hb, y, h1, h2, h3⟩ | ⟨hb, h1, h2, h3⟩
        · rw [eL] at h1 h2
          rw [eV] at h2 h3
          exact .inl ⟨hb, y, h1, h2, h3⟩
        · rw [eL] at h1
          rw [eV] at h2
          exact .inr ⟨hb, h1, h2, h3⟩

theorem Iv.dec (iv : Iv al n l s g) (top : ∀ e ∈ s.L, e.g ≤ s.lev) (hc : Closed g s.L) (d : DecR n l s s') {x : Nat} (eL : s'.L = s.L ++ [⟨x, s.lev + 1, -1⟩]) (eV : s'.lev = s.lev + 1) : Iv al n l s' g := by
  refine ⟨by rw [d.prf]; exact iv.nx, by rw [d.prf]; exact iv.lt, by rw [d.cls]; exact iv.cn, by rw [d.cls]; exact iv.cl, iv.og, by rw [d.prf]; exact iv.nn, by rw [d.cf, d.prf]; exact iv.cf, by rw [d.fs, d.prf]; exact iv.fs, by rw [d.ns, d.prf]; exact iv.ns, by rw [d.wg]; exact iv.wg, by rw [d.rd, d.en]; exact iv.rd, by rw [eL]; exact iv.dc.dec top x, fun e he => ?_, d.wt iv.wt, fun v hv => ?_, by rw [d.prf]; exact iv.ok, by rw [d.prf]; exact iv.ds, iv.ng, by rw [d.lim]; exact iv.lm, by rw [d.ns]; exact iv.nu, by rw [d.ns]; exact iv.nd⟩
  · rw [eL] at he
    rcases List.mem_append.1 he with h | h
    · exact iv.r1 e h
    · rw [List.mem_singleton] at h; subst h; exact Int.le_refl _
  · rw [eV] at hv
    rw [eL, pre_app (fun e he => by rw [List.mem_singleton] at he; subst he; exact hv)]
    by_cases e : v < s.lev
    · exact iv.cz v e
    · obtain rfl : v = s.lev := by omega
      rw [pre_all top]; exact hc

/-! ### An answer -/
theorem val_zero {L : List E} {x : Int} (h : valueF L x = 0) (h0 : 0 ≤ x) : atF L (vl x : Nat) = none := by
  unfold valueF at h
  rw [if_neg (by omega)] at h
  have e : x / 2 = ((vl x : Nat) : Int) := by unfold vl; omega
  rw [e] at h
  cases ha : atF L (vl x : Nat) with
  | none => rfl
  | some a => rw [ha] at h; simp only at h; split at h <;> omega

theorem Iv.holds (iv : Iv al n l s g) (hc : Closed g s.L) (hw : Wts l s') (hL : s'.L = s.L) (h0 : ∀ u : Nat, u < n → Od.wt s'.W u = false) : ∀ c ∈ l, ∃ x ∈ c, valueF s.L x = 1 := by
  intro c hcl
  obtain ⟨i, hi⟩ := List.mem_iff_getElem?.1 hcl
  have hil := (List.getElem?_eq_some_iff.1 hi).1
  have h1 := iv.nx
  have h2 := iv.lt i (by omega)
  rw [List.getElem?_append_left hil, hi] at h2
  cases h2
  rcases hc i (by omega) (iv.og i hil) with h | ⟨x, hx, y, hy, hne, v1, v2⟩
  · exact h
  · exfalso
    have hn := iv.nn (g.lt i) (List.mem_append_left _ hcl) x hx
    have ha := val_zero v1 hn.1
    rcases hw _ hcl x hx with h | h
    · rw [h0 (vl x) (by unfold vl; omega)] at h; cases h
    · rw [hL, ha] at h; cases h

theorem kept_out {L : List E} : ∀ (M : List E) (tr : List Bool) (v : Nat), (∀ e ∈ M, vr e ≠ v) → (keepTF L (-1) (M.map E.l) tr)[v]? = tr[v]? := by
  intro M
  induction M with
  | nil => intro tr v _; rfl
  | cons a M ih =>
    intro tr v h
    simp only [List.map_cons, keepTF]
    split
    · rfl
    · rw [ih _ _ (fun e he => h e (List.mem_cons_of_mem _ he)), List.getElem?_set_ne (show a.l / 2 ≠ v from h a List.mem_cons_self)]

theorem kept_in {L : List E} : ∀ (M : List E) (tr : List Bool), (∀ e ∈ M, levelF L (vr e : Nat) = e.g) → (M.map vr).Nodup → (∀ e ∈ M, vr e < tr.length) → ∀ e ∈ M, (keepTF L (-1) (M.map E.l) tr)[vr e]? = some (!decide (e.l % 2 = 1)) := by
  intro M
  induction M with
  | nil => intro tr _ _ _ e he; cases he
  | cons a M ih =>
    intro tr hl hn ht e he
    rw [List.map_cons, List.nodup_cons] at hn
    simp only [List.map_cons, keepTF]
    have h1 := hl a List.mem_cons_self
    unfold vr at h1
    rw [if_neg (by rw [h1]; omega)]
    rcases List.mem_cons.1 he with rfl | he
    · rw [kept_out _ _ _ (fun b hb c => hn.1 (List.mem_map.2 ⟨b, hb, c⟩))]
      have := ht e List.mem_cons_self
      unfold vr at this ⊢
      rw [List.getElem?_set_self this]
    · exact ih _ (fun b hb => hl b (List.mem_cons_of_mem _ hb)) hn.2 (fun b hb => by rw [List.length_set]; exact ht b (List.mem_cons_of_mem _ hb)) e he

/-- Truths that let a literal hold. -/
theorem model_at (t : Trl k w s.L s.lev p) (hk : k.n = n) (htr : s.tr.length = n) {x : Int} (h : valueF s.L x = 1) : (ktF s (-1)).tr[vl x]? = some (!decide (x % 2 = 1)) ∧ 0 ≤ x := by
  obtain ⟨x0, q, hq⟩ := val_one h
  obtain ⟨e, he, h1⟩ := lits_at.1 hq
  have hv : vl x = vr e := by unfold vl vr; omega
  have hm := List.mem_of_getElem? he
  have nd := t.nd
  have key := kept_in (L := s.L) s.L.reverse s.tr (fun a ha => by
    obtain ⟨i, hi⟩ := List.mem_iff_getElem?.1 (List.mem_reverse.1 ha)
    exact level_of nd hi) (by rw [List.map_reverse]; unfold ND at nd; exact (List.reverse_perm _).symm.nodup nd) (fun a ha => by rw [htr, ← hk]; exact t.lits_lt a (List.mem_reverse.1 ha)) e (List.mem_reverse.2 hm)
  refine ⟨?_, x0⟩
  rw [hv]
  refine Eq.trans key ?_
  have : (x % 2 = 1) ↔ (e.l % 2 = 1) := by omega
  simp [this]
end

/-! ### The beginning -/
theorem begW_is {n : Nat} {l : List (List Int)} : ∀ q, q ≤ l.length → (begW n (l.take q)).nx = q ∧ ∀ i, i < q → l[i]? = some ((begW n (l.take q)).lt i) ∧ (begW n (l.take q)).gn i = false := by
  intro q
  induction q with
  | zero => intro _; exact ⟨rfl, fun i hi => by omega⟩
  | succ q ih =>
    intro hq
    obtain ⟨h1, h2⟩ := ih (by omega)
    obtain ⟨y, hy⟩ : ∃ y, l[q]? = some y := ⟨_, List.getElem?_eq_getElem (by omega)⟩
    rw [begW_next hy]
    refine ⟨by show (begW n (l.take q)).nx + 1 = _; rw [h1], fun i hi => ?_⟩
    show l[i]? = some (up (begW n (l.take q)).lt (begW n (l.take q)).nx y i) ∧ up (begW n (l.take q)).gn (begW n (l.take q)).nx false i = false
    rw [h1]
    by_cases e : i = q
    · subst e; rw [up_same, up_same]; exact ⟨hy, rfl⟩
    · rw [up_ne _ _ e, up_ne _ _ e]; exact h2 i (by omega)

theorem pushs_len (n : Nat) : ∀ (xs : List Int) (W : List Bool), (pushsF n W xs).length = W.length := by
  intro xs
  induction xs with
  | nil => intro W; rfl
  | cons x xs ih => intro W; show (pushsF n (Od.pushW n W (U.varF x)) xs).length = _; rw [ih, push_len]

theorem pushs_wt {n : Nat} : ∀ (xs : List Int) (W : List Bool), W.length = n → ∀ u : Nat, (Od.wt W u = true ∨ ((∃ x ∈ xs, U.varF x = u) ∧ u < n)) → Od.wt (pushsF n W xs) u = true := by
  intro xs
  induction xs with
  | nil => intro W _ u h; rcases h with h | h; exact h; simp at h
  | cons x xs ih =>
    intro W hW u h
    show Od.wt (pushsF n (Od.pushW n W (U.varF x)) xs) u = true
    refine ih _ (by rw [push_len]; exact hW) u ?_
    rcases h with h | ⟨⟨y, hy, hu⟩, hn⟩
    · exact .inl (push_wt hW _ u (.inl h))
    · rcases List.mem_cons.1 hy with rfl | hy
      · exact .inl (push_wt hW _ u (.inr ⟨hu, hn⟩))
      · exact .inr ⟨⟨y, hy, hu⟩, hn⟩

theorem beg_all (n : Nat) : ∀ (l : List (List Int)) (s : SS), s.W.length = n →
    (l.foldl (beg1 n) s).L = s.L ∧ (l.foldl (beg1 n) s).lev = s.lev ∧ (l.foldl (beg1 n) s).prf = s.prf ∧ (l.foldl (beg1 n) s).fs = s.fs ∧ (l.foldl (beg1 n) s).ns = s.ns ∧ (l.foldl (beg1 n) s).wg = s.wg ∧ (l.foldl (beg1 n) s).lim = s.lim ∧ (l.foldl (beg1 n) s).W.length = n ∧
    ∀ u : Nat, (Od.wt s.W u = true ∨ ((∃ c ∈ l, ∃ x ∈ c, U.varF x = u) ∧ u < n)) → Od.wt (l.foldl (beg1 n) s).W u = true := by
  intro l
  induction l with
  | nil => intro s hW; exact ⟨rfl, rfl, rfl, rfl, rfl, rfl, rfl, hW, fun u h => by rcases h with h | h; exact h; simp at h⟩
  | cons c l ih =>
    intro s hW
    rw [List.foldl_cons]
    have hW2 : (beg1 n s c).W.length = n := by show (pushsF n s.W c).length = n; rw [pushs_len]; exact hW
    obtain ⟨a1, a2, a3, a4, a5, a6, a7, a8, a9⟩ := ih (beg1 n s c) hW2
    refine ⟨a1, a2, a3, a4, a5, a6, a7, a8, fun u h => a9 u ?_⟩
    rcases h with h | ⟨⟨d, hd, x, hx, hu⟩, hn⟩
    · exact .inl (pushs_wt c s.W hW u (.inl h))
    · rcases List.mem_cons.1 hd with rfl | hd
      · exact .inl (pushs_wt d s.W hW u (.inr ⟨⟨x, hx, hu⟩, hn⟩))
      · exact .inr ⟨⟨d, hd, x, hx, hu⟩, hn⟩

theorem Iv.begin (al : Bool) {n : Nat} {l : List (List Int)} {g : G} (hg : Gb n l g) (hn : ∀ c ∈ l, ∀ y ∈ c, 0 ≤ y ∧ y < 2 * (n : Int)) : Iv al n l (nextF (begF n l)) g ∧ (nextF (begF n l)).cf = 0 ∧ (nextF (begF n l)).lev = 0 ∧ (nextF (begF n l)).prf = [] ∧ (nextF (begF n l)).W.length = n ∧ (nextF (begF n l)).cf < (nextF (begF n l)).en ∧ (nextF (begF n l)).lim = 1000 ∧ (nextF (begF n l)).L = [] := by
  obtain ⟨b1, b2⟩ := begW_is (n := n) (l := l) l.length (Nat.le_refl _)
  rw [List.take_length, ← hg.pt] at b1 b2
  have hl0 : (s0F n).W.length = n := by show (Od.nones n).length = n; simp [Od.nones]
  obtain ⟨a1, a2, a3, a4, a5, a6, a7, a8, a9⟩ := beg_all n l (s0F n) hl0
  have c1 := beg_cls n l
  obtain ⟨r1, r2⟩ := beg_rd n l
  have hl := luby_pos 1 (Nat.le_refl _)
  have e1 : (nextF (begF n l)).L = [] := a1
  have e2 : (nextF (begF n l)).lev = 0 := a2
  have e3 : (nextF (begF n l)).prf = [] := a3
  have e4 : (nextF (begF n l)).fs = [] := a4
  have e5 : (nextF (begF n l)).ns = [] := a5
  have e6 : (nextF (begF n l)).wg = 131072 := a6
  have e7 : (nextF (begF n l)).cf = 0 := r2
  have e8 : (nextF (begF n l)).rd = 1 := by show (begF n l).rd + 1 = 1; rw [r1]
  have e9 : (nextF (begF n l)).en = 64 * Ly.luby 1 := by show (begF n l).cf + 64 * Ly.luby ((begF n l).rd + 1) = _; rw [r1, r2]; simp
  have e10 : (nextF (begF n l)).cls = l := c1
  have hnx : g.nx = l.length := b1
  refine ⟨⟨by rw [e3, hnx]; rfl, fun i hi => ?_, by rw [e10, hnx], fun i hi _ => ?_, fun i hi => (b2 i hi).2, by rw [e3, List.append_nil]; exact hn, by rw [e7, e3]; rfl, by rw [e4, e3]; rfl, by rw [e5, e3, hg.rm]; exact Nat.le_refl _, by rw [e6]; omega, by rw [e8, e9]; omega, by rw [e1]; exact Dc.nil, (by rw [e1]; intro e he; cases he), fun c hc x hx => .inl (a9 _ (.inr ⟨⟨c, hc, x, hx, ?_⟩, ?_⟩)), (by rw [e2]; intro v hv; omega), (by rw [e3]; intro i c h; simp at h), fun i j c d hij hj hi hj2 _ => ?_, fun _ i hi => (b2 i (by omega)).2, by show 1000 ≤ (begF n l).lim; rw [show (begF n l).lim = 1000 from a7]; exact Nat.le_refl _, (by rw [e5]; intro x hx; cases hx), by rw [e5]; exact List.nodup_nil⟩, e7, e2, e3, a8, by rw [e7, e9]; omega, a7, e1⟩
  · rw [e3, List.append_nil]; exact (b2 i (by omega)).1
  · rw [e10]; exact (b2 i (by omega)).1
  · have := (hn c hc x hx).1
    unfold U.varF vl
    rw [if_neg (by omega)]
    omega
  · have := hn c hc x hx
    unfold vl; omega
  · rw [e3, List.append_nil] at hj2
    have := (List.getElem?_eq_some_iff.1 hj2).1
    omega
end Go.Proofs.YtimfjoinjfecjaaGreat

namespace Go.Proofs.YtimfjoinjfecjaaGreat
open Go.RowKit Go.Maps
set_option linter.unusedVariables false

/-- How far it is to the end, as a number. -/
def muN (n bud cf en len : Nat) : Nat := (bud - cf) * (3 * n + 9) + (if en ≤ cf then n + 2 else 0) + (n + 1 - len)
def muF (n bud : Nat) (s : SS) : Nat := muN n bud s.cf s.en s.L.length
def lenOf (c : SC) (w : World) : Nat := match w.cell? ⟨c.k.OB, 1, none⟩ with
  | some (.slice _ n _) => n
  | _ => 0
def muW (c : SC) (n bud : Nat) (w : World) : Nat := muN n bud (numOf c 12 w) (numOf c 14 w) (lenOf c w)

theorem mu_learn {n bud cf en len en' len' : Nat} (h : cf < bud) : muN n bud (cf + 1) en' len' < muN n bud cf en len := by
  unfold muN
  obtain ⟨d, hd⟩ : ∃ d, bud - cf = d + 1 := ⟨bud - cf - 1, by omega⟩
  have hd2 : bud - (cf + 1) = d := by omega
  have e : (d + 1) * (3 * n + 9) = d * (3 * n + 9) + (3 * n + 9) := Nat.succ_mul _ _
  rw [hd, hd2, e]
  generalize d * (3 * n + 9) = q
  split <;> split <;> omega
theorem mu_anew {n bud cf en len en' len' : Nat} (h : en ≤ cf) (h2 : cf < en') : muN n bud cf en' len' < muN n bud cf en len := by
  unfold muN
  rw [if_pos h, if_neg (by omega)]
  omega
theorem mu_dec {n bud cf en len len' : Nat} (h : len < len') (h2 : len' ≤ n) : muN n bud cf en len' < muN n bud cf en len := by
  unfold muN
  omega

/-- What all that was learned is. -/
structure Fin (al : Bool) (n : Nat) (l P : List (List Int)) : Prop where
  ok : ∀ (i : Nat) (c : List Int), P[i]? = some c → Lc n (l ++ P.take i) c
  ds : al = true → ∀ (i j : Nat) (c d : List Int), i < j → l.length ≤ j → (l ++ P)[i]? = some c → (l ++ P)[j]? = some d → ¬ Sames c d

theorem Iv.fin {al : Bool} {n : Nat} {l : List (List Int)} {s : SS} {g : G} (iv : Iv al n l s g) : Fin al n l s.prf := by
  refine ⟨iv.ok, fun ha i j c d hij hj hi hj2 => iv.ds i j c d hij hj hi hj2 (iv.ng ha i ?_)⟩
  have := (List.getElem?_eq_some_iff.1 hi).1
  rw [List.length_append] at this
  rw [iv.nx]; exact this

/-- What search tells. -/
def SEnd (al : Bool) (n : Nat) (l : List (List Int)) (bud : Nat) (w0 : World) (e : Ending) (w' : World) : Prop :=
  (∃ (tb cf : Nat) (tr : List Bool), e = .returned (.agg #[.int .i64 1, .slice (some ⟨tb, 0, none⟩) n n, .int .i64 cf, .slice none 0 0]) ∧ Hid (Below w0.heap.size w0 w') ∧ Hid (w'.heap[tb]? = some (.cells (tr.map Value.bool).toArray 4 (0, 0))) ∧ Hid (tr.length = n ∧ cf ≤ bud ∧ ∀ c ∈ l, ∃ x ∈ c, tr[vl x]? = some (!decide (x % 2 = 1)) ∧ 0 ≤ x)) ∨
  (∃ (v : Value) (F : Nat → Prop) (s : SS), e = .returned (.agg #[.int .i64 2, .slice none 0 0, .int .i64 s.cf, v]) ∧ Hid (UnsEnd F w0 s v w') ∧ Hid (s.cf = s.prf.length ∧ s.cf ≤ bud ∧ Fin al n l s.prf ∧ U.Stp (l ++ s.prf) [])) ∨
  (∃ P : List (List Int), e = .returned (.agg #[.int .i64 0, .slice none 0 0, .int .i64 bud, .slice none 0 0]) ∧ Hid (Below w0.heap.size w0 w') ∧ Hid (P.length = bud ∧ Fin al n l P))

section
variable {c : SC} {w0 w w' : World} {g g' : G} {s s' : SS} {m m' : MV}

theorem num_cf (h : Sm c w0 g s m w) : numOf c 12 w = s.cf := by unfold numOf; rw [h.c12]; simp
theorem num_en (h : Sm c w0 g s m w) : numOf c 14 w = s.en := by unfold numOf; rw [h.c14]; simp
theorem len_of (h : Sm c w0 g s m w) : lenOf c w = s.L.length := by
  obtain ⟨F, S, r, q, _⟩ := h.W.j.t
  obtain ⟨ao, cp, e, _⟩ := r.rl.shape
  unfold lenOf
  rw [show w.cell? ⟨c.k.OB, 1, none⟩ = some m.p.l from cell_of r.cl, e, litsF_len]
theorem mu_of (h : Sm c w0 g s m w) (n bud : Nat) : muW c n bud w = muF n bud s := by
  unfold muW muF
  rw [num_cf h, num_en h, len_of h]

/-- Run, of a solver. -/
theorem srun (h : Sm c w0 g s m w) (hnx : g.nx ≤ 1000000) (hsu : tot c.kw.n g + c.kw.n * g.nx ≤ 300000000000) :
    Calls Tryz.prog 31 #[.pointer (some ⟨c.kw.OB, 0, none⟩), .pointer (some ⟨c.k.OB, 0, none⟩)] w fun e w' => ∃ i ok g' L' m', e = .returned (.tuple #[.int .i64 i, .bool ok]) ∧ Hid (RunV g g' L' i ok) ∧ Hid (Sm c w0 g' (upW s L' s.lev (litsF L')) m' w') ∧ Hid (Kp w0 w m.ow w' m'.ow) ∧ Hid (Sm0 g g' ∧ tot c.kw.n g' ≤ tot c.kw.n g + (c.kw.n * g.nx + 1)) ∧ Hid (Ext s.L L' s.lev) := by
  refine (run_one h.W hnx hsu).mono fun e w' q => ?_
  obtain ⟨i, ok, g', L', p', rfl, V, W, S, X, F⟩ := q
  have z := h.wa W.out F.out.1 (fun i hi hg j e h0 hs => h.t.ft j (.inr (.inr (.inl ⟨i, by rw [← S.out.1.nx]; exact hi, by rw [← S.out.1.gn]; exact hg, by rw [← S.out.1.lv]; exact e, by rw [← S.out.1.lt]; exact h0⟩)))) (fun h0 j e hs => h.t.ft j (.inl (F.out.1.new j hs (F.out.2 j e))))
  exact ⟨i, ok, g', L', _, rfl, V, hid z.1, hid z.2, S, X⟩

theorem zero_bad {al : Bool} {n : Nat} {l : List (List Int)} (iv : Iv al n l s g) (h : Sm c w0 g s m w) (hl : s.lev = 0) {i : Nat} (hi : i < g.nx) (hv : ∀ y ∈ g.lt i, valueF s.L y = -1) : U.Stp (l ++ s.prf) [] := by
  have t := h.W.j.t
  have cx := t.cx (iv.tl h.W.rs)
  refine .inr ⟨g.lt i, List.mem_of_getElem? (iv.lt i hi), fun y hy y0 => ?_⟩
  obtain ⟨_, _, q, hq⟩ := val_neg (L := s.L) (x := y) (by rw [hv y hy]; omega)
  obtain ⟨e, he, h1⟩ := lits_at.1 hq
  rw [← h1]
  exact der_zero cx _ q e he (by have := cx.top e (List.mem_of_getElem? he); omega)

/-- All that stands at the head of the loop. -/
structure Hd (al : Bool) (l : List (List Int)) (bud K0 : Nat) (c : SC) (g : G) (s : SS) : Prop where
  iv : Iv al c.kw.n l s g
  cf : s.cf ≤ bud
  bd : tot c.kw.n g + muF c.kw.n bud s * (c.kw.n * (l.length + bud) + 2) ≤ K0

/-- What a new round must do. -/
def Anew (al : Bool) (l : List (List Int)) (bud : Nat) (c : SC) (w0 : World) : Prop := ∀ g s m w, Sm c w0 g s m w → Iv al c.kw.n l s g → s.en ≤ s.cf → s.cf ≤ bud →
  Calls Tryz.prog 35 #[.pointer (some ⟨c.SB, 0, none⟩)] w fun e w' => e = .returned (.tuple #[]) ∧ ∃ g' s', Hid (Nx c w0 w m g' s' w') ∧ Hid (Iv al c.kw.n l s' g' ∧ s'.cf = s.cf ∧ s'.cf < s'.en ∧ tot c.kw.n g' ≤ tot c.kw.n g)

section
variable {al : Bool} {l : List (List Int)} {bud K0 : Nat}

theorem Hd.nx (h : Hd al l bud K0 c g s) (hN : l.length + bud ≤ 20000) : g.nx ≤ l.length + bud ∧ g.nx ≤ 1000000 := by
  have h1 := h.iv.nx
  have h2 := h.iv.cf
  have h3 := h.cf
  omega

theorem Hd.su (h : Hd al l bud K0 c g s) (hN : l.length + bud ≤ 20000) (hn : c.kw.n ≤ 900) (hK : K0 ≤ 250000000000) : tot c.kw.n g + c.kw.n * g.nx ≤ 300000000000 := by
  have h1 := (h.nx hN).1
  have h2 : c.kw.n * g.nx ≤ 900 * 20000 := Nat.mul_le_mul hn (by omega)
  have h3 := h.bd
  omega

theorem mul_next {a b x y z M : Nat} (h : a < b) (hx : x + b * M ≤ z) (hy : y ≤ x + M) : y + a * M ≤ z := by
  have : (a + 1) * M ≤ b * M := Nat.mul_le_mul_right _ h
  rw [Nat.succ_mul] at this
  omega

theorem run_grow (h : Hd al l bud K0 c g s) (hN : l.length + bud ≤ 20000) (ht : tot c.kw.n g' ≤ tot c.kw.n g + (c.kw.n * g.nx + 1)) : tot c.kw.n g' + 1 ≤ tot c.kw.n g + (c.kw.n * (l.length + bud) + 2) := by
  have h1 : c.kw.n * g.nx ≤ c.kw.n * (l.length + bud) := Nat.mul_le_mul_left _ (h.nx hN).1
  omega
end
end
end Go.Proofs.YtimfjoinjfecjaaGreat

namespace Go.Proofs.YtimfjoinjfecjaaGreat
open Go.RowKit Go.Maps
set_option linter.unusedVariables false

section
variable {c : SC} {w0 w w' : World} {g g' : G} {s s' : SS} {m m' : MV} {al : Bool} {l : List (List Int)} {bud K0 : Nat}

/-- A decision behind Run. -/
theorem Hd.dec {wz w7 : World} {g2 : G} {s2 s7 : SS} {m2 m7 : MV} (h1 : Hd al l bud K0 c g s) (hN : l.length + bud ≤ 20000) (h2 : Sm c w0 g2 s2 m2 wz) (h7 : Sm c w0 g2 s7 m7 w7) (iv : Iv al c.kw.n l s2 g2) (hcl : Closed g2 s2.L) (ht : tot c.kw.n g2 ≤ tot c.kw.n g + (c.kw.n * g.nx + 1)) (e1 : s2.cf = s.cf) (e2 : s2.en = s.en) (e3 : s.L.length ≤ s2.L.length) (hD : decF c.kw.n (cntOf s2 + 1) s2 = (true, s7)) :
    Hd al l bud K0 c g2 s7 ∧ muF c.kw.n bud s7 < muF c.kw.n bud s := by
  obtain ⟨la, lw, _⟩ := h2.o.lens
  have hn := h2.hn
  obtain ⟨d, r⟩ := dec_is l (cntOf s2 + 1) s2 true s7 (by omega) (by omega) (by unfold cntOf; omega) hD
  rcases r with ⟨_, x, hx, eL, eV⟩ | ⟨q, _⟩
  · have hmu : muF c.kw.n bud s7 < muF c.kw.n bud s := by
      unfold muF
      rw [d.cf, d.en, e1, e2]
      refine mu_dec (by rw [eL, List.length_append]; simp; omega) ?_
      have := h7.W.j.t.len
      have := h7.W.j.n
      omega
    refine ⟨⟨iv.dec h2.W.j.t.mono.2 hcl d eL eV, by rw [d.cf, e1]; exact h1.cf, ?_⟩, hmu⟩
    exact mul_next hmu h1.bd (by have := run_grow h1 hN ht; omega)
  · cases q

theorem Hd.anew {g2 g7 : G} {s7 : SS} (h1 : Hd al l bud K0 c g s) (hN : l.length + bud ≤ 20000) (iv : Iv al c.kw.n l s7 g7) (ht : tot c.kw.n g2 ≤ tot c.kw.n g + (c.kw.n * g.nx + 1)) (ht2 : tot c.kw.n g7 ≤ tot c.kw.n g2) (e1 : s7.cf = s.cf) (e2 : s7.cf < s7.en) (e3 : s.en ≤ s.cf) :
    Hd al l bud K0 c g7 s7 ∧ muF c.kw.n bud s7 < muF c.kw.n bud s := by
  have hmu : muF c.kw.n bud s7 < muF c.kw.n bud s := by
    unfold muF
    rw [e1]
    exact mu_anew e3 (by omega)
  exact ⟨⟨iv, by rw [e1]; exact h1.cf, mul_next hmu h1.bd (by have := run_grow h1 hN ht; omega)⟩, hmu⟩

theorem Hd.lrn {wz : World} {g2 g7 : G} {s2 : SS} {m2 : MV} {x : Nat} {s1 : PS} {es : List Int} {sz : Nat} {cn : Int} (h1 : Hd al l bud K0 c g s) (hN : l.length + bud ≤ 20000) (h2 : Sm c w0 g2 s2 m2 wz) (iv : Iv al c.kw.n l s2 g2) (ta : Tau c.kw.n l s2 g2 x s1) (hp : es.Perm s1.oth ∧ Fall s2.L es) (d : AddD c.kw.n sz g2 g7 (U.notF x :: es)) (ht : tot c.kw.n g2 ≤ tot c.kw.n g + (c.kw.n * g.nx + 1)) (e1 : s2.cf = s.cf) (hb : s.cf < bud) (hf : c.fst = l.length) :
    Hd al l bud K0 c g7 (lrnF c s2 cn (riseI (natI s1.met)) (U.notF x :: es) (backF s2.L es)) ∧ muF c.kw.n bud (lrnF c s2 cn (riseI (natI s1.met)) (U.notF x :: es) (backF s2.L es)) < muF c.kw.n bud s := by
  obtain ⟨b, lf, hes⟩ := ta.lf es hp.1 hp.2
  obtain ⟨la, lw, _⟩ := h2.o.lens
  have hn := h2.hn
  rw [lf.bk]
  have iv7 := iv.learn h2.W.j.t h2.W.j.n (by omega) lf hes c rfl hf cn (riseI (natI s1.met)) d
  have f7 := (lrnF_flds c s2 cn (riseI (natI s1.met)) (U.notF x :: es) b).2.2.2.2.2.2.1
  have hmu : muF c.kw.n bud (lrnF c s2 cn (riseI (natI s1.met)) (U.notF x :: es) b) < muF c.kw.n bud s := by
    unfold muF
    rw [f7, e1]
    exact mu_learn hb
  refine ⟨⟨iv7, by rw [f7, e1]; omega, mul_next hmu h1.bd ?_⟩, hmu⟩
  rw [d.su]
  have := run_grow h1 hN ht
  omega

theorem NxW.out {b : Bool} (h : Hid (NxW c w0 w m g s b w')) : ∃ s7 m7, Hid (decF c.kw.n (cntOf s + 1) s = (b, s7)) ∧ Hid (Sm c w0 g s7 m7 w') ∧ Hid (Kp w0 w m.ow w' m7.ow) := by
  obtain ⟨s7, h1, m7, h2, h3⟩ := h.out
  exact ⟨s7, m7, h1, h2, h3⟩
theorem run_true {g2 : G} {L2 : List E} {i : Int} (V : RunV g g2 L2 i true) : Closed g2 L2 := by
  rcases V with ⟨_, _, h⟩ | ⟨c, h, _⟩
  · exact h
  · cases h
theorem run_false {g2 : G} {L2 : List E} {i : Int} (V : RunV g g2 L2 i false) : ∃ j : Nat, i = j ∧ Hid (j < g.nx ∧ g.gn j = false ∧ ∀ y ∈ g.lt j, valueF L2 y = -1) := by
  rcases V with ⟨h, _⟩ | ⟨j, _, h1, h2, h3, h4⟩
  · cases h
  · exact ⟨j, h1, h2, h3, h4⟩

theorem res_blk {w : World} {r : Nat} {a b cc d a' b' cc' d' : Value} (h : w.heap[r]? = some (.cells #[a, b, cc, d] 27 (0, 0))) : ((((w.setCell ⟨r, 0, none⟩ a').setCell ⟨r, 1, none⟩ b').setCell ⟨r, 2, none⟩ cc').setCell ⟨r, 3, none⟩ d').heap[r]? = some (.cells #[a', b', cc', d'] 27 (0, 0)) := (set_same (set_same (set_same (set_same h _) _) _) _).trans rfl
theorem res_oth {w : World} {r j : Nat} {a' b' cc' d' : Value} (h : j ≠ r) : ((((w.setCell ⟨r, 0, none⟩ a').setCell ⟨r, 1, none⟩ b').setCell ⟨r, 2, none⟩ cc').setCell ⟨r, 3, none⟩ d').heap[j]? = w.heap[j]? := by
  rw [set_other _ h, set_other _ h, set_other _ h, set_other _ h]
theorem res_bel {w : World} {r : Nat} {a' b' cc' d' : Value} (b : Below w0.heap.size w0 w) (h : w0.heap.size ≤ r) : Below w0.heap.size w0 ((((w.setCell ⟨r, 0, none⟩ a').setCell ⟨r, 1, none⟩ b').setCell ⟨r, 2, none⟩ cc').setCell ⟨r, 3, none⟩ d') := below_set (below_set (below_set (below_set b h) h) h) h

/-- None is left to be decided: all clauses hold. -/
theorem sat_end {wz w7 : World} {g2 : G} {s2 s7 : SS} {m2 m7 : MV} (h2 : Sm c w0 g2 s2 m2 wz) (h7 : Sm c w0 g2 s7 m7 w7) (iv : Iv al c.kw.n l s2 g2) (hcl : Closed g2 s2.L) (hD : decF c.kw.n (cntOf s2 + 1) s2 = (false, s7)) : s7.cf = s2.cf ∧ ∀ d ∈ l, ∃ x ∈ d, (ktF s7 (-1)).tr[vl x]? = some (!decide (x % 2 = 1)) ∧ 0 ≤ x := by
  obtain ⟨la, lw, _⟩ := h2.o.lens
  have hn := h2.hn
  obtain ⟨d, r⟩ := dec_is l (cntOf s2 + 1) s2 false s7 (by omega) (by omega) (by unfold cntOf; omega) hD
  rcases r with ⟨q, _⟩ | ⟨_, eL, eV, h0⟩
  · cases q
  · refine ⟨d.cf, fun e he => ?_⟩
    obtain ⟨x, hx, hv⟩ := iv.holds hcl (d.wt iv.wt) eL h0 e he
    exact ⟨x, hx, model_at h7.W.j.t h7.W.j.n h7.tr.2 (by rw [eL]; exact hv)⟩

theorem uns_store {w : World} {F : Nat → Prop} {r : Nat} {v a' b' cc' d' : Value} (h : UnsEnd F w0 s v w) (hF : ¬ F r) (hr : w0.heap.size ≤ r) : UnsEnd F w0 s v ((((w.setCell ⟨r, 0, none⟩ a').setCell ⟨r, 1, none⟩ b').setCell ⟨r, 2, none⟩ cc').setCell ⟨r, 3, none⟩ d') :=
  ⟨res_bel h.b0 hr, h.fn, fun W hW => h.gr W (fun i hi => (hW i hi).trans (res_oth (fun e => hF (e ▸ hi))))⟩

set_option maxRecDepth 20000 in
set_option maxHeartbeats 8000000 in
theorem search_is (h : Sm c w0 g s m w) (hd : Hd al l bud K0 c g s) (hf : c.fst = l.length) (hn : c.kw.n ≤ 900) (hN : l.length + bud ≤ 20000) (hK : K0 ≤ 250000000000) (HA : Anew al l bud c w0) :
    Calls Tryz.prog 18 #[.pointer (some ⟨c.SB, 0, none⟩), .int .i64 (bud : Nat)] w fun e w' => SEnd al c.kw.n l bud w0 e w' := by
  have hal : Below w.heap.size w (w.alloc (.cells #[.int .i64 0, .slice none 0 0, .int .i64 0, .slice none 0 0] 27)) := by go_grown
  have hz := h.fresh9 hal (fun j => decide (j = w.heap.size)) (fun j hj _ _ => ⟨27, by cases of_decide_eq_true hj; exact ⟨_, _, new_same w _⟩, by simp [Wt]⟩)
  obtain ⟨h1, k1⟩ := hz
  have H1 := hid h1
  have HR : Hid ((w.alloc (.cells #[.int .i64 0, .slice none 0 0, .int .i64 0, .slice none 0 0] 27)).heap[w.heap.size]? = some (.cells #[.int .i64 0, .slice none 0 0, .int .i64 0, .slice none 0 0] 27 (0, 0))) := hid (new_same w _)
  have OW : Hid (owN m.ow w.heap.size (fun j => decide (j = w.heap.size)) w.heap.size = 9) := hid (owN_new (Nat.le_refl _) (by simp))
  have hw0 : w0.heap.size ≤ w.heap.size := h.b0.size
  have HHD := hid hd
  have HHA := hid HA
  clear h k1 h1 hal hd HA
  go_enter Tryz.func18, Tryz.ntmps18
  go_wp2
  generalize hw1 : w.alloc (.cells #[.int .i64 0, .slice none 0 0, .int .i64 0, .slice none 0 0] 27) = w1 at *
  generalize hrr : w.heap.size = r at *
  generalize how : owN m.ow r (fun j => decide (j = r)) = ow1 at *
  have hrl : r < w1.heap.size := blk_lt HR.out
  clear how hw1 hrr
  go_loopw [] (fun wr => ∃ (g1 : G) (s1 : SS) (m1 : MV), Hid (Sm c w0 g1 s1 m1 wr) ∧ Hid (Kp w0 w1 ow1 wr m1.ow) ∧ Hid (Hd al l bud K0 c g1 s1)) (fun wr => muW c c.kw.n bud wr)
  case atStart => exact ⟨g, s, _, H1, hid (Kp.refl _ _ _), HHD⟩
  case round =>
    clear H1 HHD
    obtain ⟨g1, s1, m1, h1, k1, hd1⟩ := hrel
    have NM := hid (mu_of h1.out c.kw.n bud)
    have c0 := h1.out.c0
    have c1 := h1.out.c1
    obtain ⟨mD, hD, kD⟩ := h1.out.xbelow (below_drew wr)
    have HD := hid hD
    have KD := hid (k1.out.trans kD)
    have hnx := hid (hd1.out.nx hN).2
    have hsu := hid (hd1.out.su hN hn hK)
    clear hD kD h1 k1
    go_upto_region 1 with fail
    go_cut [5, 6] from 7 to 19 (fun v5 v6 wz => ∃ (i : Int) (ok : Bool) (g2 : G) (L2 : List E) (m2 : MV), v5 = .int .i64 i ∧ v6 = .bool ok ∧ Hid (RunV g1 g2 L2 i ok) ∧ Hid (Sm c w0 g2 (upW s1 L2 s1.lev (litsF L2)) m2 wz) ∧ Hid (Kp w0 w1 ow1 wz m2.ow) ∧ Hid (Sm0 g1 g2 ∧ tot c.kw.n g2 ≤ tot c.kw.n g1 + (c.kw.n * g1.nx + 1)) ∧ Hid (Ext s1.L L2 s1.lev))
    case first =>
      go_region_with (first
        | (go_at_call 31; with_reducible (refine (srun HD.out hnx.out hsu.out).mono ?_); rintro e w5 ⟨i, ok, g2, L2, m2, rfl, V, S2, K2, T2, X2⟩))
      all_goals go_wp2
      all_goals go_meet
      all_goals exact ⟨i, ok, g2, L2, m2, rfl, rfl, V, S2, hid (KD.out.trans K2.out), T2, X2⟩
    case rest =>
      obtain ⟨i, ok, g2, L2, m2, rfl, rfl, V, S2, K2, T2, X2⟩ := hcut
      clear HD KD hnx hsu c0 c1
      have IV2 := hid (hd1.out.iv.run (H' := litsF L2) T2.out.1 X2.out)
      have hr2 := hid (((K2.out.zz r hrl (.inr OW.out)).1).trans HR.out)
      have ow2 := hid (((K2.out.zz r hrl (.inr OW.out)).2).trans OW.out)
      have d12 := S2.out.c12
      have d14 := S2.out.c14
      have d0 := S2.out.c0
      obtain ⟨cf, hcf⟩ : ∃ cf, (upW s1 L2 s1.lev (litsF L2)).cf = cf := ⟨_, rfl⟩
      obtain ⟨en, hen⟩ : ∃ en, (upW s1 L2 s1.lev (litsF L2)).en = en := ⟨_, rfl⟩
      rw [hcf] at d12
      rw [hen] at d14
      have hcb := hd1.out.cf
      have HUC := hid hcf
      have HCF : Hid (s1.cf = cf) := hid hcf
      have HEN : Hid (s1.en = en) := hid hen
      rw [HCF.out] at hcb
      clear hcf hen
      cases ok
      · obtain ⟨j, rfl, hj⟩ := run_false V.out
        obtain ⟨lev, hlev⟩ : ∃ lev, s1.lev = lev := ⟨_, rfl⟩
        have HT := hid S2.out.W.j.t
        rw [show (upW s1 L2 s1.lev (litsF L2)).lev = lev from hlev] at HT
        have HLV := hid hlev
        clear hlev
        have hlb : lev ≤ 1048576 := by have := HT.out.len; omega
        by_cases hl0 : lev = 0
        · subst hl0
          have HZ : Hid (U.Stp (l ++ s1.prf) []) := hid (zero_bad (s := upW s1 L2 s1.lev (litsF L2)) IV2.out S2.out HLV.out (i := j) (by rw [T2.out.1.nx]; exact hj.out.1) (by rw [T2.out.1.lt]; exact hj.out.2.2))
          have hpl : Hid ((upW s1 L2 s1.lev (litsF L2)).prf.length ≤ 1000000) := hid (by have := hd1.out.iv.cf; have := HCF.out; show s1.prf.length ≤ _; omega)
          go_wp2_with (first
            | (go_at_call 32; with_reducible (refine (levels_is HT.out).mono ?_); rintro e w6 ⟨rfl, rfl⟩)
            | (go_at_call 33; with_reducible (refine (unsat_is S2.out hpl.out).mono ?_); rw [HUC.out]; rintro e w6 ⟨v, F, rfl, UE, U9⟩; obtain ⟨pa, pp, hv, _⟩ := UE.out.gr _ (fun _ _ => rfl); subst hv; have U8 := U9.out r (blk_lt hr2.out) ow2.out; have hr6 := U8.1.trans hr2.out; have z0 := cell_of (o := 0) hr6; have z1 := cell_of (o := 1) hr6; have z2 := cell_of (o := 2) hr6; have z3 := cell_of (o := 3) hr6; have y0 := frozen_of (o := 0) hr6; have y1 := frozen_of (o := 1) hr6; have y2 := frozen_of (o := 2) hr6; have y3 := frozen_of (o := 3) hr6; have H8 := hid (res_blk (a' := .int .i64 2) (b' := .slice none 0 0) (cc' := .int .i64 cf) (d' := .slice pa ((upW s1 L2 s1.lev (litsF L2)).prf.length + 1) pp) hr6); have HE := hid (uns_store UE.out U8.2 hw0 (a' := .int .i64 2) (b' := .slice none 0 0) (cc' := .int .i64 cf) (d' := .slice pa ((upW s1 L2 s1.lev (litsF L2)).prf.length + 1) pp)); clear hr6 U8 U9 UE))
          generalize hW8 : ((((w6.setCell ⟨r, 0, none⟩ (.int .i64 2)).setCell ⟨r, 1, none⟩ (.slice none 0 0)).setCell ⟨r, 2, none⟩ (.int .i64 cf)).setCell ⟨r, 3, none⟩ (.slice pa ((upW s1 L2 s1.lev (litsF L2)).prf.length + 1) pp)) = w8 at *
          have r0 : w8.cell? ⟨r, 0, none⟩ = some (.int .i64 2) := cell_of H8.out
          have r1 : w8.cell? ⟨r, 1, none⟩ = some (.slice none 0 0) := cell_of H8.out
          have r2 : w8.cell? ⟨r, 2, none⟩ = some (.int .i64 cf) := cell_of H8.out
          have r3 : w8.cell? ⟨r, 3, none⟩ = some (.slice pa ((upW s1 L2 s1.lev (litsF L2)).prf.length + 1) pp) := cell_of H8.out
          refine bodyPost_ret (by simp [results, Tryz.results18, go_sem, r0, r1, r2, r3]; try rfl) rfl ?_
          exact .inr (.inl ⟨_, F, upW s1 L2 s1.lev (litsF L2), by rw [HUC.out], HE, hid ⟨hd1.out.iv.cf, hd1.out.cf, hd1.out.iv.fin, HZ.out⟩⟩)
        · have hl1 : ((lev : Int) == 0) = false := by rw [beq_eq_false_iff_ne]; omega
          by_cases hb : cf = bud
          · rw [hb] at d12
            have z0 := cell_of (o := 0) hr2.out
            have z1 := cell_of (o := 1) hr2.out
            have z2 := cell_of (o := 2) hr2.out
            have z3 := cell_of (o := 3) hr2.out
            have y0 := frozen_of (o := 0) hr2.out
            have y1 := frozen_of (o := 1) hr2.out
            have y2 := frozen_of (o := 2) hr2.out
            have y3 := frozen_of (o := 3) hr2.out
            have H8 := hid (res_blk (a' := .int .i64 0) (b' := .slice none 0 0) (cc' := .int .i64 bud) (d' := .slice none 0 0) hr2.out)
            have HE := hid (res_bel (a' := .int .i64 0) (b' := .slice none 0 0) (cc' := .int .i64 bud) (d' := .slice none 0 0) S2.out.b0 hw0)
            go_wp2_with (first
              | (go_at_call 32; with_reducible (refine (levels_is HT.out).mono ?_); rintro e w6 ⟨rfl, rfl⟩))
            rename_i w6
            generalize hW8 : ((((w6.setCell ⟨r, 0, none⟩ (.int .i64 0)).setCell ⟨r, 1, none⟩ (.slice none 0 0)).setCell ⟨r, 2, none⟩ (.int .i64 bud)).setCell ⟨r, 3, none⟩ (.slice none 0 0)) = w8 at *
            have r0 : w8.cell? ⟨r, 0, none⟩ = some (.int .i64 0) := cell_of H8.out
            have r1 : w8.cell? ⟨r, 1, none⟩ = some (.slice none 0 0) := cell_of H8.out
            have r2 : w8.cell? ⟨r, 2, none⟩ = some (.int .i64 bud) := cell_of H8.out
            have r3 : w8.cell? ⟨r, 3, none⟩ = some (.slice none 0 0) := cell_of H8.out
            refine bodyPost_ret (by simp [results, Tryz.results18, go_sem, r0, r1, r2, r3]; try rfl) rfl ?_
            exact .inr (.inr ⟨s1.prf, rfl, HE, hid ⟨by rw [← hd1.out.iv.cf, HCF.out, hb], hd1.out.iv.fin⟩⟩)
          · have hb2 : ((cf : Int) == bud) = false := by rw [beq_eq_false_iff_ne]; omega
            have hjn : j < g2.nx := by rw [T2.out.1.nx]; exact hj.out.1
            obtain ⟨lx, ps, hlp, ta⟩ := IV2.out.teach S2.out.W.j.t S2.out.W.j.n S2.out.W.rs (show 1 ≤ s1.lev by rw [HLV.out]; omega) hjn (by rw [T2.out.1.gn]; exact hj.out.2.1) (by rw [T2.out.1.lt]; exact hj.out.2.2)
            have hlen : Hid (g2.nx ≤ 20000 ∧ s1.prf.length ≤ 20000 ∧ s1.fs.length ≤ 20000 ∧ s1.ns.length ≤ 20000 ∧ s1.cls.length ≤ 20000 ∧ (g2.P (3 * c.kw.n)).length ≤ 1000000000000) := hid (by
              have a1 := hd1.out.nx hN
              have a2 := hd1.out.iv.cf
              have a3 := hd1.out.iv.fs
              have a4 := hd1.out.iv.ns
              have a5 := hd1.out.iv.cn
              have a6 := hd1.out.cf
              have a7 := tot_pl c.kw.n g2
              have a8 := hd1.out.su hN hn hK
              have a9 := T2.out.2
              rw [T2.out.1.nx]
              omega)
            have HLS := hid (learn_s S2.out (j : Int) hlp hn (by rw [hf]; exact IV2.out.rsn S2.out.W.rs hjn _) (by have := hlen.out; omega) hlen.out.2.2.2.2.2 (show s1.cls.length ≤ _ by have := hlen.out; omega) (show s1.fs.length ≤ _ by have := hlen.out; omega) (show s1.ns.length ≤ _ by have := hlen.out; omega) (by omega) (show s1.prf.length ≤ _ by have := hlen.out; omega) (show s1.wg ≤ _ by have := hd1.out.iv.wg; omega) (show s1.cf ≤ _ by have := HCF.out; omega))
            have HTA := hid ta
            have HLT : Hid (s1.cf < bud) := hid (by have := HCF.out; omega)
            clear hlp ta hlen
            go_wp2_with (first
              | (go_at_call 32; with_reducible (refine (levels_is HT.out).mono ?_); rintro e w6 ⟨rfl, rfl⟩)
              | (go_at_call 34; with_reducible (refine HLS.out.mono ?_); rintro e w7 ⟨es, g7, rfl, PM, N7, D7⟩; have n8 := Nx.out N7.out; obtain ⟨m7, h7, k7⟩ := n8))
            have HH := hid (hd1.out.lrn (cn := (j : Int)) hN S2.out IV2.out HTA.out PM.out D7.out T2.out.2 rfl HLT.out hf)
            go_roundw
            case rel => exact ⟨g7, _, m7, h7, hid (K2.out.trans k7.out), hid HH.out.1⟩
            case measure => rw [mu_of h7.out, NM.out]; exact HH.out.2
      · have HCL := hid (run_true V.out)
        by_cases hce : en ≤ cf
        · have hce' : (en : Int) ≤ cf := by omega
          go_upto_region 8 with fail
          go_quiet (fail)
          obtain ⟨mE, hE, kE⟩ := S2.out.xbelow (drewN_any _ wc nq)
          have HE2 := hid hE
          have KE := hid (K2.out.trans kE)
          clear hE kE
          have HAC := hid (HHA.out _ _ _ _ HE2.out IV2.out (show s1.en ≤ s1.cf by rw [HEN.out, HCF.out]; exact hce) hd1.out.cf)
          go_wp2_with (first
            | (go_at_call 35; with_reducible (refine HAC.out.mono ?_); rintro e w7 ⟨rfl, g7, s7, N7, I7⟩; have n8 := Nx.out N7.out; obtain ⟨m7, h7, k7⟩ := n8))
          have HH := hid (hd1.out.anew hN I7.out.1 T2.out.2 I7.out.2.2.2 I7.out.2.1 I7.out.2.2.1 (by rw [HEN.out, HCF.out]; exact hce))
          go_roundw
          case rel => exact ⟨g7, s7, m7, h7, hid (KE.out.trans k7.out), hid HH.out.1⟩
          case measure => rw [mu_of h7.out, NM.out]; exact HH.out.2
        · have hce' : ¬ (en : Int) ≤ cf := by omega
          go_upto_region 8 with fail
          go_quiet (fail)
          obtain ⟨mE, hE, kE⟩ := S2.out.xbelow (drewN_any _ wc nq)
          have HE2 := hid hE
          have KE := hid (K2.out.trans kE)
          clear hE kE
          have HDE := hid (decide_s HE2.out)
          go_wp2_with (first
            | (go_at_call 36; with_reducible (refine HDE.out.mono ?_); rintro e w7 ⟨bq, rfl, nw⟩; cases bq <;> (have n8 := NxW.out nw; obtain ⟨s7, m7, HD7, h7, k7⟩ := n8; clear nw))
            | (go_at_call 37; with_reducible (refine (sat_is h7.out).mono ?_); rintro e w8 ⟨tb, rfl, B8, M8, L8, Z8⟩; obtain ⟨cf7, hcf7⟩ : ∃ cf7, s7.cf = cf7 := ⟨_, rfl⟩; have hr7 := hid (((KE.out.trans k7.out).zz r hrl (.inr OW.out)).1.trans HR.out); have ow7 := hid (((KE.out.trans k7.out).zz r hrl (.inr OW.out)).2.trans OW.out); have Z9 := Z8.out r (blk_lt hr7.out) ow7.out; have hr8 := Z9.1.trans hr7.out; have z0 := cell_of (o := 0) hr8; have z1 := cell_of (o := 1) hr8; have z2 := cell_of (o := 2) hr8; have z3 := cell_of (o := 3) hr8; have y0 := frozen_of (o := 0) hr8; have y1 := frozen_of (o := 1) hr8; have y2 := frozen_of (o := 2) hr8; have y3 := frozen_of (o := 3) hr8))
          · have SE := hid (sat_end S2.out h7.out IV2.out HCL.out HD7.out)
            have HCF7 : Hid (s7.cf = cf) := hid (SE.out.1.trans HUC.out)
            obtain rfl : cf = cf7 := HCF7.out.symm.trans hcf7
            have H8 := hid (res_blk (a' := .int .i64 1) (b' := .slice (some ⟨tb, 0, none⟩) c.kw.n c.kw.n) (cc' := .int .i64 cf) (d' := .slice none 0 0) hr8)
            have HE := hid (res_bel (a' := .int .i64 1) (b' := .slice (some ⟨tb, 0, none⟩) c.kw.n c.kw.n) (cc' := .int .i64 cf) (d' := .slice none 0 0) B8.out hw0)
            have HM := hid ((res_oth (a' := .int .i64 1) (b' := .slice (some ⟨tb, 0, none⟩) c.kw.n c.kw.n) (cc' := .int .i64 cf) (d' := .slice none 0 0) Z9.2.symm).trans M8.out)
            generalize hW9 : ((((w8.setCell ⟨r, 0, none⟩ (.int .i64 1)).setCell ⟨r, 1, none⟩ (.slice (some ⟨tb, 0, none⟩) c.kw.n c.kw.n)).setCell ⟨r, 2, none⟩ (.int .i64 cf)).setCell ⟨r, 3, none⟩ (.slice none 0 0)) = w9 at *
            have r0 : w9.cell? ⟨r, 0, none⟩ = some (.int .i64 1) := cell_of H8.out
            have r1 : w9.cell? ⟨r, 1, none⟩ = some (.slice (some ⟨tb, 0, none⟩) c.kw.n c.kw.n) := cell_of H8.out
            have r2 : w9.cell? ⟨r, 2, none⟩ = some (.int .i64 cf) := cell_of H8.out
            have r3 : w9.cell? ⟨r, 3, none⟩ = some (.slice none 0 0) := cell_of H8.out
            refine bodyPost_ret (by simp [results, Tryz.results18, go_sem, r0, r1, r2, r3]; try rfl) rfl ?_
            exact .inl ⟨tb, cf, _, rfl, HE, HM, hid ⟨L8.out, hcb, SE.out.2⟩⟩
          · have HH := hid (hd1.out.dec hN S2.out h7.out IV2.out HCL.out T2.out.2 rfl rfl X2.out.len HD7.out)
            go_roundw
            case rel => exact ⟨g2, s7, m7, h7, hid (KE.out.trans k7.out), hid HH.out.1⟩
            case measure => rw [mu_of h7.out, NM.out]; exact HH.out.2
end
end Go.Proofs.YtimfjoinjfecjaaGreat
