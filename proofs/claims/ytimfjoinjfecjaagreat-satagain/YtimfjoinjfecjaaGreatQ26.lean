/-
  A watch, clauses in a list beside it, and what Run tells.
  A solver in memory: its own fields, its trail, its watch, its order, lists of clauses beside them; which block is whose.
  nextRound, and what is known of the clauses that were learned: add, use.
  add: a clause is there.
  The order's calls, of a solver; weigh.
  keepTruths: the truths of what is taken back are kept.
-/
import Derived.Test.YtimfjoinjfecjaaGreatQ25
import Derived.Test.YtimfjoinjfecjaaGreatQ12
import Derived.Test.YtimfjoinjfecjaaGreatQ22
import Derived.Test.YtimfjoinjfecjaaGreatQ19
import Derived.Deep.RegionHeld3
import Derived.Test.YtimfjoinjfecjaaGreatQ18

namespace Go.Proofs.YtimfjoinjfecjaaGreat
open Go.RowKit Go.Maps
set_option linter.unusedVariables false

theorem Tryz.infoG : (Tryz.prog.info? 42).map (fun i => (i.zero, i.size, i.bytes)) = some (some (.slice none 0 0), 1, 24) := by kernel_rfl

/-- The values are lists that lie in memory. -/
def GV (w : World) (vs : List Value) (xss : List (List Int)) : Prop := vs.length = xss.length ∧ ∀ j, j < vs.length → ∃ a m c, vs[j]? = some (.slice a m c) ∧ U.Row w a m c (xss.getD j [])

theorem GV.keep {w w' : World} {vs : List Value} {xss : List (List Int)} (h : GV w vs xss) (b : Below w.heap.size w w') : GV w' vs xss := by
  refine ⟨h.1, fun j hj => ?_⟩
  obtain ⟨a, m, c, h1, h2⟩ := h.2 j hj
  exact ⟨a, m, c, h1, h2.keep b⟩

theorem own_grid {w : World} {B : Nat} {v : Value} {vs : List Value} {xss : List (List Int)} (own : w.ownsRow B 42 1 v vs.length vs) (g : GV w vs xss) : ∃ ao c, v = .slice ao vs.length c ∧ U.Grid w ao vs.length c xss := by
  rcases own.2 with ⟨rfl, hn⟩ | ⟨gb, cap, cur, rfl, hb, hg, hl, hm, rest⟩
  · rw [hn]
    refine ⟨none, 0, rfl, ⟨by have := g.1; omega, Nat.le_refl _, by unfold maxLen; omega, fun _ => rfl, fun h => by omega⟩⟩
  · refine ⟨_, _, rfl, g.1.symm, hl, hm, fun h => by simp at h, fun _ => ⟨gb, 0, rfl, fun j hj => ?_⟩⟩
    obtain ⟨a, m, c, h1, h2⟩ := g.2 j hj
    have h3 : w.ownsRow B 42 1 (.slice (some ⟨gb, 0, none⟩) vs.length cap) vs.length vs := own
    refine ⟨a, m, c, ?_, h2⟩
    rw [Nat.zero_add, h3.cellAt j (by omega)]
    exact h1

theorem GV.app {w : World} {vs us : List Value} {xss yss : List (List Int)} (h : GV w vs xss) (g : GV w us yss) : GV w (vs ++ us) (xss ++ yss) := by
  refine ⟨by simp [h.1, g.1], fun j hj => ?_⟩
  by_cases hjl : j < vs.length
  · obtain ⟨a, m, c, e1, e2⟩ := h.2 j hjl
    refine ⟨a, m, c, by rw [List.getElem?_append_left hjl]; exact e1, ?_⟩
    have : (xss ++ yss).getD j [] = xss.getD j [] := by
      simp only [List.getD_eq_getElem?_getD]; rw [List.getElem?_append_left (by rw [← h.1]; exact hjl)]
    rw [this]; exact e2
  · have hj2 : j - vs.length < us.length := by simp at hj; omega
    obtain ⟨a, m, c, e1, e2⟩ := g.2 (j - vs.length) hj2
    refine ⟨a, m, c, by rw [List.getElem?_append_right (by omega)]; exact e1, ?_⟩
    have : (xss ++ yss).getD j [] = yss.getD (j - vs.length) [] := by
      simp only [List.getD_eq_getElem?_getD]; rw [List.getElem?_append_right (by rw [← h.1]; omega), ← h.1]
    rw [this]; exact e2

/-- A list of clauses that the call has made; the clauses are older. -/
def OwnG (w0 w : World) (v : Value) (xss : List (List Int)) : Prop := ∃ vs, w.ownsRow w0.heap.size 42 1 v xss.length vs ∧ GV w0 vs xss

theorem OwnG.nil (w0 w : World) : OwnG w0 w (.slice none 0 0) [] := ⟨[], World.ownsRow_nil _ _ _ _, rfl, fun j hj => by simp at hj⟩

theorem OwnG.alloc {w0 w : World} {v : Value} {xss : List (List Int)} (h : OwnG w0 w v xss) (o : Obj) : OwnG w0 (w.alloc o) v xss := by
  obtain ⟨vs, h1, h2⟩ := h
  exact ⟨vs, h1.alloc o, h2⟩

theorem OwnG.same {w0 w w' : World} {v : Value} {xss : List (List Int)} (h : OwnG w0 w v xss) (hb : ∀ j, Typ w j 42 → w'.heap[j]? = w.heap[j]?) : OwnG w0 w' v xss := by
  obtain ⟨vs, ⟨h0, h1⟩, h2⟩ := h
  refine ⟨vs, ⟨h0, ?_⟩, h2⟩
  rcases h1 with h1 | ⟨g, cap, cur, e, hb', hg, rest⟩
  · exact .inl h1
  · exact .inr ⟨g, cap, cur, e, hb', by rw [hb g ⟨_, _, hg⟩]; exact hg, rest⟩

theorem OwnG.keep {w0 w w' : World} {v : Value} {xss : List (List Int)} (h : OwnG w0 w v xss) (b : Below w.heap.size w w') : OwnG w0 w' v xss := h.same (fun j t => b.block j t.lt)

theorem OwnG.fw {B : Nat} {w0 w w' : World} {v : Value} {xss : List (List Int)} (h : OwnG w0 w v xss) (f : FW B w w') : OwnG w0 w' v xss := h.same (fun j t => f.block j 42 t (by simp [Wt]))

theorem Trl.mine23 {k : K} {w : World} {L : List E} {lev : Nat} {p : V} (t : Trl k w L lev p) {j : Nat} (h : Mine k p j) : ∃ T, Typ w j T ∧ T ≠ 42 := by
  obtain ⟨F, S, s, _⟩ := t
  rcases h with e | e | e | e
  · obtain ⟨c, h, _⟩ := s.fc
    exact ⟨157, by rw [e]; exact ⟨_, _, h⟩, by decide⟩
  · exact ⟨78, by rw [e]; exact ⟨_, _, s.cl⟩, by decide⟩
  · exact ⟨3, s.rl.typ e, by decide⟩
  · exact ⟨3, (LRow.of_own s.rs).typ e, by decide⟩

theorem OwnG.ft {k : K} {B : Nat} {L : List E} {lev : Nat} {p p' : V} {w0 w w' : World} {v : Value} {xss : List (List Int)} (h : OwnG w0 w v xss) (t : Trl k w L lev p) (f : FT k B p p' w w') : OwnG w0 w' v xss :=
  h.same (fun j ht => f.block j 42 ht (by simp [Wt]) (fun m => by
    obtain ⟨T', h1, h2⟩ := t.mine23 m
    exact h2 (h1.one ht)))

theorem OwnG.grid {w0 w : World} {v : Value} {xss : List (List Int)} (h : OwnG w0 w v xss) (b : Below w0.heap.size w0 w) : ∃ ao n c, v = .slice ao n c ∧ Hid (n = xss.length) ∧ Hid (U.Grid w ao n c xss) := by
  obtain ⟨vs, h1, h2⟩ := h
  have e : xss.length = vs.length := h2.1.symm
  rw [e] at h1
  obtain ⟨ao, c, e2, g⟩ := own_grid h1 (h2.keep b)
  exact ⟨ao, _, c, e2, e.symm, g⟩

theorem Told.same {k : K} {p : V} {w w' : World} {v : Value} {xs : List Int} (h : Told k p w v xs) (hb : ∀ j, Typ w j 3 → w'.heap[j]? = w.heap[j]?) : Told k p w' v xs := by
  obtain ⟨ao, n, c, h1, h2, h3, h4, h5, h5', h6, h7⟩ := h
  refine ⟨ao, n, c, h1, h2, h3, h4, h5, h5', h6, fun j x hx => ?_⟩
  obtain ⟨b, q1, q2, q3, q4⟩ := h7 j x hx
  exact ⟨b, q1, (World.cell?_of_block (hb b q3)).trans q2, q3.same (hb b q3), q4⟩

section
variable {k : K} {kw : WK} {w w1 w' w0 : World} {g g' : G} {L L' : List E} {lev lev' : Nat} {p p' : V} {H H' : List Int}

theorem Wa.below (W : Wa k kw w g L lev p H) (b : Below w.heap.size w w') : Wa k kw w' g L lev p H := ⟨W.j.below b, W.iv, W.ht.ft (FT.below (B := 0) b), W.hf, W.hH, W.hl, W.rs⟩

/-- The list of clauses has changed. -/
theorem Wa.other (W : Wa k kw w g L lev p H) {r : Nat} (gr : w.grownBy w' (some r)) (hr : Typ w r 42) : Wa k kw w' g L lev p H := by
  have key : ∀ j T', Typ w j T' → T' ≠ 42 → w'.heap[j]? = w.heap[j]? := fun j T' t n1 => gr.block j t.lt (fun e => by
    cases e
    exact n1 (t.one hr))
  have tr : Trl k w' L lev p := W.j.t.keep gr (fun j hj m => by
    cases hj
    obtain ⟨T', h1, h2⟩ := W.j.t.mine23 m
    exact h2 (h1.one hr))
  have st : St kw w' g := W.j.s.same (fun j T' t hw => key j T' t (by rintro rfl; simp [Wt] at hw)) (fun j es clock e => gr.block j (blk_lt e) (fun e2 => by
    cases e2; obtain ⟨c, f, q⟩ := hr; rw [e] at q; cases q)) (fun i j _ _ _ _ t => key j 3 t (by decide))
  exact ⟨⟨tr, st, W.j.n, W.j.b, W.j.aw⟩, W.iv, W.ht.same (fun j t => key j 3 t (by decide)), W.hf, W.hH, W.hl, W.rs⟩

theorem Wa.fr (W : Wa k kw w g L lev p H) (f : Fr k p p' w w') (t : Trl k w' L' lev' p') (rs : Rs g L') : Wa k kw w' g L' lev' p' H :=
  ⟨W.j.fr f t, W.iv, W.ht.ft (FT.fr W.j.t W.j.b f), W.hf, W.hH, W.hl, rs⟩

theorem Rs.addL {n : Nat} (h : Rs g L) (l : Int) (gg : Nat) : Rs g (addL n L l gg (-1)) := by
  unfold Go.Proofs.YtimfjoinjfecjaaGreat.addL
  split
  · exact h.snoc (fun c => by change (0 : Int) ≤ -1 at c; omega)
  · exact h

theorem wa_decide (W : Wa k kw w g L lev p H) (l : Int) (hu : l ≤ 9223372036854775807) :
    Calls Tryz.prog 62 #[.pointer (some ⟨k.OB, 0, none⟩), .int .i64 l] w fun e w' => ∃ b L' lev' p', e = .returned (.bool b) ∧ Hid (b = mayF k.n L l ∧ L' = addL k.n L l (lev + 1) (-1) ∧ lev' = decV k.n L lev l) ∧ Hid (Wa k kw w' g L' lev' p' H) ∧ Hid (FT k kw.B p p' w w') := by
  refine (decide_is W.j.t l hu rfl rfl rfl).mono fun e w' h => ?_
  obtain ⟨p', rfl, t, f⟩ := h
  exact ⟨_, _, _, p', rfl, ⟨rfl, rfl, rfl⟩, W.fr f.out t.out (W.rs.addL l (lev + 1)), FT.fr W.j.t W.j.b f.out⟩

/-- What Run tells, in one form. -/
def RunV (g g' : G) (L' : List E) (i : Int) (ok : Bool) : Prop := (ok = true ∧ i = -1 ∧ Closed g' L') ∨ ∃ c : Nat, ok = false ∧ i = c ∧ c < g.nx ∧ g.gn c = false ∧ ∀ y ∈ g.lt c, valueF L' y = -1

theorem run_one (W : Wa k kw w g L lev p H) (hnx : g.nx ≤ 1000000) (hsu : tot kw.n g + kw.n * g.nx ≤ 300000000000) :
    Calls Tryz.prog 31 #[.pointer (some ⟨kw.OB, 0, none⟩), .pointer (some ⟨k.OB, 0, none⟩)] w fun e w' => ∃ i ok g' L' p', e = .returned (.tuple #[.int .i64 i, .bool ok]) ∧ Hid (RunV g g' L' i ok) ∧ Hid (Wa k kw w' g' L' lev p' (litsF L')) ∧ Hid (Sm0 g g' ∧ tot kw.n g' ≤ tot kw.n g + (kw.n * g.nx + 1)) ∧ Hid (Ext L L' lev) ∧ Hid (FT k kw.B p p' w w' ∧ ∀ j, g'.hv.ownBlock = some j → Mine k p' j) := by
  refine (run_is W hnx hsu).mono fun e w' h => ?_
  obtain ⟨g', L', p', h1, h2, h3, h4, h5, h5', h6⟩ := h
  rcases h6 with ⟨rfl, h7⟩ | ⟨c, rfl, h7, h8, h9⟩
  · exact ⟨_, _, g', L', p', rfl, .inl ⟨rfl, rfl, h7⟩, h1, ⟨h2, h4⟩, h3, ⟨h5, h5'⟩⟩
  · exact ⟨_, _, g', L', p', rfl, .inr ⟨c, rfl, rfl, h7, h8, h9⟩, h1, ⟨h2, h4⟩, h3, ⟨h5, h5'⟩⟩

theorem tot_zero (n : Nat) : tot n g0 = 0 := by
  unfold tot sumL
  have : ∀ m, ((List.range m).map (fun v => (g0.P (2 * n + v)).length)).sum = 0 := by
    intro m
    induction m with
    | zero => rfl
    | succ m ih => rw [List.range_succ, List.map_append, List.sum_append, ih]; rfl
  rw [this]; rfl

theorem tot_pl (n : Nat) (g : G) : (g.P (3 * n)).length ≤ tot n g := by unfold tot; omega

/-- What is decided stands above all before it. -/
def Dc (L : List E) : Prop := ∀ (q : Nat) (e : E), L[q]? = some e → e.r < 0 → 1 ≤ e.g ∧ ∀ (q' : Nat) (e' : E), q' < q → L[q']? = some e' → e'.g < e.g

theorem Dc.nil : Dc [] := fun q e h => by simp at h

theorem Dc.ext (h : Dc L) (x : Ext L L' lev) : Dc L' := by
  obtain ⟨M, rfl, hM⟩ := x
  intro q e he hr
  by_cases c : q < L.length
  · rw [List.getElem?_append_left c] at he
    obtain ⟨h1, h2⟩ := h q e he hr
    refine ⟨h1, fun q' e' hq' he' => h2 q' e' hq' ?_⟩
    rw [List.getElem?_append_left (by omega)] at he'
    exact he'
  · rw [List.getElem?_append_right (by omega)] at he
    have := (hM e (List.mem_of_getElem? he)).2
    omega

theorem Dc.dec (h : Dc L) (hg : ∀ e ∈ L, e.g ≤ lev) (m : Nat) : Dc (L ++ [⟨m, lev + 1, -1⟩]) := by
  intro q e he hr
  by_cases c : q < L.length
  · rw [List.getElem?_append_left c] at he
    obtain ⟨h1, h2⟩ := h q e he hr
    refine ⟨h1, fun q' e' hq' he' => h2 q' e' hq' ?_⟩
    rw [List.getElem?_append_left (by omega)] at he'
    exact he'
  · rw [List.getElem?_append_right (by omega)] at he
    have hm := List.mem_of_getElem? he
    rw [List.mem_singleton] at hm
    subst hm
    refine ⟨Nat.le_add_left _ _, fun q' e' hq' he' => ?_⟩
    have hq2 : q < L.length + 1 := by
      have := (List.getElem?_eq_some_iff.1 he).1
      simp at this; omega
    rw [List.getElem?_append_left (by omega)] at he'
    have := hg e' (List.mem_of_getElem? he')
    show e'.g < lev + 1
    omega

/-- The clauses of a watch, in a list. -/
structure Cls (n : Nat) (g : G) (cls : List (List Int)) : Prop where
  nx : g.nx = cls.length
  lt : ∀ i, i < g.nx → cls[i]? = some (g.lt i)
  gn : ∀ i, i < g.nx → g.gn i = false
  nn : ∀ c ∈ cls, ∀ y ∈ c, 0 ≤ y ∧ y < 2 * (n : Int)

theorem Cls.nil (n : Nat) : Cls n g0 [] := ⟨rfl, fun i hi => by simp [g0] at hi, fun i hi => by simp [g0] at hi, fun c hc => by simp at hc⟩

theorem Cls.sm {n : Nat} {cls : List (List Int)} (h : Cls n g cls) (s : Sm0 g g') : Cls n g' cls :=
  ⟨by rw [s.nx]; exact h.nx, by rw [s.nx, s.lt]; exact h.lt, by rw [s.nx, s.gn]; exact h.gn, h.nn⟩

theorem Cls.add {n : Nat} {cls : List (List Int)} {xs : List Int} (h : Cls n g cls) {sz : Nat} (d : AddD n sz g g' xs) (hx : ∀ x ∈ xs, 0 ≤ x ∧ x < 2 * (n : Int)) : Cls n g' (cls ++ [xs]) := by
  have h0 := h.nx
  refine ⟨by rw [d.nx, h0]; simp, fun i hi => ?_, fun i hi => ?_, fun c hc => ?_⟩
  · rw [d.nx] at hi
    rw [d.lt]
    by_cases e : i = g.nx
    · subst e; rw [up_same, h0]; simp
    · rw [up_ne _ _ e, List.getElem?_append_left (by omega)]; exact h.lt i (by omega)
  · rw [d.nx] at hi
    rw [d.gn]
    by_cases e : i = g.nx
    · subst e; rw [up_same]
    · rw [up_ne _ _ e]; exact h.gn i (by omega)
  · rcases List.mem_append.1 hc with hc | hc
    · exact h.nn c hc
    · rw [List.mem_singleton] at hc; subst hc; exact hx
end
end Go.Proofs.YtimfjoinjfecjaaGreat

namespace Go.Proofs.YtimfjoinjfecjaaGreat
open Go.RowKit Go.Maps
set_option linter.unusedVariables false

/-- From w to w' blocks of two owners alone have changed. -/
structure Cg (ow : Nat → Nat) (t u : Nat) (w w' : World) : Prop where
  os : w'.os = w.os
  tape : w'.tape = w.tape
  output : w'.output = w.output
  size : w.heap.size ≤ w'.heap.size
  block : ∀ j, j < w.heap.size → ow j ≠ t → ow j ≠ u → w'.heap[j]? = w.heap[j]?

theorem Cg.grown {ow : Nat → Nat} {t u : Nat} {w w' : World} {r : Option Nat} (g : w.grownBy w' r) (hr : ∀ j, r = some j → j < w.heap.size → ow j = t) : Cg ow t u w w' :=
  ⟨g.os, g.tape, g.output, g.size, fun j hj hn _ => g.block j hj (fun e => hn (hr j e.symm hj))⟩
theorem Cg.below {ow : Nat → Nat} {t u : Nat} {w w' : World} (b : Below w.heap.size w w') : Cg ow t u w w' := Cg.grown (grown_below b) (fun j h => by cases h)
theorem Cg.set {ow : Nat → Nat} {t u : Nat} {w w' : World} (h : Cg ow t u w w') {a : Addr} (ha : ow a.block = t ∨ ow a.block = u) (v : Value) : Cg ow t u w (w'.setCell a v) :=
  ⟨h.os, h.tape, h.output, by simpa [World.setCell] using h.size, fun j hj h1 h2 => (set_other v (fun e => by subst e; omega)).trans (h.block j hj h1 h2)⟩
theorem Cg.trans {ow : Nat → Nat} {t u : Nat} {w w' w'' : World} (h : Cg ow t u w w') (g : Cg ow t u w' w'') : Cg ow t u w w'' :=
  ⟨g.os.trans h.os, g.tape.trans h.tape, g.output.trans h.output, Nat.le_trans h.size g.size, fun j hj h1 h2 => (g.block j (Nat.lt_of_lt_of_le hj h.size) h1 h2).trans (h.block j hj h1 h2)⟩

/-- What a watch stands on. -/
def FootW (kw : WK) (g : G) (j : Nat) : Prop :=
  j = kw.OB ∨ j = kw.WB ∨ j = kw.FB ∨ (∃ i, i < g.nx ∧ g.cb i = j) ∨ (∃ s, s ≤ 3 * kw.n ∧ (g.pv s).ownBlock = some j) ∨ g.mp = some j

/-- What Wa stands on. -/
def Foot (k : K) (kw : WK) (g : G) (p : V) (H : List Int) (j : Nat) : Prop :=
  Mine k p j ∨ FootW kw g j ∨ (∃ i, i < g.nx ∧ g.gn i = false ∧ (g.lv i).ownBlock = some j ∧ 0 < (g.lt i).length) ∨ (0 < H.length ∧ g.hv.ownBlock = some j)

theorem St.foot {k : WK} {w w' : World} {g : G} (h : St k w g) (hb : ∀ j, FootW k g j → w'.heap[j]? = w.heap[j]?) (hl : ∀ i j, i < g.nx → g.gn i = false → (g.lv i).ownBlock = some j → 0 < (g.lt i).length → w'.heap[j]? = w.heap[j]?) : St k w' g := by
  refine ⟨⟨by rw [hb _ (.inl rfl)]; exact h.c.ob, by rw [hb _ (.inr (.inl rfl))]; exact h.c.wb, by rw [hb _ (.inr (.inr (.inl rfl)))]; exact h.c.fb, h.c.lo⟩,
    h.l.hn, fun i hi => by rw [hb _ (.inr (.inr (.inr (.inl ⟨i, hi, rfl⟩))))]; exact h.l.cl i hi, h.l.inj, fun s hs => (h.l.rw s hs).same (fun j c f e he => hb j (.inr (.inr (.inr (.inr (.inl ⟨s, hs, he⟩)))))), h.l.sub, h.l.ne, fun i hi hg => (h.l.li i hi hg).same (fun j e h0 _ => hl i j hi hg e h0), ?_, h.l.lo⟩
  rcases h.l.mp with q | ⟨mb, D, h1, h2⟩
  · exact .inl q
  · exact .inr ⟨mb, D, h1, h2.same (hb mb (.inr (.inr (.inr (.inr (.inr h1))))))⟩

theorem St.foot_typ {k : WK} {w : World} {g : G} (h : St k w g) {j : Nat} (hj : FootW k g j) : (∃ T, Typ w j T ∧ Wt T) ∨ ∃ es ck, w.heap[j]? = some (Obj.map es ck) := by
  rcases hj with rfl | rfl | rfl | ⟨i, hi, rfl⟩ | ⟨s, hs, e⟩ | e
  · exact .inl ⟨_, ⟨_, _, h.c.ob⟩, by simp [Wt]⟩
  · obtain ⟨c, h1, _⟩ := h.c.wb
    exact .inl ⟨_, ⟨_, _, h1⟩, by simp [Wt]⟩
  · obtain ⟨c, h1, _⟩ := h.c.fb
    exact .inl ⟨_, ⟨_, _, h1⟩, by simp [Wt]⟩
  · exact .inl ⟨_, ⟨_, _, h.l.cl i hi⟩, by simp [Wt]⟩
  · exact .inl ⟨_, (h.l.rw s hs).typ e, by simp [Wt]⟩
  · rcases h.l.mp with ⟨q, _⟩ | ⟨mb, D, h1, h2⟩
    · rw [q] at e; cases e
    · rw [h1] at e; cases e
      obtain ⟨es, ck, hb, _⟩ := h2.own
      exact .inr ⟨es, ck, hb⟩

theorem Wa.keep {k : K} {kw : WK} {w w' : World} {g : G} {L : List E} {lev : Nat} {p : V} {H : List Int} (W : Wa k kw w g L lev p H) (hb : ∀ j, Foot k kw g p H j → w'.heap[j]? = w.heap[j]?) : Wa k kw w' g L lev p H := by
  have tr : Trl k w' L lev p := by
    obtain ⟨F, S, s, q, h⟩ := W.j.t
    exact ⟨F, S, s.same (fun j hj => hb j (.inl hj)), q, h⟩
  have st : St kw w' g := W.j.s.foot (fun j hj => hb j (.inr (.inl hj))) (fun i j hi hg e h0 => hb j (.inr (.inr (.inl ⟨i, hi, hg, e, h0⟩))))
  refine ⟨⟨tr, st, W.j.n, W.j.b, W.j.aw⟩, W.iv, ?_, W.hf, W.hH, W.hl, W.rs⟩
  obtain ⟨ao, n, c, h1, h2, h3, h4, h5, h5', h6, h7⟩ := W.ht
  refine ⟨ao, n, c, h1, h2, h3, h4, h5, h5', h6, fun j x hx => ?_⟩
  obtain ⟨b, q1, q2, q3, q4⟩ := h7 j x hx
  have e := hb b (.inr (.inr (.inr ⟨by have := (List.getElem?_eq_some_iff.1 hx).1; omega, by rw [h1, q1]; rfl⟩)))
  exact ⟨b, q1, (World.cell?_of_block e).trans q2, q3.same e, q4⟩

theorem Wa.foot_lt {k : K} {kw : WK} {w : World} {g : G} {L : List E} {lev : Nat} {p : V} {H : List Int} (W : Wa k kw w g L lev p H) {j : Nat} (h : Foot k kw g p H j) : j < w.heap.size := by
  rcases h with h | h | ⟨i, h1, h2, h3, h4⟩ | ⟨h0, h⟩
  · exact (W.j.t.lt h).2
  · rcases W.j.s.foot_typ h with ⟨T, q, _⟩ | ⟨es, ck, q⟩
    · exact q.lt
    · exact blk_lt q
  · exact ((W.j.s.l.li i h1 h2).lt h3 h4).lt
  · obtain ⟨ao, n, cp, h1, h2, h3, h4, h5, h5', h6, h7⟩ := W.ht
    obtain ⟨b, q1, q2, q3, q4⟩ := h7 0 _ (List.getElem?_eq_getElem h0)
    rw [h1, q1] at h
    simp [Value.ownBlock] at h
    subst h
    exact q3.lt

theorem Od.Ord.keep {k : Od.K} {w w' : World} {A : List Int} {W : List Bool} {v : Value} (h : Od.Ord k w A W v) (hb : ∀ j, Od.Mine k v j → w'.heap[j]? = w.heap[j]?) : Od.Ord k w' A W v := by
  obtain ⟨hs, ⟨P, s, p⟩, hp, g⟩ := h
  refine ⟨hs, ⟨P, ⟨s.lo1, s.lo2, s.ne, s.lt1, s.lt2, s.hn, s.la, s.lp, ?_, ?_, ?_, s.wt.1, ?_⟩, p⟩, hp, g⟩
  · rw [hb _ (.inr (.inr (.inl rfl)))]; exact s.cl
  · rw [hb _ (.inl rfl)]; exact s.ac
  · rw [hb _ (.inr (.inl rfl))]; exact s.pl
  · rcases s.wt.2 with h | ⟨b, cap, cur, e, h1, h2, r⟩
    · exact .inl h
    · exact .inr ⟨b, cap, cur, e, h1, by rw [hb b (.inr (.inr (.inr (by rw [e]; rfl))))]; exact h2, r⟩

theorem Od.Ord.mine_lt {k : Od.K} {w : World} {A : List Int} {W : List Bool} {v : Value} (h : Od.Ord k w A W v) {j : Nat} (hj : Od.Mine k v j) : k.B ≤ j ∧ j < w.heap.size := by
  obtain ⟨hs, ⟨P, s, p⟩, hp, g⟩ := h
  exact s.mine_lt hj

/-- What is known of a clause that was learned. -/
structure Fa where
  s : Int
  g : Int
  a : Int

def facc (fs : List Fa) : List Value := fs.flatMap (fun f => [.int .i64 f.s, .int .i64 f.g, .int .i64 f.a])

theorem facc_app (a b : List Fa) : facc (a ++ b) = facc a ++ facc b := by simp [facc]

/-- What a solver has, without where it lies. -/
structure SS where
  L : List E
  lev : Nat
  H : List Int
  A : List Int
  W : List Bool
  cls : List (List Int)
  prf : List (List Int)
  fs : List Fa
  ns : List Int
  lim : Nat
  tr : List Bool
  wg : Nat
  cf : Nat
  rd : Nat
  en : Nat

/-- Where it lies. -/
structure SC where
  k : K
  kw : WK
  ko : Od.K
  SB : Nat
  fst : Nat
  all : Bool

/-- Values, and whose the blocks are: 1 of the trail and the watch (and all that is nobody's), 2 of the order, 3 numbers, 4 clauses, 5 the proof, 6 the solver's fields, 7 truths, 8 facts, 0 what is never written again. -/
structure MV where
  p : V
  ov : Value
  cv : Value
  fv : Value
  nv : Value
  pv : Value
  tb : Nat
  ow : Nat → Nat

def sbc (c : SC) (s : SS) (m : MV) : Array Value :=
  #[.pointer (some ⟨c.k.OB, 0, none⟩), .pointer (some ⟨c.kw.OB, 0, none⟩), .pointer (some ⟨c.ko.OB, 0, none⟩), m.cv, .int .i64 c.fst, m.fv, m.nv, .bool c.all, .int .i64 s.lim, m.pv, .slice (some ⟨m.tb, 0, none⟩) c.kw.n c.kw.n, .int .i64 s.wg, .int .i64 s.cf, .int .i64 s.rd, .int .i64 s.en]

/-- Values that are lists, old or never written again. -/
def GVt (w0 w : World) (ow : Nat → Nat) (vs : List Value) (xss : List (List Int)) : Prop :=
  vs.length = xss.length ∧ ∀ j, j < vs.length → ∃ a m c, vs[j]? = some (.slice a m c) ∧ U.Row w a m c (xss.getD j []) ∧ (0 < m → ∃ b off, a = some ⟨b, off, none⟩ ∧ (b < w0.heap.size ∨ (b < w.heap.size ∧ ow b = 0)))

/-- Lists of the proof are new. -/
def Nwr (w0 : World) (t : Nat) (vs : List Value) : Prop := t = 5 → ∀ u ∈ vs, ∀ a n c, u = .slice a n c → 0 < n → ∃ b off, a = some ⟨b, off, none⟩ ∧ w0.heap.size ≤ b
theorem Nwr.nil (w0 : World) (t : Nat) : Nwr w0 t [] := fun _ u hu => by cases hu
theorem Nwr.app {w0 : World} {t : Nat} {vs us : List Value} (h : Nwr w0 t vs) (g : Nwr w0 t us) : Nwr w0 t (vs ++ us) := fun e u hu => (List.mem_append.1 hu).elim (h e u) (g e u)

/-- A list of such lists that is the solver's own. -/
def CR (w0 w : World) (ow : Nat → Nat) (t : Nat) (v : Value) (xss : List (List Int)) : Prop :=
  ∃ vs, w.ownsRow w0.heap.size 42 1 v xss.length vs ∧ (∀ j, v.ownBlock = some j → ow j = t) ∧ GVt w0 w ow vs xss ∧ Nwr w0 t vs

structure Tags (c : SC) (w0 : World) (g : G) (H : List Int) (m : MV) (w : World) : Prop where
  lo : ∀ j, j < w0.heap.size → m.ow j = 1
  ft : ∀ j, Foot c.k c.kw g m.p H j → m.ow j = 1
  od : ∀ j, Od.Mine c.ko m.ov j → m.ow j = 2
  sb : m.ow c.SB = 6
  tb : m.ow m.tb = 7
  ty : ∀ j, j < w.heap.size → m.ow j ≠ 1 → ∃ T, Typ w j T ∧ ¬ Wt T
  u6 : ∀ j, m.ow j = 6 → j = c.SB
  u7 : ∀ j, m.ow j = 7 → j = m.tb

structure Sm (c : SC) (w0 : World) (g : G) (s : SS) (m : MV) (w : World) : Prop where
  W : Wa c.k c.kw w g s.L s.lev m.p s.H
  o : Od.Ord c.ko w s.A s.W m.ov
  sb : w.heap[c.SB]? = some (.cells (sbc c s m) 61 (0, 0))
  cl : CR w0 w m.ow 4 m.cv s.cls
  pr : CR w0 w m.ow 5 m.pv s.prf
  fa : w.ownsRow w0.heap.size 105 3 m.fv s.fs.length (facc s.fs) ∧ ∀ j, m.fv.ownBlock = some j → m.ow j = 8
  nu : OwnL w w0.heap.size m.nv s.ns ∧ ∀ j, m.nv.ownBlock = some j → m.ow j = 3
  tr : w.heap[m.tb]? = some (.cells (s.tr.map Value.bool).toArray 4 (0, 0)) ∧ s.tr.length = c.kw.n
  b0 : Below w0.heap.size w0 w
  hB : c.kw.B = w0.heap.size
  hn : c.ko.n = c.kw.n
  t : Tags c w0 g s.H m w

section
variable {c : SC} {w0 w w' : World} {g g' : G} {s s' : SS} {m m' : MV} {ow ow' : Nat → Nat} {t u : Nat}

theorem row_same {a : Option Addr} {n cap : Nat} {xs : List Int} (h : U.Row w a n cap xs) (hb : 0 < n → ∀ b off, a = some ⟨b, off, none⟩ → w'.heap[b]? = w.heap[b]?) : U.Row w' a n cap xs :=
  Row.same h (fun b off h0 e => hb h0 b off e)

theorem GVt.keep {vs : List Value} {xss : List (List Int)} (h : GVt w0 w ow vs xss) (b0 : Below w0.heap.size w0 w) (b0' : Below w0.heap.size w0 w') (hs : w.heap.size ≤ w'.heap.size) (hb : ∀ j, j < w.heap.size → ow j = 0 → w'.heap[j]? = w.heap[j]?) (he : ∀ j, j < w.heap.size → ow j = 0 → ow' j = ow j) : GVt w0 w' ow' vs xss := by
  refine ⟨h.1, fun j hj => ?_⟩
  obtain ⟨a, n, cp, h1, h2, h3⟩ := h.2 j hj
  refine ⟨a, n, cp, h1, row_same h2 (fun h0 b off e => ?_), fun h0 => ?_⟩
  · obtain ⟨b', off', e', q⟩ := h3 h0
    rw [e] at e'; cases e'
    rcases q with q | ⟨q1, q2⟩
    · rw [b0'.block b q, b0.block b q]
    · exact hb b q1 q2
  · obtain ⟨b', off', e', q⟩ := h3 h0
    refine ⟨b', off', e', ?_⟩
    rcases q with q | ⟨q1, q2⟩
    · exact .inl q
    · exact .inr ⟨by omega, by rw [he b' q1 q2]; exact q2⟩

theorem own_same {B : Nat} {T : TypeId} {sz n : Nat} {v : Value} {xs : List Value} (h : w.ownsRow B T sz v n xs) (hb : ∀ j, v.ownBlock = some j → w'.heap[j]? = w.heap[j]?) : w'.ownsRow B T sz v n xs := by
  refine ⟨h.1, ?_⟩
  rcases h.2 with h2 | ⟨b, cap, cur, rfl, h1, hg, rest⟩
  · exact .inl h2
  · exact .inr ⟨b, cap, cur, rfl, h1, by rw [hb b rfl]; exact hg, rest⟩

/-- Blocks of one owner that is not the old memory's have changed. -/
theorem Sm.old (h : Sm c w0 g s m w) (ch : Cg m.ow t u w w') (ht : t ≠ 1) (hu : u ≠ 1) : Below w0.heap.size w0 w' :=
  ⟨ch.os.trans h.b0.os, ch.tape.trans h.b0.tape, ch.output.trans h.b0.output, Nat.le_trans h.b0.size ch.size, fun j hj => (ch.block j (Nat.lt_of_lt_of_le hj h.b0.size) (by rw [h.t.lo j hj]; exact fun e => ht e.symm) (by rw [h.t.lo j hj]; exact fun e => hu e.symm)).trans (h.b0.block j hj)⟩

/-- Owners, when the blocks of t are others now. -/
def owT (ow : Nat → Nat) (t z : Nat) (Q : Nat → Bool) : Nat → Nat := fun j => if ow j = t ∨ z ≤ j then (if Q j then t else 1) else ow j
theorem owT_old {ow : Nat → Nat} {t z : Nat} {Q : Nat → Bool} {j : Nat} (h : j < z) (h2 : ow j ≠ t) : owT ow t z Q j = ow j := by
  unfold owT; rw [if_neg (by omega)]
theorem owT_mine {ow : Nat → Nat} {t z : Nat} {Q : Nat → Bool} {j : Nat} (h : ow j = t ∨ z ≤ j) (h2 : Q j = true) : owT ow t z Q j = t := by
  unfold owT; rw [if_pos h, if_pos h2]
theorem owT_one {ow : Nat → Nat} {z : Nat} {Q : Nat → Bool} {j : Nat} (h : ow j = 1 ∨ z ≤ j) : owT ow 1 z Q j = 1 := by
  unfold owT; rw [if_pos h]; split <;> rfl
theorem owT_cases (ow : Nat → Nat) (t z : Nat) (Q : Nat → Bool) (j : Nat) : (owT ow t z Q j = 1) ∨ (owT ow t z Q j = t ∧ Q j = true) ∨ (owT ow t z Q j = ow j ∧ j < z ∧ ow j ≠ t) := by
  unfold owT
  by_cases h : ow j = t ∨ z ≤ j
  · rw [if_pos h]
    by_cases q : Q j = true
    · rw [if_pos q]; exact .inr (.inl ⟨rfl, q⟩)
    · rw [if_neg q]; exact .inl rfl
  · rw [if_neg h]; exact .inr (.inr ⟨rfl, by omega, by omega⟩)

/-- All but the parts t and u, when blocks of these alone have changed. -/
structure Rest (c : SC) (w0 w : World) (g : G) (s : SS) (m : MV) (ow' : Nat → Nat) (t u : Nat) (w' : World) : Prop where
  W : t ≠ 1 → u ≠ 1 → Wa c.k c.kw w' g s.L s.lev m.p s.H
  o : t ≠ 2 → u ≠ 2 → Od.Ord c.ko w' s.A s.W m.ov
  sb : t ≠ 6 → u ≠ 6 → w'.heap[c.SB]? = some (.cells (sbc c s m) 61 (0, 0))
  cl : t ≠ 4 → u ≠ 4 → CR w0 w' ow' 4 m.cv s.cls
  pr : t ≠ 5 → u ≠ 5 → CR w0 w' ow' 5 m.pv s.prf
  fa : t ≠ 8 → u ≠ 8 → w'.ownsRow w0.heap.size 105 3 m.fv s.fs.length (facc s.fs) ∧ ∀ j, m.fv.ownBlock = some j → ow' j = 8
  nu : t ≠ 3 → u ≠ 3 → OwnL w' w0.heap.size m.nv s.ns ∧ ∀ j, m.nv.ownBlock = some j → ow' j = 3
  tr : t ≠ 7 → u ≠ 7 → w'.heap[m.tb]? = some (.cells (s.tr.map Value.bool).toArray 4 (0, 0)) ∧ s.tr.length = c.kw.n
  b0 : Below w0.heap.size w0 w'
  lo : ∀ j, j < w0.heap.size → ow' j = 1
  ft : t ≠ 1 → ∀ j, Foot c.k c.kw g m.p s.H j → ow' j = 1
  od : t ≠ 2 → ∀ j, Od.Mine c.ko m.ov j → ow' j = 2
  tsb : t ≠ 6 → ow' c.SB = 6
  ttb : t ≠ 7 → ow' m.tb = 7
  ty : ∀ j, j < w'.heap.size → ow' j ≠ 1 → ow' j ≠ t → ow' j ≠ u → ∃ T, Typ w' j T ∧ ¬ Wt T
  gv : ∀ vs xss, GVt w0 w m.ow vs xss → GVt w0 w' ow' vs xss
  u6 : t ≠ 6 → ∀ j, ow' j = 6 → j = c.SB
  u7 : t ≠ 7 → ∀ j, ow' j = 7 → j = m.tb
  zz : ∀ j, j < w.heap.size → m.ow j = 0 ∨ m.ow j = 9 → w'.heap[j]? = w.heap[j]? ∧ ow' j = m.ow j

theorem Sm.rest (h : Sm c w0 g s m w) (ch : Cg m.ow t u w w') (b0' : Below w0.heap.size w0 w') (ht0 : t ≠ 0 ∧ t ≠ 9) (hu0 : u ≠ 0 ∧ u ≠ 9) (Q : Nat → Bool) : Rest c w0 w g s m (owT m.ow t w.heap.size Q) t u w' := by
  have key : ∀ j, j < w.heap.size → m.ow j ≠ t → m.ow j ≠ u → w'.heap[j]? = w.heap[j]? := ch.block
  have he : ∀ j, j < w.heap.size → m.ow j ≠ t → owT m.ow t w.heap.size Q j = m.ow j := fun j h1 h2 => owT_old h1 h2
  have hgv : ∀ vs xss, GVt w0 w m.ow vs xss → GVt w0 w' (owT m.ow t w.heap.size Q) vs xss := fun vs xss q => q.keep h.b0 b0' ch.size (fun j hj e => key j hj (by omega) (by omega)) (fun j hj e => he j hj (by omega))
  have hcr : ∀ (x : Nat) {v : Value} {xss : List (List Int)}, t ≠ x → u ≠ x → CR w0 w m.ow x v xss → CR w0 w' (owT m.ow t w.heap.size Q) x v xss := fun x v xss hx hx' q => by
    obtain ⟨vs, h1, h2, h3⟩ := q
    exact ⟨vs, own_same h1 (fun j e => key j (own_lt h1 e).2 (by rw [h2 j e]; omega) (by rw [h2 j e]; omega)), fun j e => by rw [he j (own_lt h1 e).2 (by rw [h2 j e]; omega)]; exact h2 j e, hgv _ _ h3.1, h3.2⟩
  have hft : t ≠ 1 → ∀ j, Foot c.k c.kw g m.p s.H j → owT m.ow t w.heap.size Q j = 1 := fun h1 j hj => by rw [he j (h.W.foot_lt hj) (by rw [h.t.ft j hj]; omega)]; exact h.t.ft j hj
  refine ⟨fun h1 h2 => h.W.keep (fun j hj => key j (h.W.foot_lt hj) (by rw [h.t.ft j hj]; omega) (by rw [h.t.ft j hj]; omega)), fun h1 h2 => h.o.keep (fun j hj => key j (h.o.mine_lt hj).2 (by rw [h.t.od j hj]; omega) (by rw [h.t.od j hj]; omega)), fun h1 h2 => ?_, fun h1 h2 => hcr 4 h1 h2 h.cl, fun h1 h2 => hcr 5 h1 h2 h.pr,
    fun h1 h2 => ⟨own_same h.fa.1 (fun j e => key j (own_lt h.fa.1 e).2 (by rw [h.fa.2 j e]; omega) (by rw [h.fa.2 j e]; omega)), fun j e => by rw [he j (own_lt h.fa.1 e).2 (by rw [h.fa.2 j e]; omega)]; exact h.fa.2 j e⟩,
    fun h1 h2 => ⟨OwnL.same h.nu.1 (fun j e => key j (h.nu.1.lt e).2 (by rw [h.nu.2 j e]; omega) (by rw [h.nu.2 j e]; omega)), fun j e => by rw [he j (h.nu.1.lt e).2 (by rw [h.nu.2 j e]; omega)]; exact h.nu.2 j e⟩, fun h1 h2 => ⟨?_, h.tr.2⟩, b0', fun j hj => ?_, hft, fun h1 j hj => by rw [he j (h.o.mine_lt hj).2 (by rw [h.t.od j hj]; omega)]; exact h.t.od j hj,
    fun h1 => by rw [he _ (blk_lt h.sb) (by rw [h.t.sb]; omega)]; exact h.t.sb, fun h1 => by rw [he _ (blk_lt h.tr.1) (by rw [h.t.tb]; omega)]; exact h.t.tb, fun j hj h1 h2 h3 => ?_, hgv, fun h1 j hj => ?_, fun h1 j hj => ?_, fun j hj e => ⟨key j hj (by omega) (by omega), he j hj (by omega)⟩⟩
  · rw [key _ (blk_lt h.sb) (by rw [h.t.sb]; omega) (by rw [h.t.sb]; omega)]; exact h.sb
  · rw [key _ (blk_lt h.tr.1) (by rw [h.t.tb]; omega) (by rw [h.t.tb]; omega)]; exact h.tr.1
  · by_cases e : t = 1
    · subst e; exact owT_one (.inl (h.t.lo j hj))
    · rw [he j (Nat.lt_of_lt_of_le hj h.b0.size) (by rw [h.t.lo j hj]; omega)]; exact h.t.lo j hj
  · rcases owT_cases m.ow t w.heap.size Q j with q | ⟨q, _⟩ | ⟨q, q1, q2⟩
    · exact absurd q h1
    · exact absurd q h2
    · obtain ⟨T, t1, t2⟩ := h.t.ty j q1 (by rw [← q]; exact h1)
      exact ⟨T, t1.same (key j q1 q2 (by rw [← q]; exact h3)), t2⟩
  · rcases owT_cases m.ow t w.heap.size Q j with q | ⟨q, _⟩ | ⟨q, q1, q2⟩
    · omega
    · omega
    · exact h.t.u6 j (by omega)
  · rcases owT_cases m.ow t w.heap.size Q j with q | ⟨q, _⟩ | ⟨q, q1, q2⟩
    · omega
    · omega
    · exact h.t.u7 j (by omega)

/-- Lists that are old or never written again are kept, and what is nobody's stays so. -/
structure Kp (w0 w : World) (ow : Nat → Nat) (w' : World) (ow' : Nat → Nat) : Prop where
  gv : ∀ vs xss, GVt w0 w ow vs xss → GVt w0 w' ow' vs xss
  on : ∀ j, j < w.heap.size → ow j = 1 → ow' j = 1
  sz : w.heap.size ≤ w'.heap.size
  zz : ∀ j, j < w.heap.size → ow j = 0 ∨ ow j = 9 → w'.heap[j]? = w.heap[j]? ∧ ow' j = ow j
theorem Kp.refl (w0 w : World) (ow : Nat → Nat) : Kp w0 w ow w ow := ⟨fun _ _ h => h, fun _ _ h => h, Nat.le_refl _, fun _ _ _ => ⟨rfl, rfl⟩⟩
theorem Kp.trans {w1 w2 w3 : World} {o1 o2 o3 : Nat → Nat} (h : Kp w0 w1 o1 w2 o2) (k : Kp w0 w2 o2 w3 o3) : Kp w0 w1 o1 w3 o3 := ⟨fun vs xss q => k.gv vs xss (h.gv vs xss q), fun j hj e => k.on j (Nat.lt_of_lt_of_le hj h.sz) (h.on j hj e), Nat.le_trans h.sz k.sz, fun j hj e => by
  have h1 := h.zz j hj e
  have h2 := k.zz j (Nat.lt_of_lt_of_le hj h.sz) (by rw [h1.2]; exact e)
  exact ⟨h2.1.trans h1.1, h2.2.trans h1.2⟩⟩
theorem kpT {Q : Nat → Bool} (gv : ∀ vs xss, GVt w0 w ow vs xss → GVt w0 w' (owT ow t w.heap.size Q) vs xss) (sz : w.heap.size ≤ w'.heap.size) (zz : ∀ j, j < w.heap.size → ow j = 0 ∨ ow j = 9 → w'.heap[j]? = w.heap[j]? ∧ owT ow t w.heap.size Q j = ow j) : Kp w0 w ow w' (owT ow t w.heap.size Q) := by
  refine ⟨gv, fun j hj e => ?_, sz, zz⟩
  by_cases h : t = 1
  · subst h; exact owT_one (.inl e)
  · rw [owT_old hj (by omega)]; exact e

/-! ### The trail and the watch have changed -/
def upW (s : SS) (L : List E) (lev : Nat) (H : List Int) : SS := { s with L := L, lev := lev, H := H }

theorem Sm.cg1 {p' : V} (h : Sm c w0 g s m w) (f : FT c.k c.kw.B m.p p' w w') : Cg m.ow 1 1 w w' :=
  ⟨f.os, f.tape, f.output, f.size, fun j hj hn _ => by
    obtain ⟨T, t1, t2⟩ := h.t.ty j hj hn
    exact f.block j T t1 t2 (fun mm => hn (h.t.ft j (.inl mm)))⟩

theorem Sm.wa {L' : List E} {lev' : Nat} {p' : V} {H' : List Int} (h : Sm c w0 g s m w) (W' : Wa c.k c.kw w' g' L' lev' p' H') (f : FT c.k c.kw.B m.p p' w w')
    (hl : ∀ i, i < g'.nx → g'.gn i = false → ∀ j, (g'.lv i).ownBlock = some j → 0 < (g'.lt i).length → j < w.heap.size → m.ow j = 1) (hh : 0 < H'.length → ∀ j, g'.hv.ownBlock = some j → j < w.heap.size → m.ow j = 1) :
    Sm c w0 g' (upW s L' lev' H') { m with p := p', ow := owT m.ow 1 w.heap.size (fun _ => true) } w' ∧ Kp w0 w m.ow w' (owT m.ow 1 w.heap.size (fun _ => true)) := by
  have ch := h.cg1 f
  have R := h.rest ch (f.be h.hB h.b0) (by decide) (by decide) (fun _ => true)
  refine ⟨?_, kpT R.gv ch.size R.zz⟩
  refine ⟨W', R.o (by decide) (by decide), R.sb (by decide) (by decide), R.cl (by decide) (by decide), R.pr (by decide) (by decide), R.fa (by decide) (by decide), R.nu (by decide) (by decide), R.tr (by decide) (by decide), R.b0, h.hB, h.hn, R.lo, fun j hj => ?_, R.od (by decide), R.tsb (by decide), R.ttb (by decide), fun j hj h1 => R.ty j hj h1 h1 h1, R.u6 (by decide), R.u7 (by decide)⟩
  show owT m.ow 1 w.heap.size (fun _ => true) j = 1
  by_cases hs : j < w.heap.size
  · refine owT_one (.inl (Classical.byContradiction fun hn => ?_))
    obtain ⟨T, t1, t2⟩ := h.t.ty j hs hn
    have e := ch.block j hs hn hn
    have t3 := t1.same e
    rcases hj with hj | hj | ⟨i, h1, h2, h3, h4⟩ | ⟨h0, h1⟩
    · exact hn (h.t.ft j (.inl (f.new j hs hj)))
    · rcases W'.j.s.foot_typ hj with ⟨T', q1, q2⟩ | ⟨es, ck, q⟩
      · rw [← t3.one q1] at q2; exact t2 q2
      · obtain ⟨cc, ff, q2⟩ := t3; rw [q] at q2; cases q2
    · exact hn (hl i h1 h2 j h3 h4 hs)
    · exact hn (hh h0 j h1 hs)
  · exact owT_one (.inr (by omega))

/-! ### The order has changed -/
def odB (k : Od.K) (v : Value) (j : Nat) : Bool := decide (j = k.AB) || decide (j = k.PB) || decide (j = k.OB) || decide (v.ownBlock = some j)
theorem odB_iff {k : Od.K} {v : Value} {j : Nat} : odB k v j = true ↔ Od.Mine k v j := by simp [odB, Od.Mine, or_assoc]

theorem Od.Ord.typ {k : Od.K} {A : List Int} {W : List Bool} {v : Value} (h : Od.Ord k w A W v) {j : Nat} (hj : Od.Mine k v j) : ∃ T, Typ w j T ∧ ¬ Wt T := by
  obtain ⟨hs, ⟨P, s, p⟩, hp, g⟩ := h
  rcases hj with rfl | rfl | rfl | e
  · exact ⟨3, ⟨_, _, s.ac⟩, by simp [Wt]⟩
  · exact ⟨3, ⟨_, _, s.pl⟩, by simp [Wt]⟩
  · exact ⟨86, ⟨_, _, s.cl⟩, by simp [Wt]⟩
  · rcases s.wt.2 with ⟨rfl, _⟩ | ⟨b, cap, cur, rfl, _, h2, _⟩
    · simp [Value.ownBlock] at e
    · simp [Value.ownBlock] at e; subst e; exact ⟨3, ⟨_, _, h2⟩, by simp [Wt]⟩

def upO (s : SS) (A : List Int) (W : List Bool) : SS := { s with A := A, W := W }

theorem Sm.ord {A' : List Int} {W' : List Bool} {v' : Value} (h : Sm c w0 g s m w) (o' : Od.Ord c.ko w' A' W' v') (f : Od.Fr c.ko m.ov v' w w') :
    Sm c w0 g (upO s A' W') { m with ov := v', ow := owT m.ow 2 w.heap.size (odB c.ko v') } w' ∧ Kp w0 w m.ow w' (owT m.ow 2 w.heap.size (odB c.ko v')) := by
  have ch : Cg m.ow 2 2 w w' := ⟨f.os, f.tape, f.output, f.size, fun j hj hn _ => f.block j hj (fun mm => hn (h.t.od j mm))⟩
  have R := h.rest ch (h.old ch (by decide) (by decide)) (by decide) (by decide) (odB c.ko v')
  have hod : ∀ j, Od.Mine c.ko v' j → owT m.ow 2 w.heap.size (odB c.ko v') j = 2 := fun j hj => by
    refine owT_mine ?_ (odB_iff.2 hj)
    rcases hj with e | e | e | e
    · exact .inl (h.t.od j (.inl e))
    · exact .inl (h.t.od j (.inr (.inl e)))
    · exact .inl (h.t.od j (.inr (.inr (.inl e))))
    · rcases f.new j e with q | q
      · exact .inl (h.t.od j (.inr (.inr (.inr q))))
      · exact .inr q
  refine ⟨?_, kpT R.gv ch.size R.zz⟩
  refine ⟨R.W (by decide) (by decide), o', R.sb (by decide) (by decide), R.cl (by decide) (by decide), R.pr (by decide) (by decide), R.fa (by decide) (by decide), R.nu (by decide) (by decide), R.tr (by decide) (by decide), R.b0, h.hB, h.hn, R.lo, R.ft (by decide), hod, R.tsb (by decide), R.ttb (by decide), fun j hj h1 => ?_, R.u6 (by decide), R.u7 (by decide)⟩
  by_cases e : owT m.ow 2 w.heap.size (odB c.ko v') j = 2
  · rcases owT_cases m.ow 2 w.heap.size (odB c.ko v') j with q | ⟨_, q⟩ | ⟨q1, q2, q3⟩
    · exact absurd q h1
    · exact o'.typ (odB_iff.1 q)
    · rw [q1] at e; exact absurd e q3
  · exact R.ty j hj h1 e e

/-! ### Nothing has changed -/
theorem Sm.below (h : Sm c w0 g s m w) (b : Below w.heap.size w w') : Sm c w0 g s { m with ow := owT m.ow 1 w.heap.size (fun _ => true) } w' ∧ Kp w0 w m.ow w' (owT m.ow 1 w.heap.size (fun _ => true)) := by
  have ch : Cg m.ow 1 1 w w' := Cg.below b
  have R := h.rest ch (Below.next h.b0 b) (by decide) (by decide) (fun _ => true)
  refine ⟨?_, kpT R.gv ch.size R.zz⟩
  refine ⟨h.W.below b, R.o (by decide) (by decide), R.sb (by decide) (by decide), R.cl (by decide) (by decide), R.pr (by decide) (by decide), R.fa (by decide) (by decide), R.nu (by decide) (by decide), R.tr (by decide) (by decide), R.b0, h.hB, h.hn, R.lo, fun j hj => ?_, R.od (by decide), R.tsb (by decide), R.ttb (by decide), fun j hj h1 => R.ty j hj h1 h1 h1, R.u6 (by decide), R.u7 (by decide)⟩
  show owT m.ow 1 w.heap.size (fun _ => true) j = 1
  exact owT_one (.inl (h.t.ft j hj))

/-! ### A field of the solver -/
/-- The solver's own block has changed, to the fields of s' and m'. -/
theorem Sm.fld (h : Sm c w0 g s m w) {i : Nat} {v : Value} (e : (sbc c s m).setIfInBounds i v = sbc c s' m) (e1 : s'.L = s.L) (e2 : s'.lev = s.lev) (e3 : s'.H = s.H) (e4 : s'.A = s.A) (e5 : s'.W = s.W) (e6 : s'.cls = s.cls) (e7 : s'.prf = s.prf) (e8 : s'.fs = s.fs) (e9 : s'.ns = s.ns) (e10 : s'.tr = s.tr) :
    Sm c w0 g s' { m with ow := owT m.ow 6 w.heap.size (fun j => decide (j = c.SB)) } (w.setCell ⟨c.SB, i, none⟩ v) ∧ Kp w0 w m.ow (w.setCell ⟨c.SB, i, none⟩ v) (owT m.ow 6 w.heap.size (fun j => decide (j = c.SB))) := by
  have ch : Cg m.ow 6 6 w (w.setCell ⟨c.SB, i, none⟩ v) := Cg.set (Cg.below (Below.refl _ _)) (.inl h.t.sb) v
  have R := h.rest ch (h.old ch (by decide) (by decide)) (by decide) (by decide) (fun j => decide (j = c.SB))
  have hsb : (w.setCell ⟨c.SB, i, none⟩ v).heap[c.SB]? = some (.cells (sbc c s' m) 61 (0, 0)) := by rw [set_same h.sb, e]
  refine ⟨?_, kpT R.gv ch.size R.zz⟩
  refine ⟨by rw [e1, e2, e3]; exact R.W (by decide) (by decide), by rw [e4, e5]; exact R.o (by decide) (by decide), hsb, by rw [e6]; exact R.cl (by decide) (by decide), by rw [e7]; exact R.pr (by decide) (by decide), by rw [e8]; exact R.fa (by decide) (by decide), by rw [e9]; exact R.nu (by decide) (by decide), by rw [e10]; exact R.tr (by decide) (by decide), R.b0, h.hB, h.hn, R.lo, by rw [e3]; exact R.ft (by decide), R.od (by decide), owT_mine (Q := fun j => decide (j = c.SB)) (.inl h.t.sb) (decide_eq_true rfl), R.ttb (by decide), fun j hj h1 => ?_, fun j hj => ?_, R.u7 (by decide)⟩
  · by_cases e : owT m.ow 6 w.heap.size (fun j => decide (j = c.SB)) j = 6
    · rcases owT_cases m.ow 6 w.heap.size (fun j => decide (j = c.SB)) j with q | ⟨_, q⟩ | ⟨q1, q2, q3⟩
      · exact absurd q h1
      · have : j = c.SB := by simpa using q
        subst this
        exact ⟨61, ⟨_, _, hsb⟩, by simp [Wt]⟩
      · rw [q1] at e; exact absurd e q3
    · exact R.ty j hj h1 e e
  · rcases owT_cases m.ow 6 w.heap.size (fun j => decide (j = c.SB)) j with q | ⟨_, q⟩ | ⟨q1, q2, q3⟩
    · change owT m.ow 6 w.heap.size (fun j => decide (j = c.SB)) j = 6 at hj; omega
    · simpa using q
    · change owT m.ow 6 w.heap.size (fun j => decide (j = c.SB)) j = 6 at hj; omega

/-- A list of the solver's, and the field that it lies in, have changed. -/
theorem Sm.two (h : Sm c w0 g s m w) {w1 : World} {i : Nat} {v v' : Value} (ht : (t ≠ 0 ∧ t ≠ 9) ∧ t ≠ 1 ∧ t ≠ 6) (gr : w.grownBy w1 v.ownBlock) (hv : ∀ j, v.ownBlock = some j → m.ow j = t) :
    Cg m.ow t 6 w (w1.setCell ⟨c.SB, i, none⟩ v') ∧ w1.heap[c.SB]? = some (.cells (sbc c s m) 61 (0, 0)) ∧ (w1.setCell ⟨c.SB, i, none⟩ v').heap[c.SB]? = some (.cells ((sbc c s m).setIfInBounds i v') 61 (0, 0)) ∧
      Rest c w0 w g s m (owT m.ow t w.heap.size (fun j => decide (v'.ownBlock = some j))) t 6 (w1.setCell ⟨c.SB, i, none⟩ v') := by
  have ch1 : Cg m.ow t 6 w w1 := Cg.grown gr (fun j e _ => hv j e)
  have hsb1 : w1.heap[c.SB]? = some (.cells (sbc c s m) 61 (0, 0)) := by
    rw [gr.block _ (blk_lt h.sb) (fun e => by have := hv _ e.symm; rw [h.t.sb] at this; omega)]; exact h.sb
  have ch : Cg m.ow t 6 w (w1.setCell ⟨c.SB, i, none⟩ v') := Cg.set ch1 (.inr h.t.sb) v'
  exact ⟨ch, hsb1, by rw [set_same hsb1], h.rest ch (h.old ch ht.2.1 (by decide)) ht.1 (by decide) _⟩

theorem tags_two {w2 : World} {v' : Value} (h : Sm c w0 g s m w) {ar : Array Value} (ht : t ≠ 6) (R : Rest c w0 w g s m (owT m.ow t w.heap.size (fun j => decide (v'.ownBlock = some j))) t 6 w2) (hsb : w2.heap[c.SB]? = some (.cells ar 61 (0, 0))) {T : TypeId} (hT : ¬ Wt T) (hty : ∀ j, v'.ownBlock = some j → Typ w2 j T) :
    ∀ j, j < w2.heap.size → owT m.ow t w.heap.size (fun j => decide (v'.ownBlock = some j)) j ≠ 1 → ∃ T, Typ w2 j T ∧ ¬ Wt T := by
  intro j hj h1
  rcases owT_cases m.ow t w.heap.size (fun j => decide (v'.ownBlock = some j)) j with q | ⟨_, q⟩ | ⟨q1, q2, q3⟩
  · exact absurd q h1
  · exact ⟨T, hty j (by simpa using q), hT⟩
  · by_cases e6 : m.ow j = 6
    · by_cases ej : j = c.SB
      · subst ej; exact ⟨61, ⟨_, _, hsb⟩, by simp [Wt]⟩
      · exact absurd (h.t.u6 j e6) ej
    · exact R.ty j hj h1 (by rw [q1]; exact q3) (by rw [q1]; exact e6)

/-! ### Blocks that have come -/
/-- Some of the new blocks are never written again. -/
def owZ (ow : Nat → Nat) (z : Nat) (Q : Nat → Bool) : Nat → Nat := fun j => if j < z then ow j else if Q j then 0 else 1
theorem owZ_old {ow : Nat → Nat} {z : Nat} {Q : Nat → Bool} {j : Nat} (h : j < z) : owZ ow z Q j = ow j := by unfold owZ; rw [if_pos h]
theorem owZ_new {ow : Nat → Nat} {z : Nat} {Q : Nat → Bool} {j : Nat} (h : z ≤ j) (hQ : Q j = true) : owZ ow z Q j = 0 := by unfold owZ; rw [if_neg (by omega), if_pos hQ]

theorem Sm.fresh (h : Sm c w0 g s m w) (b : Below w.heap.size w w') (Q : Nat → Bool) (hQ : ∀ j, Q j = true → w.heap.size ≤ j → j < w'.heap.size → ∃ T, Typ w' j T ∧ ¬ Wt T) : Sm c w0 g s { m with ow := owZ m.ow w.heap.size Q } w' ∧ Kp w0 w m.ow w' (owZ m.ow w.heap.size Q) := by
  have key : ∀ j, j < w.heap.size → w'.heap[j]? = w.heap[j]? := b.block
  have he : ∀ j, j < w.heap.size → owZ m.ow w.heap.size Q j = m.ow j := fun j hj => owZ_old hj
  have b0' := Below.next h.b0 b
  have hgv : ∀ vs xss, GVt w0 w m.ow vs xss → GVt w0 w' (owZ m.ow w.heap.size Q) vs xss := fun vs xss q => q.keep h.b0 b0' b.size (fun j hj _ => key j hj) (fun j hj _ => he j hj)
  have hkp : Kp w0 w m.ow w' (owZ m.ow w.heap.size Q) := ⟨hgv, fun j hj e => by rw [he j hj]; exact e, b.size, fun j hj e => ⟨key j hj, he j hj⟩⟩
  have hcr : ∀ (x : Nat) {v : Value} {xss : List (List Int)}, CR w0 w m.ow x v xss → CR w0 w' (owZ m.ow w.heap.size Q) x v xss := fun x v xss q => by
    obtain ⟨vs, h1, h2, h3⟩ := q
    exact ⟨vs, own_same h1 (fun j e => key j (own_lt h1 e).2), fun j e => by rw [he j (own_lt h1 e).2]; exact h2 j e, hgv _ _ h3.1, h3.2⟩
  refine ⟨⟨h.W.below b, h.o.below b, by rw [key _ (blk_lt h.sb)]; exact h.sb, hcr 4 h.cl, hcr 5 h.pr, ⟨own_same h.fa.1 (fun j e => key j (own_lt h.fa.1 e).2), fun j e => by show owZ _ _ _ j = 8; rw [he j (own_lt h.fa.1 e).2]; exact h.fa.2 j e⟩,
    ⟨OwnL.same h.nu.1 (fun j e => key j (h.nu.1.lt e).2), fun j e => by show owZ _ _ _ j = 3; rw [he j (h.nu.1.lt e).2]; exact h.nu.2 j e⟩, ⟨by rw [key _ (blk_lt h.tr.1)]; exact h.tr.1, h.tr.2⟩, b0', h.hB, h.hn,
    fun j hj => by show owZ _ _ _ j = 1; rw [he j (Nat.lt_of_lt_of_le hj h.b0.size)]; exact h.t.lo j hj, fun j hj => by show owZ _ _ _ j = 1; rw [he j (h.W.foot_lt hj)]; exact h.t.ft j hj, fun j hj => by show owZ _ _ _ j = 2; rw [he j (h.o.mine_lt hj).2]; exact h.t.od j hj,
    by show owZ _ _ _ c.SB = 6; rw [he _ (blk_lt h.sb)]; exact h.t.sb, by show owZ _ _ _ m.tb = 7; rw [he _ (blk_lt h.tr.1)]; exact h.t.tb, fun j hj h1 => ?_, fun j hj => ?_, fun j hj => ?_⟩, hkp⟩
  · change owZ m.ow w.heap.size Q j ≠ 1 at h1
    by_cases e : j < w.heap.size
    · rw [he j e] at h1
      obtain ⟨T, t1, t2⟩ := h.t.ty j e h1
      exact ⟨T, t1.same (key j e), t2⟩
    · unfold owZ at h1
      rw [if_neg e] at h1
      by_cases q : Q j = true
      · exact hQ j q (by omega) hj
      · rw [if_neg q] at h1; exact absurd rfl h1
  · change owZ m.ow w.heap.size Q j = 6 at hj
    unfold owZ at hj
    split at hj
    · exact h.t.u6 j hj
    · split at hj <;> omega
  · change owZ m.ow w.heap.size Q j = 7 at hj
    unfold owZ at hj
    split at hj
    · exact h.t.u7 j hj
    · split at hj <;> omega

def owN (ow : Nat → Nat) (z : Nat) (Q : Nat → Bool) : Nat → Nat := fun j => if j < z then ow j else if Q j then 9 else 1
theorem owN_old {ow : Nat → Nat} {z : Nat} {Q : Nat → Bool} {j : Nat} (h : j < z) : owN ow z Q j = ow j := by unfold owN; rw [if_pos h]
theorem owN_new {ow : Nat → Nat} {z : Nat} {Q : Nat → Bool} {j : Nat} (h : z ≤ j) (hQ : Q j = true) : owN ow z Q j = 9 := by unfold owN; rw [if_neg (by omega), if_pos hQ]

theorem Sm.fresh9 (h : Sm c w0 g s m w) (b : Below w.heap.size w w') (Q : Nat → Bool) (hQ : ∀ j, Q j = true → w.heap.size ≤ j → j < w'.heap.size → ∃ T, Typ w' j T ∧ ¬ Wt T) : Sm c w0 g s { m with ow := owN m.ow w.heap.size Q } w' ∧ Kp w0 w m.ow w' (owN m.ow w.heap.size Q) := by
  have key : ∀ j, j < w.heap.size → w'.heap[j]? = w.heap[j]? := b.block
  have he : ∀ j, j < w.heap.size → owN m.ow w.heap.size Q j = m.ow j := fun j hj => owN_old hj
  have b0' := Below.next h.b0 b
  have hgv : ∀ vs xss, GVt w0 w m.ow vs xss → GVt w0 w' (owN m.ow w.heap.size Q) vs xss := fun vs xss q => q.keep h.b0 b0' b.size (fun j hj _ => key j hj) (fun j hj _ => he j hj)
  have hkp : Kp w0 w m.ow w' (owN m.ow w.heap.size Q) := ⟨hgv, fun j hj e => by rw [he j hj]; exact e, b.size, fun j hj e => ⟨key j hj, he j hj⟩⟩
  have hcr : ∀ (x : Nat) {v : Value} {xss : List (List Int)}, CR w0 w m.ow x v xss → CR w0 w' (owN m.ow w.heap.size Q) x v xss := fun x v xss q => by
    obtain ⟨vs, h1, h2, h3⟩ := q
    exact ⟨vs, own_same h1 (fun j e => key j (own_lt h1 e).2), fun j e => by rw [he j (own_lt h1 e).2]; exact h2 j e, hgv _ _ h3.1, h3.2⟩
  refine ⟨⟨h.W.below b, h.o.below b, by rw [key _ (blk_lt h.sb)]; exact h.sb, hcr 4 h.cl, hcr 5 h.pr, ⟨own_same h.fa.1 (fun j e => key j (own_lt h.fa.1 e).2), fun j e => by show owN _ _ _ j = 8; rw [he j (own_lt h.fa.1 e).2]; exact h.fa.2 j e⟩,
    ⟨OwnL.same h.nu.1 (fun j e => key j (h.nu.1.lt e).2), fun j e => by show owN _ _ _ j = 3; rw [he j (h.nu.1.lt e).2]; exact h.nu.2 j e⟩, ⟨by rw [key _ (blk_lt h.tr.1)]; exact h.tr.1, h.tr.2⟩, b0', h.hB, h.hn,
    fun j hj => by show owN _ _ _ j = 1; rw [he j (Nat.lt_of_lt_of_le hj h.b0.size)]; exact h.t.lo j hj, fun j hj => by show owN _ _ _ j = 1; rw [he j (h.W.foot_lt hj)]; exact h.t.ft j hj, fun j hj => by show owN _ _ _ j = 2; rw [he j (h.o.mine_lt hj).2]; exact h.t.od j hj,
    by show owN _ _ _ c.SB = 6; rw [he _ (blk_lt h.sb)]; exact h.t.sb, by show owN _ _ _ m.tb = 7; rw [he _ (blk_lt h.tr.1)]; exact h.t.tb, fun j hj h1 => ?_, fun j hj => ?_, fun j hj => ?_⟩, hkp⟩
  · change owN m.ow w.heap.size Q j ≠ 1 at h1
    by_cases e : j < w.heap.size
    · rw [he j e] at h1
      obtain ⟨T, t1, t2⟩ := h.t.ty j e h1
      exact ⟨T, t1.same (key j e), t2⟩
    · unfold owN at h1
      rw [if_neg e] at h1
      by_cases q : Q j = true
      · exact hQ j q (by omega) hj
      · rw [if_neg q] at h1; exact absurd rfl h1
  · change owN m.ow w.heap.size Q j = 6 at hj
    unfold owN at hj
    split at hj
    · exact h.t.u6 j hj
    · split at hj <;> omega
  · change owN m.ow w.heap.size Q j = 7 at hj
    unfold owN at hj
    split at hj
    · exact h.t.u7 j hj
    · split at hj <;> omega

/-! ### Fields -/
theorem Sm.cell (h : Sm c w0 g s m w) (i : Nat) : w.cell? ⟨c.SB, i, none⟩ = (sbc c s m)[i]? := cell_of h.sb
theorem Sm.frz (h : Sm c w0 g s m w) (i : Nat) : w.frozen? ⟨c.SB, i, none⟩ = false := frozen_of h.sb
theorem Sm.c0 (h : Sm c w0 g s m w) : w.cell? ⟨c.SB, 0, none⟩ = some (.pointer (some ⟨c.k.OB, 0, none⟩)) := h.cell 0
theorem Sm.c1 (h : Sm c w0 g s m w) : w.cell? ⟨c.SB, 1, none⟩ = some (.pointer (some ⟨c.kw.OB, 0, none⟩)) := h.cell 1
theorem Sm.c2 (h : Sm c w0 g s m w) : w.cell? ⟨c.SB, 2, none⟩ = some (.pointer (some ⟨c.ko.OB, 0, none⟩)) := h.cell 2
theorem Sm.c3 (h : Sm c w0 g s m w) : w.cell? ⟨c.SB, 3, none⟩ = some m.cv := h.cell 3
theorem Sm.c4 (h : Sm c w0 g s m w) : w.cell? ⟨c.SB, 4, none⟩ = some (.int .i64 c.fst) := h.cell 4
theorem Sm.c5 (h : Sm c w0 g s m w) : w.cell? ⟨c.SB, 5, none⟩ = some m.fv := h.cell 5
theorem Sm.c6 (h : Sm c w0 g s m w) : w.cell? ⟨c.SB, 6, none⟩ = some m.nv := h.cell 6
theorem Sm.c7 (h : Sm c w0 g s m w) : w.cell? ⟨c.SB, 7, none⟩ = some (.bool c.all) := h.cell 7
theorem Sm.c8 (h : Sm c w0 g s m w) : w.cell? ⟨c.SB, 8, none⟩ = some (.int .i64 s.lim) := h.cell 8
theorem Sm.c9 (h : Sm c w0 g s m w) : w.cell? ⟨c.SB, 9, none⟩ = some m.pv := h.cell 9
theorem Sm.c10 (h : Sm c w0 g s m w) : w.cell? ⟨c.SB, 10, none⟩ = some (.slice (some ⟨m.tb, 0, none⟩) c.kw.n c.kw.n) := h.cell 10
theorem Sm.c11 (h : Sm c w0 g s m w) : w.cell? ⟨c.SB, 11, none⟩ = some (.int .i64 s.wg) := h.cell 11
theorem Sm.c12 (h : Sm c w0 g s m w) : w.cell? ⟨c.SB, 12, none⟩ = some (.int .i64 s.cf) := h.cell 12
theorem Sm.c13 (h : Sm c w0 g s m w) : w.cell? ⟨c.SB, 13, none⟩ = some (.int .i64 s.rd) := h.cell 13
theorem Sm.c14 (h : Sm c w0 g s m w) : w.cell? ⟨c.SB, 14, none⟩ = some (.int .i64 s.en) := h.cell 14
theorem Sm.sb_lt (h : Sm c w0 g s m w) : c.SB < w.heap.size := blk_lt h.sb

/-! ### Lists -/
theorem own_set_other {B : Nat} {T : TypeId} {sz n : Nat} {v : Value} {xs : List Value} {a : Addr} {x : Value} (h : w.ownsRow B T sz v n xs) (ha : ∀ j, v.ownBlock = some j → j ≠ a.block) : (w.setCell a x).ownsRow B T sz v n xs :=
  own_same h (fun j e => set_other x (ha j e))
theorem own_typ {B : Nat} {T : TypeId} {sz n : Nat} {v : Value} {xs : List Value} (h : w.ownsRow B T sz v n xs) {j : Nat} (e : v.ownBlock = some j) : Typ w j T := by
  rcases h.2 with ⟨rfl, _⟩ | ⟨b, cap, cur, rfl, _, hg, _⟩
  · simp [Value.ownBlock] at e
  · simp [Value.ownBlock] at e; subst e; exact ⟨_, _, hg⟩

/-- One clause more. -/
theorem Sm.addc {w1 : World} {v' : Value} {xs : List Int} {vs : List Value} {x : Value} (h : Sm c w0 g s m w) (hvs : w.ownsRow w0.heap.size 42 1 m.cv s.cls.length vs) (hg : GVt w0 w m.ow (vs ++ [x]) (s.cls ++ [xs])) (htv : ∀ j, m.cv.ownBlock = some j → m.ow j = 4) (own : w1.ownsRow w0.heap.size 42 1 v' (s.cls.length + 1) (vs ++ [x])) (gr : w.grownBy w1 m.cv.ownBlock) (nw : Nw w m.cv v') :
    w1.heap[c.SB]? = some (.cells (sbc c s m) 61 (0, 0)) ∧ Sm c w0 g { s with cls := s.cls ++ [xs] } { m with cv := v', ow := owT m.ow 4 w.heap.size (fun j => decide (v'.ownBlock = some j)) } (w1.setCell ⟨c.SB, 3, none⟩ v') ∧ Kp w0 w m.ow (w1.setCell ⟨c.SB, 3, none⟩ v') (owT m.ow 4 w.heap.size (fun j => decide (v'.ownBlock = some j))) := by
  obtain ⟨ch, hsb1, hsb2, R⟩ := h.two (t := 4) (i := 3) (v' := v') (by decide) gr htv
  have ho : ∀ j, v'.ownBlock = some j → j ≠ c.SB := fun j e q => by
    subst q
    have h1 := own_typ own e
    have := h1.one ⟨_, _, hsb1⟩
    cases this
  have own2 := own_set_other (x := v') (a := ⟨c.SB, 3, none⟩) own ho
  refine ⟨hsb1, ⟨R.W (by decide) (by decide), R.o (by decide) (by decide), hsb2, ?_, R.pr (by decide) (by decide), R.fa (by decide) (by decide), R.nu (by decide) (by decide), R.tr (by decide) (by decide), R.b0, h.hB, h.hn, R.lo, R.ft (by decide), R.od (by decide), R.tsb (by decide), R.ttb (by decide), tags_two h (by decide) R hsb2 (T := 42) (by simp [Wt]) (fun j e => own_typ own2 e), R.u6 (by decide), R.u7 (by decide)⟩, kpT R.gv ch.size R.zz⟩
  refine ⟨vs ++ [x], by rw [List.length_append]; exact own2, fun j e => ?_, R.gv _ _ hg, fun e => by cases e⟩
  exact owT_mine (Q := fun j => decide (v'.ownBlock = some j)) ((nw j e).elim (fun q => Or.inl (htv j q)) Or.inr) (decide_eq_true e)

/-- One clause more in the proof. -/
theorem Sm.addp {w1 : World} {v' : Value} {xs : List Int} {vs : List Value} {x : Value} (h : Sm c w0 g s m w) (hvs : w.ownsRow w0.heap.size 42 1 m.pv s.prf.length vs) (hg : GVt w0 w m.ow (vs ++ [x]) (s.prf ++ [xs])) (htv : ∀ j, m.pv.ownBlock = some j → m.ow j = 5) (own : w1.ownsRow w0.heap.size 42 1 v' (s.prf.length + 1) (vs ++ [x])) (gr : w.grownBy w1 m.pv.ownBlock) (nw : Nw w m.pv v') (hnw : Nwr w0 5 (vs ++ [x])) :
    w1.heap[c.SB]? = some (.cells (sbc c s m) 61 (0, 0)) ∧ Sm c w0 g { s with prf := s.prf ++ [xs] } { m with pv := v', ow := owT m.ow 5 w.heap.size (fun j => decide (v'.ownBlock = some j)) } (w1.setCell ⟨c.SB, 9, none⟩ v') ∧ Kp w0 w m.ow (w1.setCell ⟨c.SB, 9, none⟩ v') (owT m.ow 5 w.heap.size (fun j => decide (v'.ownBlock = some j))) := by
  obtain ⟨ch, hsb1, hsb2, R⟩ := h.two (t := 5) (i := 9) (v' := v') (by decide) gr htv
  have ho : ∀ j, v'.ownBlock = some j → j ≠ c.SB := fun j e q => by
    subst q
    have h1 := own_typ own e
    have := h1.one ⟨_, _, hsb1⟩
    cases this
  have own2 := own_set_other (x := v') (a := ⟨c.SB, 9, none⟩) own ho
  refine ⟨hsb1, ⟨R.W (by decide) (by decide), R.o (by decide) (by decide), hsb2, R.cl (by decide) (by decide), ?_, R.fa (by decide) (by decide), R.nu (by decide) (by decide), R.tr (by decide) (by decide), R.b0, h.hB, h.hn, R.lo, R.ft (by decide), R.od (by decide), R.tsb (by decide), R.ttb (by decide), tags_two h (by decide) R hsb2 (T := 42) (by simp [Wt]) (fun j e => own_typ own2 e), R.u6 (by decide), R.u7 (by decide)⟩, kpT R.gv ch.size R.zz⟩
  refine ⟨vs ++ [x], by rw [List.length_append]; exact own2, fun j e => ?_, R.gv _ _ hg, hnw⟩
  exact owT_mine (Q := fun j => decide (v'.ownBlock = some j)) ((nw j e).elim (fun q => Or.inl (htv j q)) Or.inr) (decide_eq_true e)

/-- One number more. -/
theorem Sm.addn {w1 : World} {v' : Value} {x : Int} (h : Sm c w0 g s m w) (own : OwnL w1 w0.heap.size v' (s.ns ++ [x])) (gr : w.grownBy w1 m.nv.ownBlock) (nw : Nw w m.nv v') :
    w1.heap[c.SB]? = some (.cells (sbc c s m) 61 (0, 0)) ∧ Sm c w0 g { s with ns := s.ns ++ [x] } { m with nv := v', ow := owT m.ow 3 w.heap.size (fun j => decide (v'.ownBlock = some j)) } (w1.setCell ⟨c.SB, 6, none⟩ v') ∧ Kp w0 w m.ow (w1.setCell ⟨c.SB, 6, none⟩ v') (owT m.ow 3 w.heap.size (fun j => decide (v'.ownBlock = some j))) := by
  obtain ⟨ch, hsb1, hsb2, R⟩ := h.two (t := 3) (i := 6) (v' := v') (by decide) gr h.nu.2
  have ho : ∀ j, v'.ownBlock = some j → j ≠ c.SB := fun j e q => by
    subst q
    have h1 := own_typ own e
    have := h1.one ⟨_, _, hsb1⟩
    cases this
  have own2 : OwnL (w1.setCell ⟨c.SB, 6, none⟩ v') w0.heap.size v' (s.ns ++ [x]) := own_set_other (x := v') (a := ⟨c.SB, 6, none⟩) own ho
  refine ⟨hsb1, ⟨R.W (by decide) (by decide), R.o (by decide) (by decide), hsb2, R.cl (by decide) (by decide), R.pr (by decide) (by decide), R.fa (by decide) (by decide), ⟨own2, fun j e => owT_mine (Q := fun j => decide (v'.ownBlock = some j)) ((nw j e).elim (fun q => Or.inl (h.nu.2 j q)) Or.inr) (decide_eq_true e)⟩, R.tr (by decide) (by decide), R.b0, h.hB, h.hn, R.lo, R.ft (by decide), R.od (by decide), R.tsb (by decide), R.ttb (by decide), tags_two h (by decide) R hsb2 (T := 3) (by simp [Wt]) (fun j e => own_typ own2 e), R.u6 (by decide), R.u7 (by decide)⟩, kpT R.gv ch.size R.zz⟩

/-- One fact more. -/
theorem Sm.addf {w1 : World} {v' : Value} {x : Fa} (h : Sm c w0 g s m w) (own : w1.ownsRow w0.heap.size 105 3 v' (s.fs.length + 1) (facc (s.fs ++ [x]))) (gr : w.grownBy w1 m.fv.ownBlock) (nw : Nw w m.fv v') :
    w1.heap[c.SB]? = some (.cells (sbc c s m) 61 (0, 0)) ∧ Sm c w0 g { s with fs := s.fs ++ [x] } { m with fv := v', ow := owT m.ow 8 w.heap.size (fun j => decide (v'.ownBlock = some j)) } (w1.setCell ⟨c.SB, 5, none⟩ v') ∧ Kp w0 w m.ow (w1.setCell ⟨c.SB, 5, none⟩ v') (owT m.ow 8 w.heap.size (fun j => decide (v'.ownBlock = some j))) := by
  obtain ⟨ch, hsb1, hsb2, R⟩ := h.two (t := 8) (i := 5) (v' := v') (by decide) gr h.fa.2
  have ho : ∀ j, v'.ownBlock = some j → j ≠ c.SB := fun j e q => by
    subst q
    have h1 := own_typ own e
    have := h1.one ⟨_, _, hsb1⟩
    cases this
  have own2 := own_set_other (x := v') (a := ⟨c.SB, 5, none⟩) own ho
  refine ⟨hsb1, ⟨R.W (by decide) (by decide), R.o (by decide) (by decide), hsb2, R.cl (by decide) (by decide), R.pr (by decide) (by decide), ⟨by rw [List.length_append]; exact own2, fun j e => owT_mine (Q := fun j => decide (v'.ownBlock = some j)) ((nw j e).elim (fun q => Or.inl (h.fa.2 j q)) Or.inr) (decide_eq_true e)⟩, R.nu (by decide) (by decide), R.tr (by decide) (by decide), R.b0, h.hB, h.hn, R.lo, R.ft (by decide), R.od (by decide), R.tsb (by decide), R.ttb (by decide), tags_two h (by decide) R hsb2 (T := 105) (by simp [Wt]) (fun j e => own_typ own2 e), R.u6 (by decide), R.u7 (by decide)⟩, kpT R.gv ch.size R.zz⟩

/-- A fact is written. -/
theorem Sm.putf (h : Sm c w0 g s m w) {b cap : Nat} (ev : m.fv = .slice (some ⟨b, 0, none⟩) s.fs.length cap) {i : Nat} (hi : i < s.fs.length) (x : Int) {f : Fa} (hf : s.fs[i]? = some f) :
    Sm c w0 g { s with fs := s.fs.set i { f with a := x } } { m with ow := owT m.ow 8 w.heap.size (fun j => decide (m.fv.ownBlock = some j)) } (w.setCell ⟨b, i * 3 + 2, none⟩ (.int .i64 x)) ∧ Kp w0 w m.ow (w.setCell ⟨b, i * 3 + 2, none⟩ (.int .i64 x)) (owT m.ow 8 w.heap.size (fun j => decide (m.fv.ownBlock = some j))) := by
  have hb8 : m.ow b = 8 := h.fa.2 b (by rw [ev]; rfl)
  have ch : Cg m.ow 8 8 w (w.setCell ⟨b, i * 3 + 2, none⟩ (.int .i64 x)) := Cg.set (Cg.below (Below.refl _ _)) (.inl hb8) _
  have R := h.rest ch (h.old ch (by decide) (by decide)) (by decide) (by decide) (fun j => decide (m.fv.ownBlock = some j))
  have key : facc (s.fs.set i { f with a := x }) = (facc s.fs).set (i * 3 + 2) (.int .i64 x) := by
    clear R ch h ev hb8
    revert i
    induction s.fs with
    | nil => intro i hi _; simp at hi
    | cons a fs ih =>
      intro i hi hf
      have e1 : ∀ (q : Fa) (r : List Fa), facc (q :: r) = .int .i64 q.s :: .int .i64 q.g :: .int .i64 q.a :: facc r := fun q r => rfl
      cases i with
      | zero => simp at hf; subst hf; simp [e1]
      | succ i =>
        simp only [List.set_cons_succ, e1]
        rw [ih (by simpa using hi) (by simpa using hf)]
        have : (i + 1) * 3 = (i * 3 + 2) + 1 := by omega
        rw [this]
        simp only [List.set_cons_succ]
  have own2 : (w.setCell ⟨b, i * 3 + 2, none⟩ (.int .i64 x)).ownsRow w0.heap.size 105 3 m.fv (s.fs.set i { f with a := x }).length (facc (s.fs.set i { f with a := x })) := by
    rw [List.length_set, key]
    refine ⟨by rw [List.length_set]; exact h.fa.1.1, ?_⟩
    rcases h.fa.1.2 with ⟨q, _⟩ | ⟨b', cp, cur, q, hb, hg, h1, h2, h3, h4⟩
    · rw [ev] at q; cases q
    · rw [ev] at q; cases q
      refine .inr ⟨b, cap, cur.setIfInBounds (i * 3 + 2) (.int .i64 x), ev, hb, set_same hg _, h1, h2, by simpa using h3, ?_⟩
      rw [← h4]
      simp [List.take_set]
  refine ⟨⟨R.W (by decide) (by decide), R.o (by decide) (by decide), R.sb (by decide) (by decide), R.cl (by decide) (by decide), R.pr (by decide) (by decide), ⟨own2, fun j e => owT_mine (Q := fun j => decide (m.fv.ownBlock = some j)) (.inl (h.fa.2 j e)) (decide_eq_true e)⟩, R.nu (by decide) (by decide), R.tr (by decide) (by decide), R.b0, h.hB, h.hn, R.lo, R.ft (by decide), R.od (by decide), R.tsb (by decide), R.ttb (by decide), fun j hj h1 => ?_, R.u6 (by decide), R.u7 (by decide)⟩, kpT R.gv ch.size R.zz⟩
  by_cases e : owT m.ow 8 w.heap.size (fun j => decide (m.fv.ownBlock = some j)) j = 8
  · rcases owT_cases m.ow 8 w.heap.size (fun j => decide (m.fv.ownBlock = some j)) j with q | ⟨_, q⟩ | ⟨q1, q2, q3⟩
    · exact absurd q h1
    · exact ⟨105, own_typ own2 (by simpa using q), by simp [Wt]⟩
    · rw [q1] at e; exact absurd e q3
  · exact R.ty j hj h1 e e
end
end Go.Proofs.YtimfjoinjfecjaaGreat

namespace Go.Proofs.YtimfjoinjfecjaaGreat
open Go.RowKit Go.Maps
set_option linter.unusedVariables false

/-- What comes next. -/
def Nx (c : SC) (w0 w : World) (m : MV) (g' : G) (s' : SS) (w' : World) : Prop := ∃ m', Sm c w0 g' s' m' w' ∧ Kp w0 w m.ow w' m'.ow

def nextF (s : SS) : SS := { s with rd := s.rd + 1, en := s.cf + 64 * Ly.luby (s.rd + 1) }

theorem bl_cell {w w' : World} {a : Addr} {v : Value} (b : Below w.heap.size w w') (h : w.cell? a = some v) : w'.cell? a = some v := (b.cell (cell_lt h)).trans h
theorem bl_frz {w w' : World} {a : Addr} {v : Value} (b : Below w.heap.size w w') (h : w.cell? a = some v) (f : w.frozen? a = false) : w'.frozen? a = false := by
  have := b.block a.block (cell_lt h)
  simp only [World.frozen?, this] at f ⊢
  exact f

theorem term_at (rd tm : Nat) (h : Ly.luby (rd + 1) = tm) (hr : rd ≤ 1000000000) (w : World) : Calls Tryz.prog 46 #[.int .i64 ((rd : Int) + 1)] w fun e w' => e = .returned (.int .i64 (tm : Nat)) ∧ Below w.heap.size w w' := by
  have := Ly.termF_in (i := rd + 1) (by omega) (by omega)
  rw [show ((rd + 1 : Nat) : Int) = (rd : Int) + 1 by omega] at this
  rw [← h, ← this]
  exact Ly.term_any _ w

def SS.F (s : SS) (fs : List Fa) : SS := { s with fs := fs }
def SS.N (s : SS) (ns : List Int) : SS := { s with ns := ns }
def SS.C (s : SS) (cls : List (List Int)) : SS := { s with cls := cls }
def SS.Pf (s : SS) (prf : List (List Int)) : SS := { s with prf := prf }
def SS.T (s : SS) (tr : List Bool) : SS := { s with tr := tr }
def SS.wt (s : SS) (x : Nat) : SS := { s with wg := x }
def SS.ct (s : SS) (x : Nat) : SS := { s with cf := x }

section
variable {c : SC} {w0 w w' : World} {g g' : G} {s s' : SS} {m m' : MV}

theorem Nx.trans {w1 : World} {g1 : G} {s1 : SS} {m1 : MV} (k : Kp w0 w m.ow w1 m1.ow) (n : Nx c w0 w1 m1 g' s' w') : Nx c w0 w m g' s' w' := by
  obtain ⟨m2, h2, k2⟩ := n; exact ⟨m2, h2, k.trans k2⟩
theorem Sm.nx (h : Sm c w0 g s m w) : Nx c w0 w m g s w := ⟨m, h, Kp.refl _ _ _⟩
theorem Sm.xbelow (h : Sm c w0 g s m w) (b : Below w.heap.size w w') : Nx c w0 w m g s w' := ⟨_, (h.below b).1, (h.below b).2⟩
theorem Sm.xputf (h : Sm c w0 g s m w) {b cap : Nat} (ev : m.fv = .slice (some ⟨b, 0, none⟩) s.fs.length cap) {i : Nat} (hi : i < s.fs.length) (x : Int) {f : Fa} (hf : s.fs[i]? = some f) : Nx c w0 w m g (s.F (s.fs.set i { f with a := x })) (w.setCell ⟨b, i * 3 + 2, none⟩ (.int .i64 x)) := ⟨_, (h.putf ev hi x hf).1, (h.putf ev hi x hf).2⟩
theorem Sm.xwg (h : Sm c w0 g s m w) (x : Nat) : Nx c w0 w m g (s.wt x) (w.setCell ⟨c.SB, 11, none⟩ (.int .i64 x)) := by
  obtain ⟨a, b⟩ := h.fld (i := 11) (v := .int .i64 x) (s' := s.wt x) rfl rfl rfl rfl rfl rfl rfl rfl rfl rfl rfl
  exact ⟨_, a, b⟩
theorem Sm.xcf (h : Sm c w0 g s m w) (x : Nat) : Nx c w0 w m g (s.ct x) (w.setCell ⟨c.SB, 12, none⟩ (.int .i64 x)) := by
  obtain ⟨a, b⟩ := h.fld (i := 12) (v := .int .i64 x) (s' := s.ct x) rfl rfl rfl rfl rfl rfl rfl rfl rfl rfl rfl
  exact ⟨_, a, b⟩
theorem Sm.xord {A' : List Int} {W' : List Bool} {v' : Value} (h : Sm c w0 g s m w) (o' : Od.Ord c.ko w' A' W' v') (f : Od.Fr c.ko m.ov v' w w') : Nx c w0 w m g (upO s A' W') w' := ⟨_, (h.ord o' f).1, (h.ord o' f).2⟩

theorem next_is (h : Sm c w0 g s m w) (hr : s.rd ≤ 1000000000) (hc : s.cf ≤ 1000000000) :
    Calls Tryz.prog 30 #[.pointer (some ⟨c.SB, 0, none⟩)] w fun e w' => e = .returned (.tuple #[]) ∧ Nx c w0 w m g (nextF s) w' := by
  obtain ⟨rd, hrd⟩ : ∃ rd, s.rd = rd := ⟨_, rfl⟩
  obtain ⟨cf, hcf⟩ : ∃ cf, s.cf = cf := ⟨_, rfl⟩
  obtain ⟨en, hen⟩ : ∃ en, s.en = en := ⟨_, rfl⟩
  rw [hrd] at hr
  rw [hcf] at hc
  have c13 := h.c13
  have f13 := h.frz 13
  rw [hrd] at c13
  obtain ⟨h1, k1⟩ := h.fld (i := 13) (v := .int .i64 ((rd : Int) + 1)) (s' := { s with rd := rd + 1 }) rfl rfl rfl rfl rfl rfl rfl rfl rfl rfl rfl
  obtain ⟨tm, htm⟩ : ∃ tm, Ly.luby (rd + 1) = tm := ⟨_, rfl⟩
  have htl : tm ≤ rd + 2 := by rw [← htm]; exact Ly.luby_le _
  have HE : Hid (∀ w2 : World, Below (w.setCell ⟨c.SB, 13, none⟩ (.int .i64 ((rd : Int) + 1))).heap.size (w.setCell ⟨c.SB, 13, none⟩ (.int .i64 ((rd : Int) + 1))) w2 → Nx c w0 w m g (nextF s) (w2.setCell ⟨c.SB, 14, none⟩ (.int .i64 ((cf : Int) + 64 * tm)))) := hid (fun w2 b => by
    obtain ⟨h2, k2⟩ := h1.below b
    obtain ⟨h3, k3⟩ := h2.fld (i := 14) (v := .int .i64 ((cf : Int) + 64 * tm)) (s' := nextF s) (by simp only [nextF, hrd, hcf, htm]; rfl) rfl rfl rfl rfl rfl rfl rfl rfl rfl rfl
    exact ⟨_, h3, (k1.trans k2).trans k3⟩)
  have d12 := h1.c12
  have d13 := h1.c13
  have f14 := h1.frz 14
  have d14 := h1.c14
  rw [show ({ s with rd := rd + 1 } : SS).cf = cf from hcf] at d12
  rw [show ({ s with rd := rd + 1 } : SS).en = en from hen] at d14
  rw [show ((({ s with rd := rd + 1 } : SS).rd : Nat) : Int) = (rd : Int) + 1 from by show ((rd + 1 : Nat) : Int) = _; omega] at d13
  have HT := hid htm
  clear h1 k1 h htm
  go_enter Tryz.func30, Tryz.ntmps30
  go_upto_region 1 with fail
  generalize hw1 : w.setCell ⟨c.SB, 13, none⟩ (.int .i64 ((rd : Int) + 1)) = w1 at *
  have D12 : Hid (w1.drew.cell? ⟨c.SB, 12, none⟩ = some (.int .i64 cf)) := hid d12
  have D14 : Hid (w1.drew.cell? ⟨c.SB, 14, none⟩ = some (.int .i64 en)) := hid d14
  have F14 : Hid (w1.drew.frozen? ⟨c.SB, 14, none⟩ = false) := hid f14
  have BD := hid (below_drew w1)
  have HW : Hid (IntKind.i64.wrap ((cf : Int) + IntKind.i64.wrap (64 * (tm : Int))) = (cf : Int) + 64 * tm) := hid (by rw [IntKind.wrap_i64, IntKind.wrap_i64]; omega)
  go_region_with (first
    | (go_at_call 46; with_reducible (refine (term_at rd tm HT.out hr _).mono ?_); rintro e w5 ⟨rfl, b5⟩; have q12 := bl_cell b5 D12.out; have q14 := bl_cell b5 D14.out; have r14 := bl_frz b5 D14.out F14.out))
  all_goals go_end0
  all_goals exact ⟨rfl, by rw [HW.out]; exact HE.out w5 (Below.next BD.out b5)⟩

/-! ### What is known of a clause that was learned -/
def saddF (c : SC) (s : SS) (f : Fa) : SS := { s with ns := s.ns ++ [((c.fst + s.fs.length : Nat) : Int)], fs := s.fs ++ [f] }

theorem facc_row (fs : List Fa) (f : Fa) : facc (fs ++ [f]) = facc fs ++ [.int .i64 f.s, .int .i64 f.g, .int .i64 f.a] := by rw [facc_app]; rfl

theorem Tryz.info105 : (Tryz.prog.info? 105).map (fun i => (i.zero, i.size, i.bytes)) = some (some (.agg #[.int .i64 0, .int .i64 0, .int .i64 0]), 3, 24) := by kernel_rfl

/-- One element more behind a list, whatever was laid since. -/
theorem run_app {w w1 : World} (t ty T : TypeId) (i0 : TypeInfo) (z : Value) (sz by_ : Nat) (ht : Tryz.prog.underlying t = some (.slice T)) (hi : Tryz.prog.info? T = some i0) (hz : i0.zero = some z) (hs : i0.size = sz) (hby : i0.bytes = by_) (hzs : z.cells.size = sz) (hsz : 0 < sz) (hb8 : by_ ≤ 24)
    (b : Below w1.heap.size w1 w) (B : Nat) (v : Value) (n : Nat) (xs news : List Value) (own : w1.ownsRow B T sz v n xs) (q : Nat) (hl : news.length = sz) (hn : ∀ j u, news[j]? = some u → w.cell? ⟨q, j, none⟩ = some u) (h1 : ∀ u ∈ news, u.oneCell' = true) (hbd : n ≤ 1000000000) (hB : B ≤ w1.heap.size) :
    ∃ v' w', (Builtin.append_ #[t, t] ty #[v, .slice (some ⟨q, 0, none⟩) 1 1]).run Tryz.prog w = .ok v' w' ∧ w'.ownsRow B T sz v' (n + 1) (xs ++ news) ∧ w1.grownBy w' v.ownBlock ∧ Nw w1 v v' := by
  have own1 : w.ownsRow B T sz v n xs := own_same own (fun j e => b.block j (own_lt own e).2)
  have hmul : (n + 1) * by_ ≤ (1000000000 + 1) * 24 := Nat.mul_le_mul (by omega) hb8
  obtain ⟨v', w', a1, a2, a3, a4, a5⟩ := run_append_own_at (P := Tryz.prog) w B t ty T i0 z sz by_ ht hi hz hs hby hzs hsz v n xs own1 ⟨q, 0, none⟩ 1 1 news (by omega) (fun j u hj => by rw [add_at, Nat.zero_add]; exact hn j u hj) h1 (by unfold maxLen; omega) (by omega) (Nat.le_trans hB b.size)
  refine ⟨v', w', a1, a2, ?_, fun j hj => ?_⟩
  · exact ⟨a3.os.trans b.os, a3.tape.trans b.tape, a3.output.trans b.output, Nat.le_trans b.size a3.size, fun k hk hne => (a3.block k (Nat.lt_of_lt_of_le hk b.size) hne).trans (b.block k hk)⟩
  · rcases a5 with e | e
    · rw [e] at hj; exact .inl hj
    · rw [e] at hj; cases hj; exact .inr b.size

theorem step_of {w w' : World} {ops : Array Oper} {o : Oper} {a : Act} {Kc : Act → World → Prop} {Q : Exit → Act → World → Prop} {G0 : Prop} {t : TypeId} {u v v' : Value} (hgd : o.guard = none) (s x : Operand) (ho : o.op = .call { callee := .builtin .append, args := #[s, x], argTypes := #[t, t] }) (hs : a.eval s = v) (hx : a.eval x = u)
    (hr : (Builtin.append_ #[t, t] o.type #[v, u]).run Tryz.prog w = .ok v' w') (h : Kc (a.put o.dst v') w') : if Region.wanted o (yielded ops a.tmps) = true then Oper.wp Tryz.prog o a w Kc Q else G0 := by
  have hwd : Region.wanted o (yielded ops a.tmps) = true := by simp [Region.wanted, hgd]
  rw [if_pos hwd]
  unfold Oper.wp
  simp [execOp, ho, resolve, invoke, builtin, hs, hx, hr, Result.andThen]
  exact h

theorem list_of {w w' : World} {ops : Array Oper} {rest : List Oper} {o : Oper} {a : Act} {Q : Exit → Act → World → Prop} {t : TypeId} {u v v' : Value} (hgd : o.guard = none) (s x : Operand)
    (ho : o.op = .call { callee := .builtin .append, args := #[s, x], argTypes := #[t, t] }) (hs : a.eval s = v) (hx : a.eval x = u)
    (hr : (Builtin.append_ #[t, t] o.type #[v, u]).run Tryz.prog w = .ok v' w') (h : wpList Tryz.prog ops Q rest (a.put o.dst v') w') : wpList Tryz.prog ops Q (o :: rest) a w := by
  refine wpList_plain hgd fun K hK => ?_
  unfold Oper.wp execOp
  simp only [ho, resolve, invoke, builtin, Sem.run_bind, Sem.run_pure, Result.andThen_ok, List.map_toArray, List.map_cons, List.map_nil, hs, hx, hr]
  exact hK _ _ h

/-- A fact more. -/
theorem run_fact {w w1 : World} (ty : TypeId) (f : Fa) (b : Below w1.heap.size w1 w) (B : Nat) (v : Value) (fs : List Fa) (own : w1.ownsRow B 105 3 v fs.length (facc fs)) (q : Nat) (h0 : w.cell? ⟨q, 0, none⟩ = some (.int .i64 f.s)) (h1 : w.cell? ⟨q, 1, none⟩ = some (.int .i64 f.g)) (h2 : w.cell? ⟨q, 2, none⟩ = some (.int .i64 f.a)) (hbd : fs.length ≤ 1000000) (hB : B ≤ w1.heap.size) :
    ∃ v' w', (Builtin.append_ #[57, 57] ty #[v, .slice (some ⟨q, 0, none⟩) 1 1]).run Tryz.prog w = .ok v' w' ∧ w'.ownsRow B 105 3 v' (fs.length + 1) (facc (fs ++ [f])) ∧ w1.grownBy w' v.ownBlock ∧ Nw w1 v v' := by
  obtain ⟨i0, hi, hz0, hz1, hz2⟩ := info_parts Tryz.info105
  rw [facc_row]
  refine run_app 57 ty 105 i0 _ 3 24 Tryz.underlying57 hi hz0 hz1 hz2 rfl (by decide) (by decide) b B v fs.length (facc fs) [.int .i64 f.s, .int .i64 f.g, .int .i64 f.a] own q rfl (fun j u hj => ?_) (fun u hu => ?_) (by omega) hB
  · have hl := (List.getElem?_eq_some_iff.1 hj).1
    simp at hl
    match j, hj with
    | 0, hj => simp at hj; subst hj; exact h0
    | 1, hj => simp at hj; subst hj; exact h1
    | 2, hj => simp at hj; subst hj; exact h2
    | j + 3, hj => simp at hj
  · simp at hu
    rcases hu with rfl | rfl | rfl <;> rfl

/-- A number more. -/
theorem run_num {w w1 : World} (ty : TypeId) (x : Int) (b : Below w1.heap.size w1 w) (B : Nat) (v : Value) (xs : List Int) (own : OwnL w1 B v xs) (q : Nat) (h0 : w.cell? ⟨q, 0, none⟩ = some (.int .i64 x)) (hbd : xs.length ≤ 1000000) (hB : B ≤ w1.heap.size) :
    ∃ v' w', (Builtin.append_ #[42, 42] ty #[v, .slice (some ⟨q, 0, none⟩) 1 1]).run Tryz.prog w = .ok v' w' ∧ OwnL w' B v' (xs ++ [x]) ∧ w1.grownBy w' v.ownBlock ∧ Nw w1 v v' := by
  obtain ⟨i0, hi, hz0, hz1, hz2⟩ := info_parts Tryz.info3
  obtain ⟨v', w', a1, a2, a3, a4⟩ := run_app 42 ty 3 i0 _ 1 8 Tryz.underlying42 hi hz0 hz1 hz2 rfl (by decide) (by decide) b B v xs.length (xs.map (Value.int .i64)) [.int .i64 x] own q rfl (fun j u hj => by
    have hl := (List.getElem?_eq_some_iff.1 hj).1
    simp at hl; subst hl; simp at hj; subst hj; exact h0) (fun u hu => by simp at hu; subst hu; rfl) (by omega) hB
  exact ⟨v', w', a1, by simpa [OwnL] using a2, a3, a4⟩

/-- A clause more. -/
theorem run_cls {w w1 : World} (ty : TypeId) (x : Value) (hx : x.oneCell' = true) (b : Below w1.heap.size w1 w) (B : Nat) (v : Value) (n : Nat) (vs : List Value) (own : w1.ownsRow B 42 1 v n vs) (q : Nat) (h0 : w.cell? ⟨q, 0, none⟩ = some x) (hbd : n ≤ 1000000) (hB : B ≤ w1.heap.size) :
    ∃ v' w', (Builtin.append_ #[22, 22] ty #[v, .slice (some ⟨q, 0, none⟩) 1 1]).run Tryz.prog w = .ok v' w' ∧ w'.ownsRow B 42 1 v' (n + 1) (vs ++ [x]) ∧ w1.grownBy w' v.ownBlock ∧ Nw w1 v v' := by
  obtain ⟨i0, hi, hz0, hz1, hz2⟩ := info_parts Tryz.infoG
  exact run_app 22 ty 42 i0 _ 1 24 Tryz.underlying22 hi hz0 hz1 hz2 rfl (by decide) (by decide) b B v n vs [x] own q rfl (fun j u hj => by
    have hl := (List.getElem?_eq_some_iff.1 hj).1
    simp at hl; subst hl; simp at hj; subst hj; exact h0) (fun u hu => by simp at hu; subst hu; exact hx) (by omega) hB

theorem own_pos {w : World} {B : Nat} {T : TypeId} {sz n : Nat} {v : Value} {xs : List Value} (h : w.ownsRow B T sz v (n + 1) xs) : ∃ b cap, v = .slice (some ⟨b, 0, none⟩) (n + 1) cap := by
  rcases h.2 with ⟨_, e⟩ | ⟨b, cap, cur, e, _⟩
  · omega
  · exact ⟨b, cap, e⟩

theorem own_posL {w : World} {B : Nat} {v : Value} {xs : List Int} {x : Int} (h : OwnL w B v (xs ++ [x])) : ∃ b cap, v = .slice (some ⟨b, 0, none⟩) (xs.length + 1) cap := by
  unfold OwnL at h
  rw [List.length_append] at h
  exact own_pos h

theorem one_new_cell (w : World) (x : Value) (T : TypeId) : (w.alloc (.cells #[x] T)).drew.cell? ⟨w.heap.size, 0, none⟩ = some x := cell_of (o := 0) (new_same w (.cells #[x] T))

end
end Go.Proofs.YtimfjoinjfecjaaGreat

namespace Go.Proofs.YtimfjoinjfecjaaGreat
open Go.RowKit Go.Maps
set_option linter.unusedVariables false

section
variable {c : SC} {w0 w w' : World} {g g' : G} {s s' : SS} {m m' : MV} {ow : Nat → Nat}

theorem GVt.app {vs us : List Value} {xss yss : List (List Int)} (h : GVt w0 w ow vs xss) (g : GVt w0 w ow us yss) : GVt w0 w ow (vs ++ us) (xss ++ yss) := by
  refine ⟨by simp [h.1, g.1], fun j hj => ?_⟩
  by_cases hjl : j < vs.length
  · obtain ⟨a, m, c, e1, e2, e3⟩ := h.2 j hjl
    refine ⟨a, m, c, by rw [List.getElem?_append_left hjl]; exact e1, ?_, e3⟩
    have : (xss ++ yss).getD j [] = xss.getD j [] := by
      simp only [List.getD_eq_getElem?_getD]; rw [List.getElem?_append_left (by rw [← h.1]; exact hjl)]
    rw [this]; exact e2
  · have hj2 : j - vs.length < us.length := by simp at hj; omega
    obtain ⟨a, m, c, e1, e2, e3⟩ := g.2 (j - vs.length) hj2
    refine ⟨a, m, c, by rw [List.getElem?_append_right (by omega)]; exact e1, ?_, e3⟩
    have : (xss ++ yss).getD j [] = yss.getD (j - vs.length) [] := by
      simp only [List.getD_eq_getElem?_getD]; rw [List.getElem?_append_right (by rw [← h.1]; omega), ← h.1]
    rw [this]; exact e2

theorem GVt.one {ao : Option Addr} {n cap : Nat} {xs : List Int} (h : GVt w0 w ow [.slice ao n cap] [xs]) : U.Row w ao n cap xs := by
  obtain ⟨a, k, p, e1, e2, _⟩ := h.2 0 (by simp)
  simp at e1
  obtain ⟨rfl, rfl, rfl⟩ := e1
  exact e2

/-- The trail and the watch behind Add. -/
theorem Sm.added {xs : List Int} {L : List E} (h : Sm c w0 g s m w) (W' : Wa c.k c.kw w' g' s.L s.lev m.p s.H) (d : AddD c.kw.n w.heap.size g g' xs) (f : FW c.kw.B w w') : Nx c w0 w m g' s w' := by
  have := h.wa (L' := s.L) (lev' := s.lev) (H' := s.H) W' (FT.fw f) (fun i hi hg j e h0 hj => ?_) (fun h0 j e hj => h.t.ft j (.inr (.inr (.inr ⟨h0, by rw [← d.hv]; exact e⟩))))
  · exact ⟨_, this.1, this.2⟩
  · obtain ⟨lv, e1, e2⟩ := d.lo
    rw [d.nx] at hi
    rw [d.gn] at hg
    rw [e1] at e
    rw [d.lt] at h0
    by_cases q : i = g.nx
    · subst q
      rw [up_same] at e h0
      have := e2 j e h0
      omega
    · rw [up_ne _ _ q] at e h0 hg
      exact h.t.ft j (.inr (.inr (.inl ⟨i, by omega, hg, e, h0⟩)))

set_option maxHeartbeats 2000000 in
theorem add_s (h : Sm c w0 g s m w) {ao : Option Addr} {n cap : Nat} {xs : List Int} (row : GVt w0 w m.ow [.slice ao n cap] [xs]) (hn : n ≤ 1000) (hx : ∀ x ∈ xs, 0 ≤ x ∧ x < 2 * (c.kw.n : Int)) (hnx : g.nx ≤ 1000000) (hpl : (g.P (3 * c.kw.n)).length ≤ 1000000000000) (hcl : s.cls.length ≤ 1000000) :
    Calls Tryz.prog 28 #[.pointer (some ⟨c.SB, 0, none⟩), .slice ao n cap] w fun e w' => ∃ g', e = .returned (.tuple #[]) ∧ Hid (Nx c w0 w m g' (s.C (s.cls ++ [xs])) w') ∧ Hid (AddD c.kw.n w.heap.size g g' xs) := by
  obtain ⟨md, hd, kd⟩ := h.xbelow (below_drew w)
  have c0 := h.c0
  have c1 := h.c1
  have HD := hid hd
  have KD := hid kd
  have HX := hid hx
  have GD := hid (kd.gv _ _ row)
  have e0 : (w.drew).heap.size = w.heap.size := rfl
  clear hd kd hx h row
  go_enter Tryz.func28, Tryz.ntmps28
  go_upto_region 0 with fail
  go_region_with (first
    | (go_at_call 42; with_reducible (refine (add_is HD.out.W ⟨c.k.OB, 0, none⟩ GD.out.one hn HX.out hnx hpl).mono ?_); rintro e w5 ⟨g5, rfl, W5, D5, F5⟩))
  all_goals
    obtain ⟨m5, h5, k5⟩ := HD.out.added (L := s.L) W5.out D5.out F5.out
    obtain ⟨vs, q1, q2, q3⟩ := h5.cl
    have G5 := hid (k5.gv _ _ GD.out)
    have x3 := h5.c3
    obtain ⟨ca, cp, ecv⟩ : ∃ ca cp, m5.cv = .slice ca s.cls.length cp := by
      rcases q1.2 with ⟨e, e2⟩ | ⟨b, cap, cur, e, _⟩
      · exact ⟨none, 0, by rw [e, e2]⟩
      · exact ⟨_, cap, e⟩
    obtain ⟨v7, w7, r7, o7, g7, n7⟩ := run_cls (w1 := w5) (w := w5.alloc (.cells #[.slice ao n cap] 42)) 0 (.slice ao n cap) rfl (by go_grown) w0.heap.size m5.cv s.cls.length vs q1 w5.heap.size (cell_of (o := 0) (new_same w5 _)) hcl h5.b0.size
    obtain ⟨b7, p7, rfl⟩ := own_pos o7
    obtain ⟨q7, h8, k8⟩ := h5.addc (xs := xs) q1 (q3.1.app G5.out) q2 o7 g7 n7
    have y3 : w7.cell? ⟨c.SB, 3, none⟩ = some m5.cv := by rw [cell_of q7]; rfl
    have u3 : w7.frozen? ⟨c.SB, 3, none⟩ = false := frozen_of q7
    rw [ecv] at x3 y3
    have R7 : Hid (∀ ty, (Builtin.append_ #[22, 22] ty #[.slice ca s.cls.length cp, .slice (some ⟨w5.heap.size, 0, none⟩) 1 1]).run Tryz.prog (w5.alloc (.cells #[.slice ao n cap] 42)) = .ok (.slice (some ⟨b7, 0, none⟩) (s.cls.length + 1) p7) w7) := hid (fun ty => by rw [← ecv]; exact r7)
    have HE : Hid (Nx c w0 w m g5 (s.C (s.cls ++ [xs])) (w7.setCell ⟨c.SB, 3, none⟩ (.slice (some ⟨b7, 0, none⟩) (s.cls.length + 1) p7))) := hid ⟨_, h8, (KD.out.trans k5).trans k8⟩
    have lt5 := h5.sb_lt
    clear h8 k8 q7 o7 g7 n7 r7 q1 q2 q3 h5 k5 W5 F5 G5
    go_wp2_with (at_builtin; refine list_of (t := 22) (v := .slice ca s.cls.length cp) (u := .slice (some ⟨w5.heap.size, 0, none⟩) 1 1) rfl _ _ rfl rfl rfl (R7.out _) ?_)
    go_end0
    exact ⟨g5, rfl, HE, D5⟩
end
end Go.Proofs.YtimfjoinjfecjaaGreat

namespace Go.Proofs.YtimfjoinjfecjaaGreat
open Go.RowKit Go.Maps
set_option linter.unusedVariables false

def bumpsF (A : List Int) (d : Int) (xs : List Int) : List Int := xs.foldl (fun A v => Od.bumpF A v d) A
theorem bumps_next {A : List Int} {d : Int} {xs : List Int} {q : Nat} {y : Int} (h : xs[q]? = some y) : bumpsF A d (xs.take (q + 1)) = Od.bumpF (bumpsF A d (xs.take q)) y d := by
  rw [List.take_add_one, h]
  simp [bumpsF, List.foldl_append]

def hlvF : Nat → List Int → Nat → List Int × Nat
  | 0, A, x => (A, x)
  | f + 1, A, x => if 262144 ≤ x then hlvF f (Od.halveF A) (x / 2) else (A, x)

def weighF (s : SS) (met : List Int) : SS :=
  if s.wg + s.wg / 32 ≤ 17179869184 then (upO s (bumpsF s.A s.wg met) s.W).wt (s.wg + s.wg / 32)
  else (upO s (hlvF (s.wg + s.wg / 32) (bumpsF s.A s.wg met) (s.wg + s.wg / 32)).1 s.W).wt (hlvF (s.wg + s.wg / 32) (bumpsF s.A s.wg met) (s.wg + s.wg / 32)).2

theorem weigh_a {s : SS} {met : List Int} {x : Nat} (hx : s.wg + s.wg / 32 = x) (h : x ≤ 17179869184) : weighF s met = (upO s (bumpsF s.A s.wg met) s.W).wt x := by unfold weighF; rw [hx, if_pos h]
theorem weigh_b {s : SS} {met : List Int} {x f y : Nat} {A : List Int} (hx : s.wg + s.wg / 32 = x) (h : ¬ x ≤ 17179869184) (hh : hlvF f A y = hlvF x (bumpsF s.A s.wg met) x) (hy : ¬ 262144 ≤ y) : weighF s met = (upO s A s.W).wt y := by
  have e : hlvF f A y = (A, y) := by
    cases f with
    | zero => rfl
    | succ f => unfold hlvF; rw [if_neg hy]
  unfold weighF
  rw [hx, if_neg h, ← hh, e]

section
variable {c : SC} {w0 w w' : World} {g g' : G} {s s' : SS} {m m' : MV}

/-- A field, as a number. -/
def numOf (c : SC) (i : Nat) (w : World) : Nat := match w.cell? ⟨c.SB, i, none⟩ with
  | some (.int _ x) => x.toNat
  | _ => 0
theorem num_wg (h : Sm c w0 g s m w) : numOf c 11 w = s.wg := by unfold numOf; rw [h.c11]; simp

theorem Nx.out (h : Nx c w0 w m g' s' w') : ∃ m', Hid (Sm c w0 g' s' m' w') ∧ Hid (Kp w0 w m.ow w' m'.ow) := h

theorem sbump (h : Sm c w0 g s m w) (v d : Int) : Calls Tryz.prog 86 #[.pointer (some ⟨c.ko.OB, 0, none⟩), .int .i64 v, .int .i64 d] w fun e w' => ∃ b, e = .returned (.bool b) ∧ Hid (Nx c w0 w m g (upO s (Od.bumpF s.A v d) s.W) w') := by
  refine (Od.bump_any h.o v d).mono fun e w' q => ?_
  obtain ⟨rfl, q1, q2⟩ := q
  exact ⟨_, rfl, h.xord q1 q2⟩
theorem shalve (h : Sm c w0 g s m w) : Calls Tryz.prog 87 #[.pointer (some ⟨c.ko.OB, 0, none⟩)] w fun e w' => e = .returned (.tuple #[]) ∧ Hid (Nx c w0 w m g (upO s (Od.halveF s.A) s.W) w') := by
  refine (Od.halve_any h.o).mono fun e w' q => ?_
  obtain ⟨rfl, q1, q2⟩ := q
  exact ⟨rfl, h.xord q1 q2⟩
theorem spush (h : Sm c w0 g s m w) (v : Int) : Calls Tryz.prog 29 #[.pointer (some ⟨c.ko.OB, 0, none⟩), .int .i64 v] w fun e w' => ∃ b, e = .returned (.bool b) ∧ Hid (Nx c w0 w m g (upO s s.A (Od.pushW c.kw.n s.W v)) w') := by
  refine (Od.push_any h.o v).mono fun e w' q => ?_
  obtain ⟨rfl, v', q1, q2⟩ := q
  rw [h.hn] at q1
  exact ⟨_, rfl, h.xord q1 q2⟩
theorem spop (h : Sm c w0 g s m w) : Calls Tryz.prog 60 #[.pointer (some ⟨c.ko.OB, 0, none⟩)] w fun e w' => e = .returned (.tuple #[.int .i64 (Od.popV s.A s.W), .bool (Od.popA s.A s.W)]) ∧ Hid (Nx c w0 w m g (upO s s.A (Od.popW s.A s.W)) w') := by
  refine (Od.pop_any h.o).mono fun e w' q => ?_
  obtain ⟨rfl, v', q1, q2⟩ := q
  exact ⟨rfl, h.xord q1 q2⟩

set_option maxHeartbeats 4000000 in
theorem weigh_is (h : Sm c w0 g s m w) {ao : Option Addr} {n cap : Nat} {xs : List Int} (row : GVt w0 w m.ow [.slice ao n cap] [xs]) (hw : s.wg ≤ 20000000000) :
    Calls Tryz.prog 52 #[.pointer (some ⟨c.SB, 0, none⟩), .slice ao n cap] w fun e w' => e = .returned (.tuple #[]) ∧ Nx c w0 w m g (weighF s xs) w' := by
  obtain ⟨wg, hwg⟩ : ∃ wg, s.wg = wg := ⟨_, rfl⟩
  obtain ⟨u, hu⟩ : ∃ u, wg / 32 = u := ⟨_, rfl⟩
  rw [hwg] at hw
  have HWG := hid hwg
  have hmx : (n : Int) ≤ 9223372036854775807 := by have := row.one.max; omega
  have H := hid h
  have R := hid row
  clear h row
  go_enter Tryz.func52, Tryz.ntmps52
  go_wp2
  go_loopw [8] (fun i wr => ∃ (q : Nat) (m1 : MV), q ≤ n ∧ i = .int .i64 q ∧ Hid (Sm c w0 g (upO s (bumpsF s.A wg (xs.take q)) s.W) m1 wr) ∧ Hid (Kp w0 w m.ow wr m1.ow)) (fun i _ => n - (intOf i).toNat)
  case atStart => exact ⟨0, m, Nat.zero_le _, rfl, H, hid (Kp.refl _ _ _)⟩
  case round =>
    clear H
    obtain ⟨q, m1, hq, rfl, h1, k1⟩ := hrel
    have c2 := h1.out.c2
    have c11 := h1.out.c11
    have f11 := h1.out.frz 11
    rw [show (upO s (bumpsF s.A wg (xs.take q)) s.W).wg = wg from hwg] at c11
    by_cases hlt : q < n
    · have hlt' : (q : Int) < n := by omega
      obtain ⟨b, off, y, rfl, hc, hy, y0, y1⟩ := (k1.out.gv _ _ R.out).one.at hlt
      have HU : Hid (bumpsF s.A wg (xs.take (q + 1)) = Od.bumpF (bumpsF s.A wg (xs.take q)) y wg) := hid (bumps_next hy.out)
      obtain ⟨m2, h2, k2⟩ := h1.out.xbelow (below_drew wr)
      have H2 := hid h2
      have K2 := hid (k1.out.trans k2)
      clear h2 k2 h1 k1
      go_wp2
      go_region_with (first
        | (go_at_call 86; with_reducible (refine (sbump H2.out y wg).mono ?_); rintro e w5 ⟨bb, rfl, n5⟩; have n6 := Nx.out n5.out; obtain ⟨m5, h5, k5⟩ := n6))
      all_goals go_wp2
      all_goals go_roundw
      all_goals first
        | exact ⟨q + 1, m5, by omega, by go_num, hid (by rw [HU.out]; exact h5.out), hid (K2.out.trans k5.out)⟩
        | (simp only [intOf]; omega)
    · have HT : Hid (xs.take q = xs) := hid (List.take_of_length_le (by have := R.out.one.1; omega))
      have H1 : Hid (Sm c w0 g (upO s (bumpsF s.A wg xs) s.W) m1 wr) := hid (by have := h1.out; rw [HT.out] at this; exact this)
      clear h1 HT
      obtain ⟨x, hx⟩ : ∃ x, wg + u = x := ⟨_, rfl⟩
      have hxI : (wg : Int) + u = x := by omega
      have HX : Hid (s.wg + s.wg / 32 = x) := hid (by rw [hwg, hu]; exact hx)
      have huI : (wg : Int) / 32 = u := by omega
      obtain ⟨m2, h2, k2⟩ := H1.out.xwg x
      obtain ⟨m3, h3, k3⟩ := h2.xbelow (below_drew _)
      have H3 := hid h3
      have K3 := hid ((k1.out.trans k2).trans k3)
      have hxw : IntKind.i64.wrap ((wg : Int) + (wg : Int) / 32) = x := by rw [IntKind.wrap_i64]; omega
      clear h2 k2 h3 k3 H1 k1
      go_upto_region 5 with fail
      go_region
      generalize hw3 : (wr.setCell ⟨c.SB, 11, none⟩ (.int .i64 (x : Int))).drew = w3 at *
      clear hw3 c2 c11 f11
      have d11 := H3.out.c11
      rw [show ((upO s (bumpsF s.A wg xs) s.W).wt x).wg = x from rfl] at d11
      by_cases hsm : x ≤ 17179869184
      · have hsm' : (x : Int) ≤ 17179869184 := by omega
        have HE : Hid (Nx c w0 w m g (weighF s xs) w3) := hid (by rw [weigh_a HX.out hsm, hwg]; exact ⟨m3, H3.out, K3.out⟩)
        clear H3 K3
        go_wp2
        refine bodyPost_ret (results_none rfl _ _ _) rfl ?_
        exact ⟨rfl, HE.out⟩
      · have hsm' : ¬ (x : Int) ≤ 17179869184 := by omega
        go_wp2
        go_loopw [] (fun wl => ∃ (f y : Nat) (A : List Int) (m4 : MV), y ≤ f ∧ y ≤ x ∧ Hid (hlvF f A y = hlvF x (bumpsF s.A wg xs) x) ∧ Hid (Sm c w0 g ((upO s A s.W).wt y) m4 wl) ∧ Hid (Kp w0 w m.ow wl m4.ow)) (fun wl => numOf c 11 wl)
        case atStart => exact ⟨x, x, _, m3, Nat.le_refl _, Nat.le_refl _, hid rfl, H3, K3⟩
        case round =>
          clear H3 K3 d11
          obtain ⟨f, y, A, m4, hyf, hyx, hh, h4, k4⟩ := hrel
          have z2 := h4.out.c2
          have z11 := h4.out.c11
          rw [show ((upO s A s.W).wt y).wg = y from rfl] at z11
          have NM := hid (num_wg h4.out)
          by_cases hy : 262144 ≤ y
          · have hy' : (262144 : Int) ≤ y := by omega
            obtain ⟨v, hv⟩ : ∃ v, y / 2 = v := ⟨_, rfl⟩
            have hvI : (y : Int) / 2 = v := by omega
            have hvl : v < y := by omega
            obtain ⟨f', rfl⟩ : ∃ f', f = f' + 1 := ⟨f - 1, by omega⟩
            have HH : Hid (hlvF f' (Od.halveF A) v = hlvF x (bumpsF s.A wg xs) x) := hid (by
              have := hh.out
              unfold hlvF at this
              rw [if_pos hy, hv] at this
              rw [this]
              conv => rhs; unfold hlvF)
            clear hh
            go_wp2_with (first
              | (go_at_call 87; with_reducible (refine (shalve h4.out).mono ?_); rintro e w5 ⟨rfl, n5⟩; have n6 := Nx.out n5.out; obtain ⟨m5, h5, k5⟩ := n6; have a11 := h5.out.c11; rw [show (upO ((upO s A s.W).wt y) (Od.halveF ((upO s A s.W).wt y).A) ((upO s A s.W).wt y).W).wg = y from rfl] at a11; have b11 := h5.out.frz 11))
            obtain ⟨m6, h6, k6⟩ := h5.out.xwg v
            have e6 := num_wg h6
            refine ⟨⟨f', v, Od.halveF A, m6, by omega, by omega, HH, hid h6, hid ((k4.out.trans k5.out).trans k6)⟩, ?_⟩
            rw [e6, NM.out]
            exact hvl
          · have hy' : ¬ (262144 : Int) ≤ y := by omega
            have HE : Hid (Nx c w0 w m g (weighF s xs) wr) := hid (by rw [weigh_b HX.out hsm (by rw [hwg]; exact hh.out) hy]; exact ⟨m4, h4.out, k4.out⟩)
            clear h4 k4 hh
            go_wp2
            go_end0
            exact ⟨rfl, HE.out⟩
end
end Go.Proofs.YtimfjoinjfecjaaGreat

namespace Go.Proofs.YtimfjoinjfecjaaGreat
open Go.RowKit Go.Shelf
set_option linter.unusedVariables false

attribute [local go_sem] Oper.semAt_some

/-- The last literals first, till one of a level that stays. -/
def keepTF (L : List E) (level : Int) : List Nat → List Bool → List Bool
  | [], tr => tr
  | x :: r, tr => if levelF L ((x / 2 : Nat) : Int) ≤ level then tr else keepTF L level r (tr.set (x / 2) (!decide (x % 2 = 1)))

def ktF (s : SS) (level : Int) : SS := s.T (keepTF s.L level (s.L.reverse.map E.l) s.tr)

section
variable {c : SC} {w0 w w' : World} {g g' : G} {s s' : SS} {m m' : MV} {W W' : World} {tr tr' : List Bool} {level : Int}

/-- What stands while truths are kept. -/
structure Kt (c : SC) (m : MV) (w : World) (level : Int) (tr : List Bool) (W : World) : Prop where
  os : W.os = w.os
  tape : W.tape = w.tape
  output : W.output = w.output
  blk : ∀ j, j < w.heap.size → j ≠ m.tb → W.heap[j]? = w.heap[j]?
  tb : W.heap[m.tb]? = some (.cells (tr.map Value.bool).toArray 4 (0, 0))
  len : tr.length = c.kw.n
  b0 : Boxed W w.heap.size 44 (.pointer (some ⟨c.SB, 0, none⟩))
  b1 : Boxed W (w.heap.size + 1) 3 (.int .i64 level)
  sz : w.heap.size + 3 ≤ W.heap.size

theorem Kt.own {row : Option Nat} (d : Kt c m w level tr W) (g : W.grownBy W' row) (hr : ∀ r, row = some r → w.heap.size + 3 ≤ r) (htb : m.tb < w.heap.size) : Kt c m w level tr W' := by
  have hsz := d.sz
  have hbox : ∀ j, j < w.heap.size + 3 → W'.heap[j]? = W.heap[j]? := fun j hj => g.block j (by omega) (fun e => by have := hr j e.symm; omega)
  exact ⟨g.os.trans d.os, g.tape.trans d.tape, g.output.trans d.output, fun j hj hne => (hbox j (by omega)).trans (d.blk j hj hne), (hbox _ (by omega)).trans d.tb, d.len, box_as d.b0 (hbox _ (by omega)), box_as d.b1 (hbox _ (by omega)), Nat.le_trans hsz g.size⟩

theorem Kt.below (d : Kt c m w level tr W) (b : Below W.heap.size W W') (htb : m.tb < w.heap.size) : Kt c m w level tr W' := d.own (grown_below b) (fun r e => by cases e) htb

theorem Kt.put (d : Kt c m w level tr W) (htb : m.tb < w.heap.size) (i : Nat) (b : Bool) : Kt c m w level (tr.set i b) (W.setCell ⟨m.tb, i, none⟩ (.bool b)) := by
  have hsz := d.sz
  have ho : ∀ j, j ≠ m.tb → (W.setCell ⟨m.tb, i, none⟩ (.bool b)).heap[j]? = W.heap[j]? := fun j hj => set_other _ hj
  exact ⟨d.os, d.tape, d.output, fun j hj hne => (ho j hne).trans (d.blk j hj hne), by rw [set_same d.tb]; simp [List.map_set], by simpa using d.len, box_as d.b0 (ho _ (by omega)), box_as d.b1 (ho _ (by omega)), by simpa [World.setCell] using d.sz⟩

theorem Sm.tb_lt (h : Sm c w0 g s m w) : m.tb < w.heap.size := blk_lt h.tr.1

/-- The truths are others now. -/
theorem Sm.truths (h : Sm c w0 g s m w) (os : W.os = w.os) (tape : W.tape = w.tape) (output : W.output = w.output) (size : w.heap.size ≤ W.heap.size) (blk : ∀ j, j < w.heap.size → j ≠ m.tb → W.heap[j]? = w.heap[j]?) (tb : W.heap[m.tb]? = some (.cells (tr.map Value.bool).toArray 4 (0, 0))) (len : tr.length = c.kw.n) : Nx c w0 w m g (s.T tr) W := by
  have ch : Cg m.ow 7 7 w W := ⟨os, tape, output, size, fun j hj hn _ => blk j hj (fun e => by subst e; exact hn h.t.tb)⟩
  have R := h.rest ch (h.old ch (by decide) (by decide)) (by decide) (by decide) (fun j => decide (j = m.tb))
  refine ⟨{ m with ow := owT m.ow 7 w.heap.size (fun j => decide (j = m.tb)) }, ⟨R.W (by decide) (by decide), R.o (by decide) (by decide), R.sb (by decide) (by decide), R.cl (by decide) (by decide), R.pr (by decide) (by decide), R.fa (by decide) (by decide), R.nu (by decide) (by decide), ⟨tb, len⟩, R.b0, h.hB, h.hn, R.lo, R.ft (by decide), R.od (by decide), R.tsb (by decide), owT_mine (Q := fun j => decide (j = m.tb)) (.inl h.t.tb) (decide_eq_true rfl), fun j hj h1 => ?_, R.u6 (by decide), fun j hj => ?_⟩, kpT R.gv ch.size R.zz⟩
  · by_cases e : owT m.ow 7 w.heap.size (fun j => decide (j = m.tb)) j = 7
    · rcases owT_cases m.ow 7 w.heap.size (fun j => decide (j = m.tb)) j with q | ⟨_, q⟩ | ⟨q1, q2, q3⟩
      · exact absurd q h1
      · have : j = m.tb := by simpa using q
        subst this
        exact ⟨4, ⟨_, _, tb⟩, by simp [Wt]⟩
      · rw [q1] at e; exact absurd e q3
    · exact R.ty j hj h1 e e
  · change owT m.ow 7 w.heap.size (fun j => decide (j = m.tb)) j = 7 at hj
    rcases owT_cases m.ow 7 w.heap.size (fun j => decide (j = m.tb)) j with q | ⟨_, q⟩ | ⟨q1, q2, q3⟩
    · omega
    · simpa using q
    · omega

theorem Kt.nx (h : Sm c w0 g s m w) (d : Kt c m w level tr W) : Nx c w0 w m g (s.T tr) W :=
  h.truths d.os d.tape d.output (by have := d.sz; omega) d.blk d.tb d.len

theorem Kt.trl (h : Sm c w0 g s m w) (d : Kt c m w level tr W) : Trl c.k W s.L s.lev m.p := by
  obtain ⟨F, S, r, q, e⟩ := h.W.j.t
  exact ⟨F, S, r.same (fun j hj => d.blk j (r.mine_lt hj).2 (fun q => by subst q; have := h.t.ft _ (.inl hj); rw [h.t.tb] at this; omega)), q, e⟩

theorem Kt.sb (h : Sm c w0 g s m w) (d : Kt c m w level tr W) : W.heap[c.SB]? = some (.cells (sbc c s m) 61 (0, 0)) := by
  rw [d.blk _ h.sb_lt (fun q => by have h1 := h.t.sb; rw [q, h.t.tb] at h1; omega)]; exact h.sb

/-! ### Over an empty list -/
set_option maxRecDepth 100000 in
theorem backward1_nil (N : Nat) (hN : 1 ≤ N) (l Bs cap n : Nat) (ao : Option Addr) (J Jx : List (Al n) → World → Prop) (W : World) (hBs : W.cell? ⟨Bs, 0, none⟩ = some (.slice ao 0 cap)) (h0 : J [] W) :
    CallsIn Fence.wide N Tryz.prog 134 #[.func (.yield l) #[] #[], .pointer (some ⟨Bs, 0, none⟩)] W fun e W' => (∃ v, e = .returned v) ∧
      ((∃ ys, ys = [] ∧ J ys W') ∨ (∃ pre, pre <+: ([] : List (Al n)) ∧ Jx pre W')) := by
  refine callsIn_of_wp Tryz.func134 rfl trivial ?_ rfl
  simp only [Tryz.ntmps134, List.size_toArray, List.length_cons, List.length_nil, Nat.reduceAdd, Nat.reduceSub, Array.replicate_succ, Array.replicate_zero, List.push_toArray, List.append_toArray, List.nil_append, List.cons_append]
  gi_wp2
  gi_loopw [3] (fun i wr => i = .int .i64 (-1) ∧ J [] wr) (fun i _ => 0)
  case atStart => exact ⟨rfl, h0⟩
  case round =>
    obtain ⟨rfl, hJs⟩ := hrel
    gi_wp2
    go_end0
    exact ⟨⟨_, rfl⟩, .inl ⟨_, rfl, hJs⟩⟩

theorem backward_nil (N : Nat) (hN : 1 ≤ N) (Bs b cap n : Nat) (ao : Option Addr) (w : World) (hBl : Bs < w.heap.size) (hBs : w.cell? ⟨Bs, 0, none⟩ = some (.slice ao 0 cap)) :
    SeqStopsK Fence.wide N Tryz.prog 134 #[.pointer (some ⟨Bs, 0, none⟩)] (fun x : Al n => #[Value.int .i64 (x.1.1 : Int), Value.int .i64 (x.1.2 : Int)]) (Keep2 Bs b) (fun ys => ys = []) (fun pre => pre <+: []) 0 w := fun l J Jx W hW _ _ hY h0 =>
  backward1_nil N hN l Bs cap n ao J Jx W ((hW.cell (p := ⟨Bs, 0, none⟩) hBl).trans hBs) h0
end
end Go.Proofs.YtimfjoinjfecjaaGreat
