/-
  A watch, clauses in a list beside it, and what Run tells.
-/
import Derived.Test.YtikdmgemhfmipaaGreatWAdd
import Derived.Test.YtikdmgemhfmipaaGreatAP
namespace Go.Proofs.YtikdmgemhfmipaaGreat
open Go.RowKit Go.Maps
set_option linter.unusedVariables false

theorem Tryz.infoG : (Tryz.prog.info? 23).map (fun i => (i.zero, i.size, i.bytes)) = some (some (.slice none 0 0), 1, 24) := by kernel_rfl

/-- The values are lists that lie in memory. -/
def GV (w : World) (vs : List Value) (xss : List (List Int)) : Prop := vs.length = xss.length ∧ ∀ j, j < vs.length → ∃ a m c, vs[j]? = some (.slice a m c) ∧ U.Row w a m c (xss.getD j [])

theorem GV.keep {w w' : World} {vs : List Value} {xss : List (List Int)} (h : GV w vs xss) (b : Below w.heap.size w w') : GV w' vs xss := by
  refine ⟨h.1, fun j hj => ?_⟩
  obtain ⟨a, m, c, h1, h2⟩ := h.2 j hj
  exact ⟨a, m, c, h1, h2.keep b⟩

theorem own_grid {w : World} {B : Nat} {v : Value} {vs : List Value} {xss : List (List Int)} (own : w.ownsRow B 23 1 v vs.length vs) (g : GV w vs xss) : ∃ ao c, v = .slice ao vs.length c ∧ U.Grid w ao vs.length c xss := by
  rcases own.2 with ⟨rfl, hn⟩ | ⟨gb, cap, cur, rfl, hb, hg, hl, hm, rest⟩
  · rw [hn]
    refine ⟨none, 0, rfl, ⟨by have := g.1; omega, Nat.le_refl _, by unfold maxLen; omega, fun _ => rfl, fun h => by omega⟩⟩
  · refine ⟨_, _, rfl, g.1.symm, hl, hm, fun h => by simp at h, fun _ => ⟨gb, 0, rfl, fun j hj => ?_⟩⟩
    obtain ⟨a, m, c, h1, h2⟩ := g.2 j hj
    have h3 : w.ownsRow B 23 1 (.slice (some ⟨gb, 0, none⟩) vs.length cap) vs.length vs := own
    refine ⟨a, m, c, ?_, h2⟩
    rw [Nat.zero_add, h3.cellAt j (by omega)]
    exact h1

theorem GV.app {w : World} {vs us : List Value} {xss yss : List (List Int)} (h : GV w vs xss) (g : GV w us yss) : GV w (vs ++ us) (xss ++ yss) := by
  refine ⟨by simp [h.1, g.1], fun j hj => ?_⟩
  by_cases hjl : j < vs.length
  · obtain ⟨a, m, c, e1, e2⟩ := h.2 j hjl
    refine ⟨a, m, c, by rw [List.getElem?_append_left hjl]; exact e1, ?_⟩
    have : (xss ++ yss).getD j [] = xss.getD j [] := by
      simp only [List.getD_eq_getElem?_getD]; rw [List.getElem?_append_left (by rw [← h.1]; exact hjl)]
    rw [this]; exact e2
  · have hj2 : j - vs.length < us.length := by simp at hj; omega
    obtain ⟨a, m, c, e1, e2⟩ := g.2 (j - vs.length) hj2
    refine ⟨a, m, c, by rw [List.getElem?_append_right (by omega)]; exact e1, ?_⟩
    have : (xss ++ yss).getD j [] = yss.getD (j - vs.length) [] := by
      simp only [List.getD_eq_getElem?_getD]; rw [List.getElem?_append_right (by rw [← h.1]; omega), ← h.1]
    rw [this]; exact e2

theorem gv_one {w : World} {vs : List Value} {xss : List (List Int)} (h : GV w vs xss) : ∀ u ∈ vs, u.oneCell' = true := by
  intro u hu
  obtain ⟨j, hj, e⟩ := List.mem_iff_getElem.1 hu
  obtain ⟨a, m, c, h3, _⟩ := h.2 j hj
  rw [List.getElem?_eq_getElem hj, e] at h3
  simp only [Option.some.injEq] at h3
  rw [h3]; rfl

/-- A list of clauses that the call has made; the clauses are older. -/
def OwnG (w0 w : World) (v : Value) (xss : List (List Int)) : Prop := ∃ vs, w.ownsRow w0.heap.size 23 1 v xss.length vs ∧ GV w0 vs xss

theorem OwnG.nil (w0 w : World) : OwnG w0 w (.slice none 0 0) [] := ⟨[], World.ownsRow_nil _ _ _ _, rfl, fun j hj => by simp at hj⟩

theorem OwnG.alloc {w0 w : World} {v : Value} {xss : List (List Int)} (h : OwnG w0 w v xss) (o : Obj) : OwnG w0 (w.alloc o) v xss := by
  obtain ⟨vs, h1, h2⟩ := h
  exact ⟨vs, h1.alloc o, h2⟩

theorem OwnG.same {w0 w w' : World} {v : Value} {xss : List (List Int)} (h : OwnG w0 w v xss) (hb : ∀ j, Typ w j 23 → w'.heap[j]? = w.heap[j]?) : OwnG w0 w' v xss := by
  obtain ⟨vs, ⟨h0, h1⟩, h2⟩ := h
  refine ⟨vs, ⟨h0, ?_⟩, h2⟩
  rcases h1 with h1 | ⟨g, cap, cur, e, hb', hg, rest⟩
  · exact .inl h1
  · exact .inr ⟨g, cap, cur, e, hb', by rw [hb g ⟨_, _, hg⟩]; exact hg, rest⟩

theorem OwnG.keep {w0 w w' : World} {v : Value} {xss : List (List Int)} (h : OwnG w0 w v xss) (b : Below w.heap.size w w') : OwnG w0 w' v xss := h.same (fun j t => b.block j t.lt)

theorem OwnG.fw {B : Nat} {w0 w w' : World} {v : Value} {xss : List (List Int)} (h : OwnG w0 w v xss) (f : FW B w w') : OwnG w0 w' v xss := h.same (fun j t => f.block j 23 t (by simp [Wt]))

theorem Trl.mine23 {k : K} {w : World} {L : List E} {lev : Nat} {p : V} (t : Trl k w L lev p) {j : Nat} (h : Mine k p j) : ∃ T, Typ w j T ∧ T ≠ 23 := by
  obtain ⟨F, S, s, _⟩ := t
  rcases h with e | e | e | e
  · obtain ⟨c, h, _⟩ := s.fc
    exact ⟨65, by rw [e]; exact ⟨_, _, h⟩, by decide⟩
  · exact ⟨46, by rw [e]; exact ⟨_, _, s.cl⟩, by decide⟩
  · exact ⟨3, s.rl.typ e, by decide⟩
  · exact ⟨3, (LRow.of_own s.rs).typ e, by decide⟩

theorem OwnG.ft {k : K} {B : Nat} {L : List E} {lev : Nat} {p p' : V} {w0 w w' : World} {v : Value} {xss : List (List Int)} (h : OwnG w0 w v xss) (t : Trl k w L lev p) (f : FT k B p p' w w') : OwnG w0 w' v xss :=
  h.same (fun j ht => f.block j 23 ht (by simp [Wt]) (fun m => by
    obtain ⟨T', h1, h2⟩ := t.mine23 m
    exact h2 (h1.one ht)))

theorem OwnG.grid {w0 w : World} {v : Value} {xss : List (List Int)} (h : OwnG w0 w v xss) (b : Below w0.heap.size w0 w) : ∃ ao n c, v = .slice ao n c ∧ Hid (n = xss.length) ∧ Hid (U.Grid w ao n c xss) := by
  obtain ⟨vs, h1, h2⟩ := h
  have e : xss.length = vs.length := h2.1.symm
  rw [e] at h1
  obtain ⟨ao, c, e2, g⟩ := own_grid h1 (h2.keep b)
  exact ⟨ao, _, c, e2, e.symm, g⟩

theorem cat_cell {w w0 : World} {ops : Array Oper} {rest : List Oper} {o : Oper} {a : Act} {Q : Exit → Act → World → Prop} (hgd : o.guard = none) (s x : Operand)
    (ho : o.op = .call { callee := .builtin .append, args := #[s, x], argTypes := #[22, 22] }) (v : Value) (xss : List (List Int)) (ys : List Int) (hs : a.eval s = v) (own : OwnG w0 w v xss) (bel : Below w0.heap.size w0 w)
    (g : Nat) (hx : a.eval x = .slice (some ⟨g, 0, none⟩) 1 1) (sa : Option Addr) (m c : Nat) (hc : w.cell? ⟨g, 0, none⟩ = some (.slice sa m c)) (row : U.Row w0 sa m c ys) (hk : xss.length ≤ 1000)
    (h : ∀ v' w', Hid (OwnG w0 w' v' (xss ++ [ys])) → Hid (Below w0.heap.size w0 w') → Hid (w.grownBy w' v.ownBlock) → wpList Tryz.prog ops Q rest (a.put o.dst v') w') : wpList Tryz.prog ops Q (o :: rest) a w := by
  obtain ⟨vs, h1, h2⟩ := own
  obtain ⟨i0, hi, hz0, hz1, hz2⟩ := info_parts Tryz.infoG
  have gv : GV w0 [.slice sa m c] [ys] := ⟨rfl, fun j hj => by
    obtain rfl : j = 0 := by simpa using hj
    exact ⟨sa, m, c, rfl, row⟩⟩
  refine wpList_append_own (P := Tryz.prog) (w := w) hgd s x 22 ho w0.heap.size 23 i0 (.slice none 0 0) 1 24 Tryz.underlying22 hi hz0 hz1 hz2 rfl (by decide) v _ vs hs h1 ⟨g, 0, none⟩ 1 1 [.slice sa m c] hx rfl (fun j u hj => ?_) (gv_one gv) (by unfold maxLen; omega) (by omega) bel.size ?_
  · have hj0 : j = 0 := by
      have := (List.getElem?_eq_some_iff.1 hj).1; simpa using this
    subst hj0
    simp at hj
    subst hj
    exact hc
  · intro v' w' g1 g2 _
    refine h v' w' (hid ⟨vs ++ [.slice sa m c], ?_, h2.app gv⟩) (hid (bel.grown g2 bel.size fun j hj => (h1.lt j hj).1)) (hid g2)
    rw [List.length_append]; exact g1

theorem Told.same {k : K} {p : V} {w w' : World} {v : Value} {xs : List Int} (h : Told k p w v xs) (hb : ∀ j, Typ w j 3 → w'.heap[j]? = w.heap[j]?) : Told k p w' v xs := by
  obtain ⟨ao, n, c, h1, h2, h3, h4, h5, h5', h6, h7⟩ := h
  refine ⟨ao, n, c, h1, h2, h3, h4, h5, h5', h6, fun j x hx => ?_⟩
  obtain ⟨b, q1, q2, q3, q4⟩ := h7 j x hx
  exact ⟨b, q1, (World.cell?_of_block (hb b q3)).trans q2, q3.same (hb b q3), q4⟩

section
variable {k : K} {kw : WK} {w w1 w' w0 : World} {g g' : G} {L L' : List E} {lev lev' : Nat} {p p' : V} {H H' : List Int}

theorem Wa.below (W : Wa k kw w g L lev p H) (b : Below w.heap.size w w') : Wa k kw w' g L lev p H := ⟨W.j.below b, W.iv, W.ht.ft (FT.below (B := 0) b), W.hf, W.hH, W.hl, W.rs⟩

/-- The list of clauses has changed. -/
theorem Wa.other (W : Wa k kw w g L lev p H) {r : Nat} (gr : w.grownBy w' (some r)) (hr : Typ w r 23) : Wa k kw w' g L lev p H := by
  have key : ∀ j T', Typ w j T' → T' ≠ 23 → w'.heap[j]? = w.heap[j]? := fun j T' t n1 => gr.block j t.lt (fun e => by
    cases e
    exact n1 (t.one hr))
  have tr : Trl k w' L lev p := W.j.t.keep gr (fun j hj m => by
    cases hj
    obtain ⟨T', h1, h2⟩ := W.j.t.mine23 m
    exact h2 (h1.one hr))
  have st : St kw w' g := W.j.s.same (fun j T' t hw => key j T' t (by rintro rfl; simp [Wt] at hw)) (fun j es clock e => gr.block j (blk_lt e) (fun e2 => by
    cases e2; obtain ⟨c, f, q⟩ := hr; rw [e] at q; cases q)) (fun i j _ _ _ _ t => key j 3 t (by decide))
  exact ⟨⟨tr, st, W.j.n, W.j.b, W.j.aw⟩, W.iv, W.ht.same (fun j t => key j 3 t (by decide)), W.hf, W.hH, W.hl, W.rs⟩

theorem Wa.cat {v : Value} {xss : List (List Int)} (W : Wa k kw w g L lev p H) (own : OwnG w0 w v xss) (gr : w.grownBy w' v.ownBlock) : Wa k kw w' g L lev p H := by
  obtain ⟨vs, ⟨h0, h1⟩, h2⟩ := own
  rcases h1 with ⟨rfl, _⟩ | ⟨r, cap, cur, rfl, hb', hg, rest⟩
  · exact W.below ⟨gr.os, gr.tape, gr.output, gr.size, fun j hj => gr.block j hj (by simp [Value.ownBlock])⟩
  · exact W.other gr ⟨_, _, hg⟩

theorem Wa.fr (W : Wa k kw w g L lev p H) (f : Fr k p p' w w') (t : Trl k w' L' lev' p') (rs : Rs g L') : Wa k kw w' g L' lev' p' H :=
  ⟨W.j.fr f t, W.iv, W.ht.ft (FT.fr W.j.t W.j.b f), W.hf, W.hH, W.hl, rs⟩

theorem Rs.addL {n : Nat} (h : Rs g L) (l : Int) (gg : Nat) : Rs g (addL n L l gg (-1)) := by
  unfold Go.Proofs.YtikdmgemhfmipaaGreat.addL
  split
  · exact h.snoc (fun c => by change (0 : Int) ≤ -1 at c; omega)
  · exact h

theorem wa_decide (W : Wa k kw w g L lev p H) (l : Int) (hu : l ≤ 9223372036854775807) :
    Calls Tryz.prog 10 #[.pointer (some ⟨k.OB, 0, none⟩), .int .i64 l] w fun e w' => ∃ b L' lev' p', e = .returned (.bool b) ∧ Hid (b = mayF k.n L l ∧ L' = addL k.n L l (lev + 1) (-1) ∧ lev' = decV k.n L lev l) ∧ Hid (Wa k kw w' g L' lev' p' H) ∧ Hid (FT k kw.B p p' w w') := by
  refine (decide_is W.j.t l hu rfl rfl rfl).mono fun e w' h => ?_
  obtain ⟨p', rfl, t, f⟩ := h
  exact ⟨_, _, _, p', rfl, ⟨rfl, rfl, rfl⟩, W.fr f.out t.out (W.rs.addL l (lev + 1)), FT.fr W.j.t W.j.b f.out⟩

/-- What Run tells, in one form. -/
def RunV (g g' : G) (L' : List E) (i : Int) (ok : Bool) : Prop := (ok = true ∧ i = -1 ∧ Closed g' L') ∨ ∃ c : Nat, ok = false ∧ i = c ∧ c < g.nx ∧ g.gn c = false ∧ ∀ y ∈ g.lt c, valueF L' y = -1

theorem run_one (W : Wa k kw w g L lev p H) (hnx : g.nx ≤ 1000000) (hsu : tot kw.n g + kw.n * g.nx ≤ 3000000) :
    Calls Tryz.prog 9 #[.pointer (some ⟨kw.OB, 0, none⟩), .pointer (some ⟨k.OB, 0, none⟩)] w fun e w' => ∃ i ok g' L' p', e = .returned (.tuple #[.int .i64 i, .bool ok]) ∧ Hid (RunV g g' L' i ok) ∧ Hid (Wa k kw w' g' L' lev p' (litsF L')) ∧ Hid (Sm0 g g' ∧ tot kw.n g' ≤ tot kw.n g + (kw.n * g.nx + 1)) ∧ Hid (Ext L L' lev) ∧ Hid (FT k kw.B p p' w w') := by
  refine (run_is W hnx hsu).mono fun e w' h => ?_
  obtain ⟨g', L', p', h1, h2, h3, h4, h5, h6⟩ := h
  rcases h6 with ⟨rfl, h7⟩ | ⟨c, rfl, h7, h8, h9⟩
  · exact ⟨_, _, g', L', p', rfl, .inl ⟨rfl, rfl, h7⟩, h1, ⟨h2, h4⟩, h3, h5⟩
  · exact ⟨_, _, g', L', p', rfl, .inr ⟨c, rfl, rfl, h7, h8, h9⟩, h1, ⟨h2, h4⟩, h3, h5⟩

theorem g0_nx : g0.nx = 0 := rfl
theorem g0_pl (n : Nat) : (g0.P n).length ≤ 10000000 := by show 0 ≤ 10000000; omega
theorem tot_zero (n : Nat) : tot n g0 = 0 := by
  unfold tot sumL
  have : ∀ m, ((List.range m).map (fun v => (g0.P (2 * n + v)).length)).sum = 0 := by
    intro m
    induction m with
    | zero => rfl
    | succ m ih => rw [List.range_succ, List.map_append, List.sum_append, ih]; rfl
  rw [this]; rfl

theorem tot_pl (n : Nat) (g : G) : (g.P (3 * n)).length ≤ tot n g := by unfold tot; omega

/-- Of a list that grew by literals of one level: a literal that had no value and does not hold is of that level. -/
theorem new_level {M : List E} (hnd : ND (L ++ M)) (hM : ∀ e ∈ M, e.g = lev) {x : Int} (h0 : valueF L x = 0) (h1 : valueF (L ++ M) x = -1) : levelF (L ++ M) (vl x : Nat) = lev := by
  obtain ⟨_, x0, q, hq⟩ := val_neg (by rw [h1]; omega : valueF (L ++ M) x < 0)
  have hndL : ND L := by
    unfold ND at hnd ⊢
    rw [List.map_append] at hnd
    exact (List.nodup_append.1 hnd).1
  have hql : L.length ≤ q := by
    by_cases c : q < L.length
    · exfalso
      rw [litsF_app, List.getElem?_append_left (by rw [litsF_len]; exact c)] at hq
      rw [val_not hndL x0 hq] at h0
      omega
    · omega
  have hq' := hq
  unfold litsF at hq'
  rw [List.getElem?_map] at hq'
  obtain ⟨e, he, hel⟩ := Option.map_eq_some_iff.1 hq'
  have hv : vl x = vr e := by rw [← vl_not x0, ← hel]; unfold vl vr; simp
  rw [hv, level_of hnd he]
  have hm : e ∈ M := by
    rw [List.getElem?_append_right hql] at he
    exact List.mem_of_getElem? he
  rw [hM e hm]

theorem keeps_one {M : List E} (hnd : ND (L ++ M)) {x : Int} (h0 : valueF L x = 1) : valueF (L ++ M) x = 1 := by
  obtain ⟨_, q, hq⟩ := val_one h0
  refine val_pos hnd (q := q) ?_
  rw [litsF_app, List.getElem?_append_left (List.getElem?_eq_some_iff.1 hq).1]
  exact hq

/-- Where nothing was left to follow, a clause that does not hold now has a literal of the new level. -/
theorem conf_level {M : List E} (hc : Closed g L) (hnd : ND (L ++ M)) (hM : ∀ e ∈ M, e.g = lev) {c : Nat} (h1 : c < g.nx) (h2 : g.gn c = false) (h3 : ∀ y ∈ g.lt c, valueF (L ++ M) y = -1) : ∃ y ∈ g.lt c, levelF (L ++ M) (vl y : Nat) = lev := by
  rcases hc c h1 h2 with ⟨x, hx, v⟩ | ⟨x, hx, y, hy, hne, v, v'⟩
  · have := keeps_one hnd v
    rw [h3 x hx] at this
    omega
  · exact ⟨x, hx, new_level hnd hM v (h3 x hx)⟩

/-- What is decided stands above all before it. -/
def Dc (L : List E) : Prop := ∀ (q : Nat) (e : E), L[q]? = some e → e.r < 0 → 1 ≤ e.g ∧ ∀ (q' : Nat) (e' : E), q' < q → L[q']? = some e' → e'.g < e.g

theorem Dc.nil : Dc [] := fun q e h => by simp at h

theorem Dc.ext (h : Dc L) (x : Ext L L' lev) : Dc L' := by
  obtain ⟨M, rfl, hM⟩ := x
  intro q e he hr
  by_cases c : q < L.length
  · rw [List.getElem?_append_left c] at he
    obtain ⟨h1, h2⟩ := h q e he hr
    refine ⟨h1, fun q' e' hq' he' => h2 q' e' hq' ?_⟩
    rw [List.getElem?_append_left (by omega)] at he'
    exact he'
  · rw [List.getElem?_append_right (by omega)] at he
    have := (hM e (List.mem_of_getElem? he)).2
    omega

theorem Dc.dec (h : Dc L) (hg : ∀ e ∈ L, e.g ≤ lev) (m : Nat) : Dc (L ++ [⟨m, lev + 1, -1⟩]) := by
  intro q e he hr
  by_cases c : q < L.length
  · rw [List.getElem?_append_left c] at he
    obtain ⟨h1, h2⟩ := h q e he hr
    refine ⟨h1, fun q' e' hq' he' => h2 q' e' hq' ?_⟩
    rw [List.getElem?_append_left (by omega)] at he'
    exact he'
  · rw [List.getElem?_append_right (by omega)] at he
    have hm := List.mem_of_getElem? he
    rw [List.mem_singleton] at hm
    subst hm
    refine ⟨Nat.le_add_left _ _, fun q' e' hq' he' => ?_⟩
    have hq2 : q < L.length + 1 := by
      have := (List.getElem?_eq_some_iff.1 he).1
      simp at this; omega
    rw [List.getElem?_append_left (by omega)] at he'
    have := hg e' (List.mem_of_getElem? he')
    show e'.g < lev + 1
    omega

/-- The clauses of a watch, in a list. -/
structure Cls (n : Nat) (g : G) (cls : List (List Int)) : Prop where
  nx : g.nx = cls.length
  lt : ∀ i, i < g.nx → cls[i]? = some (g.lt i)
  gn : ∀ i, i < g.nx → g.gn i = false
  nn : ∀ c ∈ cls, ∀ y ∈ c, 0 ≤ y ∧ y < 2 * (n : Int)

theorem Cls.nil (n : Nat) : Cls n g0 [] := ⟨rfl, fun i hi => by simp [g0] at hi, fun i hi => by simp [g0] at hi, fun c hc => by simp at hc⟩

theorem Cls.sm {n : Nat} {cls : List (List Int)} (h : Cls n g cls) (s : Sm0 g g') : Cls n g' cls :=
  ⟨by rw [s.nx]; exact h.nx, by rw [s.nx, s.lt]; exact h.lt, by rw [s.nx, s.gn]; exact h.gn, h.nn⟩

theorem Cls.add {n : Nat} {cls : List (List Int)} {xs : List Int} (h : Cls n g cls) (d : AddD n g g' xs) (hx : ∀ x ∈ xs, 0 ≤ x ∧ x < 2 * (n : Int)) : Cls n g' (cls ++ [xs]) := by
  have h0 := h.nx
  refine ⟨by rw [d.nx, h0]; simp, fun i hi => ?_, fun i hi => ?_, fun c hc => ?_⟩
  · rw [d.nx] at hi
    rw [d.lt]
    by_cases e : i = g.nx
    · subst e; rw [up_same, h0]; simp
    · rw [up_ne _ _ e, List.getElem?_append_left (by omega)]; exact h.lt i (by omega)
  · rw [d.nx] at hi
    rw [d.gn]
    by_cases e : i = g.nx
    · subst e; rw [up_same]
    · rw [up_ne _ _ e]; exact h.gn i (by omega)
  · rcases List.mem_append.1 hc with hc | hc
    · exact h.nn c hc
    · rw [List.mem_singleton] at hc; subst hc; exact hx
end
end Go.Proofs.YtikdmgemhfmipaaGreat
