/-
  nextRound, and what is known of the clauses that were learned: add, use.
  add: a clause is there.
  The order's calls, of a solver; weigh.
  keepTruths: the truths of what is taken back are kept.
-/
import Derived.Test.YtimfjoinjfecjaaGreatG30
import Derived.Test.YtimfjoinjfecjaaGreatG31
import Derived.Deep.RegionHeld3
import Derived.Test.YtimfjoinjfecjaaGreatG13

namespace Go.Proofs.YtimfjoinjfecjaaGreat
open Go.RowKit Go.Maps
set_option linter.unusedVariables false

/-- What comes next. -/
def Nx (c : SC) (w0 w : World) (m : MV) (g' : G) (s' : SS) (w' : World) : Prop := ∃ m', Sm c w0 g' s' m' w' ∧ Kp w0 w m.ow w' m'.ow

def nextF (s : SS) : SS := { s with rd := s.rd + 1, en := s.cf + 64 * Ly.luby (s.rd + 1) }

theorem bl_cell {w w' : World} {a : Addr} {v : Value} (b : Below w.heap.size w w') (h : w.cell? a = some v) : w'.cell? a = some v := (b.cell (cell_lt h)).trans h
theorem bl_frz {w w' : World} {a : Addr} {v : Value} (b : Below w.heap.size w w') (h : w.cell? a = some v) (f : w.frozen? a = false) : w'.frozen? a = false := by
  have := b.block a.block (cell_lt h)
  simp only [World.frozen?, this] at f ⊢
  exact f

theorem term_at (rd tm : Nat) (h : Ly.luby (rd + 1) = tm) (hr : rd ≤ 1000000000) (w : World) : Calls Tryz.prog 46 #[.int .i64 ((rd : Int) + 1)] w fun e w' => e = .returned (.int .i64 (tm : Nat)) ∧ Below w.heap.size w w' := by
  have := Ly.termF_in (i := rd + 1) (by omega) (by omega)
  rw [show ((rd + 1 : Nat) : Int) = (rd : Int) + 1 by omega] at this
  rw [← h, ← this]
  exact Ly.term_any _ w

def SS.F (s : SS) (fs : List Fa) : SS := { s with fs := fs }
def SS.N (s : SS) (ns : List Int) : SS := { s with ns := ns }
def SS.C (s : SS) (cls : List (List Int)) : SS := { s with cls := cls }
def SS.Pf (s : SS) (prf : List (List Int)) : SS := { s with prf := prf }
def SS.T (s : SS) (tr : List Bool) : SS := { s with tr := tr }
def SS.wt (s : SS) (x : Nat) : SS := { s with wg := x }
def SS.ct (s : SS) (x : Nat) : SS := { s with cf := x }

section
variable {c : SC} {w0 w w' : World} {g g' : G} {s s' : SS} {m m' : MV}

theorem Nx.trans {w1 : World} {g1 : G} {s1 : SS} {m1 : MV} (k : Kp w0 w m.ow w1 m1.ow) (n : Nx c w0 w1 m1 g' s' w') : Nx c w0 w m g' s' w' := by
  obtain ⟨m2, h2, k2⟩ := n; exact ⟨m2, h2, k.trans k2⟩
theorem Sm.nx (h : Sm c w0 g s m w) : Nx c w0 w m g s w := ⟨m, h, Kp.refl _ _ _⟩
theorem Sm.xbelow (h : Sm c w0 g s m w) (b : Below w.heap.size w w') : Nx c w0 w m g s w' := ⟨_, (h.below b).1, (h.below b).2⟩
theorem Sm.xputf (h : Sm c w0 g s m w) {b cap : Nat} (ev : m.fv = .slice (some ⟨b, 0, none⟩) s.fs.length cap) {i : Nat} (hi : i < s.fs.length) (x : Int) {f : Fa} (hf : s.fs[i]? = some f) : Nx c w0 w m g (s.F (s.fs.set i { f with a := x })) (w.setCell ⟨b, i * 3 + 2, none⟩ (.int .i64 x)) := ⟨_, (h.putf ev hi x hf).1, (h.putf ev hi x hf).2⟩
theorem Sm.xputt (h : Sm c w0 g s m w) (i : Nat) (b : Bool) : Nx c w0 w m g (s.T (s.tr.set i b)) (w.setCell ⟨m.tb, i, none⟩ (.bool b)) := ⟨_, (h.putt i b).1, (h.putt i b).2⟩
theorem Sm.xwg (h : Sm c w0 g s m w) (x : Nat) : Nx c w0 w m g (s.wt x) (w.setCell ⟨c.SB, 11, none⟩ (.int .i64 x)) := by
  obtain ⟨a, b⟩ := h.fld (i := 11) (v := .int .i64 x) (s' := s.wt x) rfl rfl rfl rfl rfl rfl rfl rfl rfl rfl rfl
  exact ⟨_, a, b⟩
theorem Sm.xcf (h : Sm c w0 g s m w) (x : Nat) : Nx c w0 w m g (s.ct x) (w.setCell ⟨c.SB, 12, none⟩ (.int .i64 x)) := by
  obtain ⟨a, b⟩ := h.fld (i := 12) (v := .int .i64 x) (s' := s.ct x) rfl rfl rfl rfl rfl rfl rfl rfl rfl rfl rfl
  exact ⟨_, a, b⟩
theorem Sm.xord {A' : List Int} {W' : List Bool} {v' : Value} (h : Sm c w0 g s m w) (o' : Od.Ord c.ko w' A' W' v') (f : Od.Fr c.ko m.ov v' w w') : Nx c w0 w m g (upO s A' W') w' := ⟨_, (h.ord o' f).1, (h.ord o' f).2⟩

theorem next_is (h : Sm c w0 g s m w) (hr : s.rd ≤ 1000000000) (hc : s.cf ≤ 1000000000) :
    Calls Tryz.prog 30 #[.pointer (some ⟨c.SB, 0, none⟩)] w fun e w' => e = .returned (.tuple #[]) ∧ Nx c w0 w m g (nextF s) w' := by
  obtain ⟨rd, hrd⟩ : ∃ rd, s.rd = rd := ⟨_, rfl⟩
  obtain ⟨cf, hcf⟩ : ∃ cf, s.cf = cf := ⟨_, rfl⟩
  obtain ⟨en, hen⟩ : ∃ en, s.en = en := ⟨_, rfl⟩
  rw [hrd] at hr
  rw [hcf] at hc
  have c13 := h.c13
  have f13 := h.frz 13
  rw [hrd] at c13
  obtain ⟨h1, k1⟩ := h.fld (i := 13) (v := .int .i64 ((rd : Int) + 1)) (s' := { s with rd := rd + 1 }) rfl rfl rfl rfl rfl rfl rfl rfl rfl rfl rfl
  obtain ⟨tm, htm⟩ : ∃ tm, Ly.luby (rd + 1) = tm := ⟨_, rfl⟩
  have htl : tm ≤ rd + 2 := by rw [← htm]; exact Ly.luby_le _
  have HE : Hid (∀ w2 : World, Below (w.setCell ⟨c.SB, 13, none⟩ (.int .i64 ((rd : Int) + 1))).heap.size (w.setCell ⟨c.SB, 13, none⟩ (.int .i64 ((rd : Int) + 1))) w2 → Nx c w0 w m g (nextF s) (w2.setCell ⟨c.SB, 14, none⟩ (.int .i64 ((cf : Int) + 64 * tm)))) := hid (fun w2 b => by
    obtain ⟨h2, k2⟩ := h1.below b
    obtain ⟨h3, k3⟩ := h2.fld (i := 14) (v := .int .i64 ((cf : Int) + 64 * tm)) (s' := nextF s) (by simp only [nextF, hrd, hcf, htm]; rfl) rfl rfl rfl rfl rfl rfl rfl rfl rfl rfl
    exact ⟨_, h3, (k1.trans k2).trans k3⟩)
  have d12 := h1.c12
  have d13 := h1.c13
  have f14 := h1.frz 14
  have d14 := h1.c14
  rw [show ({ s with rd := rd + 1 } : SS).cf = cf from hcf] at d12
  rw [show ({ s with rd := rd + 1 } : SS).en = en from hen] at d14
  rw [show ((({ s with rd := rd + 1 } : SS).rd : Nat) : Int) = (rd : Int) + 1 from by show ((rd + 1 : Nat) : Int) = _; omega] at d13
  have HT := hid htm
  clear h1 k1 h htm
  go_enter Tryz.func30, Tryz.ntmps30
  go_upto_region 1 with fail
  generalize hw1 : w.setCell ⟨c.SB, 13, none⟩ (.int .i64 ((rd : Int) + 1)) = w1 at *
  have D12 : Hid (w1.drew.cell? ⟨c.SB, 12, none⟩ = some (.int .i64 cf)) := hid d12
  have D14 : Hid (w1.drew.cell? ⟨c.SB, 14, none⟩ = some (.int .i64 en)) := hid d14
  have F14 : Hid (w1.drew.frozen? ⟨c.SB, 14, none⟩ = false) := hid f14
  have BD := hid (below_drew w1)
  have HW : Hid (IntKind.i64.wrap ((cf : Int) + IntKind.i64.wrap (64 * (tm : Int))) = (cf : Int) + 64 * tm) := hid (by rw [IntKind.wrap_i64, IntKind.wrap_i64]; omega)
  go_region_with (first
    | (go_at_call 46; with_reducible (refine (term_at rd tm HT.out hr _).mono ?_); rintro e w5 ⟨rfl, b5⟩; have q12 := bl_cell b5 D12.out; have q14 := bl_cell b5 D14.out; have r14 := bl_frz b5 D14.out F14.out))
  all_goals go_end0
  all_goals exact ⟨rfl, by rw [HW.out]; exact HE.out w5 (Below.next BD.out b5)⟩

/-! ### What is known of a clause that was learned -/
def saddF (c : SC) (s : SS) (f : Fa) : SS := { s with ns := s.ns ++ [((c.fst + s.fs.length : Nat) : Int)], fs := s.fs ++ [f] }

theorem facc_row (fs : List Fa) (f : Fa) : facc (fs ++ [f]) = facc fs ++ [.int .i64 f.s, .int .i64 f.g, .int .i64 f.a] := by rw [facc_app]; rfl

theorem Tryz.info105 : (Tryz.prog.info? 105).map (fun i => (i.zero, i.size, i.bytes)) = some (some (.agg #[.int .i64 0, .int .i64 0, .int .i64 0]), 3, 24) := by kernel_rfl

/-- One element more behind a list, whatever was laid since. -/
theorem run_app {w w1 : World} (t ty T : TypeId) (i0 : TypeInfo) (z : Value) (sz by_ : Nat) (ht : Tryz.prog.underlying t = some (.slice T)) (hi : Tryz.prog.info? T = some i0) (hz : i0.zero = some z) (hs : i0.size = sz) (hby : i0.bytes = by_) (hzs : z.cells.size = sz) (hsz : 0 < sz) (hb8 : by_ ≤ 24)
    (b : Below w1.heap.size w1 w) (B : Nat) (v : Value) (n : Nat) (xs news : List Value) (own : w1.ownsRow B T sz v n xs) (q : Nat) (hl : news.length = sz) (hn : ∀ j u, news[j]? = some u → w.cell? ⟨q, j, none⟩ = some u) (h1 : ∀ u ∈ news, u.oneCell' = true) (hbd : n ≤ 1000000000) (hB : B ≤ w1.heap.size) :
    ∃ v' w', (Builtin.append_ #[t, t] ty #[v, .slice (some ⟨q, 0, none⟩) 1 1]).run Tryz.prog w = .ok v' w' ∧ w'.ownsRow B T sz v' (n + 1) (xs ++ news) ∧ w1.grownBy w' v.ownBlock ∧ Nw w1 v v' := by
  have own1 : w.ownsRow B T sz v n xs := own_same own (fun j e => b.block j (own_lt own e).2)
  have hmul : (n + 1) * by_ ≤ (1000000000 + 1) * 24 := Nat.mul_le_mul (by omega) hb8
  obtain ⟨v', w', a1, a2, a3, a4, a5⟩ := run_append_own_at (P := Tryz.prog) w B t ty T i0 z sz by_ ht hi hz hs hby hzs hsz v n xs own1 ⟨q, 0, none⟩ 1 1 news (by omega) (fun j u hj => by rw [add_at, Nat.zero_add]; exact hn j u hj) h1 (by unfold maxLen; omega) (by omega) (Nat.le_trans hB b.size)
  refine ⟨v', w', a1, a2, ?_, fun j hj => ?_⟩
  · exact ⟨a3.os.trans b.os, a3.tape.trans b.tape, a3.output.trans b.output, Nat.le_trans b.size a3.size, fun k hk hne => (a3.block k (Nat.lt_of_lt_of_le hk b.size) hne).trans (b.block k hk)⟩
  · rcases a5 with e | e
    · rw [e] at hj; exact .inl hj
    · rw [e] at hj; cases hj; exact .inr b.size

theorem step_of {w w' : World} {ops : Array Oper} {o : Oper} {a : Act} {Kc : Act → World → Prop} {Q : Exit → Act → World → Prop} {G0 : Prop} {t : TypeId} {u v v' : Value} (hgd : o.guard = none) (s x : Operand) (ho : o.op = .call { callee := .builtin .append, args := #[s, x], argTypes := #[t, t] }) (hs : a.eval s = v) (hx : a.eval x = u)
    (hr : (Builtin.append_ #[t, t] o.type #[v, u]).run Tryz.prog w = .ok v' w') (h : Kc (a.put o.dst v') w') : if Region.wanted o (yielded ops a.tmps) = true then Oper.wp Tryz.prog o a w Kc Q else G0 := by
  have hwd : Region.wanted o (yielded ops a.tmps) = true := by simp [Region.wanted, hgd]
  rw [if_pos hwd]
  unfold Oper.wp
  simp [execOp, ho, resolve, invoke, builtin, hs, hx, hr, Result.andThen]
  exact h

theorem list_of {w w' : World} {ops : Array Oper} {rest : List Oper} {o : Oper} {a : Act} {Q : Exit → Act → World → Prop} {t : TypeId} {u v v' : Value} (hgd : o.guard = none) (s x : Operand)
    (ho : o.op = .call { callee := .builtin .append, args := #[s, x], argTypes := #[t, t] }) (hs : a.eval s = v) (hx : a.eval x = u)
    (hr : (Builtin.append_ #[t, t] o.type #[v, u]).run Tryz.prog w = .ok v' w') (h : wpList Tryz.prog ops Q rest (a.put o.dst v') w') : wpList Tryz.prog ops Q (o :: rest) a w := by
  refine wpList_plain hgd fun K hK => ?_
  unfold Oper.wp execOp
  simp only [ho, resolve, invoke, builtin, Sem.run_bind, Sem.run_pure, Result.andThen_ok, List.map_toArray, List.map_cons, List.map_nil, hs, hx, hr]
  exact hK _ _ h

/-- A fact more. -/
theorem run_fact {w w1 : World} (ty : TypeId) (f : Fa) (b : Below w1.heap.size w1 w) (B : Nat) (v : Value) (fs : List Fa) (own : w1.ownsRow B 105 3 v fs.length (facc fs)) (q : Nat) (h0 : w.cell? ⟨q, 0, none⟩ = some (.int .i64 f.s)) (h1 : w.cell? ⟨q, 1, none⟩ = some (.int .i64 f.g)) (h2 : w.cell? ⟨q, 2, none⟩ = some (.int .i64 f.a)) (hbd : fs.length ≤ 1000000) (hB : B ≤ w1.heap.size) :
    ∃ v' w', (Builtin.append_ #[57, 57] ty #[v, .slice (some ⟨q, 0, none⟩) 1 1]).run Tryz.prog w = .ok v' w' ∧ w'.ownsRow B 105 3 v' (fs.length + 1) (facc (fs ++ [f])) ∧ w1.grownBy w' v.ownBlock ∧ Nw w1 v v' := by
  obtain ⟨i0, hi, hz0, hz1, hz2⟩ := info_parts Tryz.info105
  rw [facc_row]
  refine run_app 57 ty 105 i0 _ 3 24 Tryz.underlying57 hi hz0 hz1 hz2 rfl (by decide) (by decide) b B v fs.length (facc fs) [.int .i64 f.s, .int .i64 f.g, .int .i64 f.a] own q rfl (fun j u hj => ?_) (fun u hu => ?_) (by omega) hB
  · have hl := (List.getElem?_eq_some_iff.1 hj).1
    simp at hl
    match j, hj with
    | 0, hj => simp at hj; subst hj; exact h0
    | 1, hj => simp at hj; subst hj; exact h1
    | 2, hj => simp at hj; subst hj; exact h2
    | j + 3, hj => simp at hj
  · simp at hu
    rcases hu with rfl | rfl | rfl <;> rfl

/-- A number more. -/
theorem run_num {w w1 : World} (ty : TypeId) (x : Int) (b : Below w1.heap.size w1 w) (B : Nat) (v : Value) (xs : List Int) (own : OwnL w1 B v xs) (q : Nat) (h0 : w.cell? ⟨q, 0, none⟩ = some (.int .i64 x)) (hbd : xs.length ≤ 1000000) (hB : B ≤ w1.heap.size) :
    ∃ v' w', (Builtin.append_ #[42, 42] ty #[v, .slice (some ⟨q, 0, none⟩) 1 1]).run Tryz.prog w = .ok v' w' ∧ OwnL w' B v' (xs ++ [x]) ∧ w1.grownBy w' v.ownBlock ∧ Nw w1 v v' := by
  obtain ⟨i0, hi, hz0, hz1, hz2⟩ := info_parts Tryz.info3
  obtain ⟨v', w', a1, a2, a3, a4⟩ := run_app 42 ty 3 i0 _ 1 8 Tryz.underlying42 hi hz0 hz1 hz2 rfl (by decide) (by decide) b B v xs.length (xs.map (Value.int .i64)) [.int .i64 x] own q rfl (fun j u hj => by
    have hl := (List.getElem?_eq_some_iff.1 hj).1
    simp at hl; subst hl; simp at hj; subst hj; exact h0) (fun u hu => by simp at hu; subst hu; rfl) (by omega) hB
  exact ⟨v', w', a1, by simpa [OwnL] using a2, a3, a4⟩

/-- A clause more. -/
theorem run_cls {w w1 : World} (ty : TypeId) (x : Value) (hx : x.oneCell' = true) (b : Below w1.heap.size w1 w) (B : Nat) (v : Value) (n : Nat) (vs : List Value) (own : w1.ownsRow B 42 1 v n vs) (q : Nat) (h0 : w.cell? ⟨q, 0, none⟩ = some x) (hbd : n ≤ 1000000) (hB : B ≤ w1.heap.size) :
    ∃ v' w', (Builtin.append_ #[22, 22] ty #[v, .slice (some ⟨q, 0, none⟩) 1 1]).run Tryz.prog w = .ok v' w' ∧ w'.ownsRow B 42 1 v' (n + 1) (vs ++ [x]) ∧ w1.grownBy w' v.ownBlock ∧ Nw w1 v v' := by
  obtain ⟨i0, hi, hz0, hz1, hz2⟩ := info_parts Tryz.infoG
  exact run_app 22 ty 42 i0 _ 1 24 Tryz.underlying22 hi hz0 hz1 hz2 rfl (by decide) (by decide) b B v n vs [x] own q rfl (fun j u hj => by
    have hl := (List.getElem?_eq_some_iff.1 hj).1
    simp at hl; subst hl; simp at hj; subst hj; exact h0) (fun u hu => by simp at hu; subst hu; exact hx) (by omega) hB

theorem own_pos {w : World} {B : Nat} {T : TypeId} {sz n : Nat} {v : Value} {xs : List Value} (h : w.ownsRow B T sz v (n + 1) xs) : ∃ b cap, v = .slice (some ⟨b, 0, none⟩) (n + 1) cap := by
  rcases h.2 with ⟨_, e⟩ | ⟨b, cap, cur, e, _⟩
  · omega
  · exact ⟨b, cap, e⟩

theorem own_posL {w : World} {B : Nat} {v : Value} {xs : List Int} {x : Int} (h : OwnL w B v (xs ++ [x])) : ∃ b cap, v = .slice (some ⟨b, 0, none⟩) (xs.length + 1) cap := by
  unfold OwnL at h
  rw [List.length_append] at h
  exact own_pos h

theorem one_new_cell (w : World) (x : Value) (T : TypeId) : (w.alloc (.cells #[x] T)).drew.cell? ⟨w.heap.size, 0, none⟩ = some x := cell_of (o := 0) (new_same w (.cells #[x] T))

end
end Go.Proofs.YtimfjoinjfecjaaGreat

namespace Go.Proofs.YtimfjoinjfecjaaGreat
open Go.RowKit Go.Maps
set_option linter.unusedVariables false

section
variable {c : SC} {w0 w w' : World} {g g' : G} {s s' : SS} {m m' : MV} {ow : Nat → Nat}

theorem GVt.app {vs us : List Value} {xss yss : List (List Int)} (h : GVt w0 w ow vs xss) (g : GVt w0 w ow us yss) : GVt w0 w ow (vs ++ us) (xss ++ yss) := by
  refine ⟨by simp [h.1, g.1], fun j hj => ?_⟩
  by_cases hjl : j < vs.length
  · obtain ⟨a, m, c, e1, e2, e3⟩ := h.2 j hjl
    refine ⟨a, m, c, by rw [List.getElem?_append_left hjl]; exact e1, ?_, e3⟩
    have : (xss ++ yss).getD j [] = xss.getD j [] := by
      simp only [List.getD_eq_getElem?_getD]; rw [List.getElem?_append_left (by rw [← h.1]; exact hjl)]
    rw [this]; exact e2
  · have hj2 : j - vs.length < us.length := by simp at hj; omega
    obtain ⟨a, m, c, e1, e2, e3⟩ := g.2 (j - vs.length) hj2
    refine ⟨a, m, c, by rw [List.getElem?_append_right (by omega)]; exact e1, ?_, e3⟩
    have : (xss ++ yss).getD j [] = yss.getD (j - vs.length) [] := by
      simp only [List.getD_eq_getElem?_getD]; rw [List.getElem?_append_right (by rw [← h.1]; omega), ← h.1]
    rw [this]; exact e2

theorem GVt.one {ao : Option Addr} {n cap : Nat} {xs : List Int} (h : GVt w0 w ow [.slice ao n cap] [xs]) : U.Row w ao n cap xs := by
  obtain ⟨a, k, p, e1, e2, _⟩ := h.2 0 (by simp)
  simp at e1
  obtain ⟨rfl, rfl, rfl⟩ := e1
  exact e2

/-- The trail and the watch behind Add. -/
theorem Sm.added {xs : List Int} {L : List E} (h : Sm c w0 g s m w) (W' : Wa c.k c.kw w' g' s.L s.lev m.p s.H) (d : AddD c.kw.n w.heap.size g g' xs) (f : FW c.kw.B w w') : Nx c w0 w m g' s w' := by
  have := h.wa (L' := s.L) (lev' := s.lev) (H' := s.H) W' (FT.fw f) (fun i hi hg j e h0 hj => ?_) (fun h0 j e hj => h.t.ft j (.inr (.inr (.inr ⟨h0, by rw [← d.hv]; exact e⟩))))
  · exact ⟨_, this.1, this.2⟩
  · obtain ⟨lv, e1, e2⟩ := d.lo
    rw [d.nx] at hi
    rw [d.gn] at hg
    rw [e1] at e
    rw [d.lt] at h0
    by_cases q : i = g.nx
    · subst q
      rw [up_same] at e h0
      have := e2 j e h0
      omega
    · rw [up_ne _ _ q] at e h0 hg
      exact h.t.ft j (.inr (.inr (.inl ⟨i, by omega, hg, e, h0⟩)))

set_option maxHeartbeats 2000000 in
theorem add_s (h : Sm c w0 g s m w) {ao : Option Addr} {n cap : Nat} {xs : List Int} (row : GVt w0 w m.ow [.slice ao n cap] [xs]) (hn : n ≤ 1000) (hx : ∀ x ∈ xs, 0 ≤ x ∧ x < 2 * (c.kw.n : Int)) (hnx : g.nx ≤ 1000000) (hpl : (g.P (3 * c.kw.n)).length ≤ 1000000000000) (hcl : s.cls.length ≤ 1000000) :
    Calls Tryz.prog 28 #[.pointer (some ⟨c.SB, 0, none⟩), .slice ao n cap] w fun e w' => ∃ g', e = .returned (.tuple #[]) ∧ Hid (Nx c w0 w m g' (s.C (s.cls ++ [xs])) w') ∧ Hid (AddD c.kw.n w.heap.size g g' xs) := by
  obtain ⟨md, hd, kd⟩ := h.xbelow (below_drew w)
  have c0 := h.c0
  have c1 := h.c1
  have HD := hid hd
  have KD := hid kd
  have HX := hid hx
  have GD := hid (kd.gv _ _ row)
  have e0 : (w.drew).heap.size = w.heap.size := rfl
  clear hd kd hx h row
  go_enter Tryz.func28, Tryz.ntmps28
  go_upto_region 0 with fail
  go_region_with (first
    | (go_at_call 42; with_reducible (refine (add_is HD.out.W ⟨c.k.OB, 0, none⟩ GD.out.one hn HX.out hnx hpl).mono ?_); rintro e w5 ⟨g5, rfl, W5, D5, F5⟩))
  all_goals
    obtain ⟨m5, h5, k5⟩ := HD.out.added (L := s.L) W5.out D5.out F5.out
    obtain ⟨vs, q1, q2, q3⟩ := h5.cl
    have G5 := hid (k5.gv _ _ GD.out)
    have x3 := h5.c3
    obtain ⟨ca, cp, ecv⟩ : ∃ ca cp, m5.cv = .slice ca s.cls.length cp := by
      rcases q1.2 with ⟨e, e2⟩ | ⟨b, cap, cur, e, _⟩
      · exact ⟨none, 0, by rw [e, e2]⟩
      · exact ⟨_, cap, e⟩
    obtain ⟨v7, w7, r7, o7, g7, n7⟩ := run_cls (w1 := w5) (w := w5.alloc (.cells #[.slice ao n cap] 42)) 0 (.slice ao n cap) rfl (by go_grown) w0.heap.size m5.cv s.cls.length vs q1 w5.heap.size (cell_of (o := 0) (new_same w5 _)) hcl h5.b0.size
    obtain ⟨b7, p7, rfl⟩ := own_pos o7
    obtain ⟨q7, h8, k8⟩ := h5.addc (xs := xs) q1 (q3.1.app G5.out) q2 o7 g7 n7
    have y3 : w7.cell? ⟨c.SB, 3, none⟩ = some m5.cv := by rw [cell_of q7]; rfl
    have u3 : w7.frozen? ⟨c.SB, 3, none⟩ = false := frozen_of q7
    rw [ecv] at x3 y3
    have R7 : Hid (∀ ty, (Builtin.append_ #[22, 22] ty #[.slice ca s.cls.length cp, .slice (some ⟨w5.heap.size, 0, none⟩) 1 1]).run Tryz.prog (w5.alloc (.cells #[.slice ao n cap] 42)) = .ok (.slice (some ⟨b7, 0, none⟩) (s.cls.length + 1) p7) w7) := hid (fun ty => by rw [← ecv]; exact r7)
    have HE : Hid (Nx c w0 w m g5 (s.C (s.cls ++ [xs])) (w7.setCell ⟨c.SB, 3, none⟩ (.slice (some ⟨b7, 0, none⟩) (s.cls.length + 1) p7))) := hid ⟨_, h8, (KD.out.trans k5).trans k8⟩
    have lt5 := h5.sb_lt
    clear h8 k8 q7 o7 g7 n7 r7 q1 q2 q3 h5 k5 W5 F5 G5
    go_wp2_with (at_builtin; refine list_of (t := 22) (v := .slice ca s.cls.length cp) (u := .slice (some ⟨w5.heap.size, 0, none⟩) 1 1) rfl _ _ rfl rfl rfl (R7.out _) ?_)
    go_end0
    exact ⟨g5, rfl, HE, D5⟩
end
end Go.Proofs.YtimfjoinjfecjaaGreat

namespace Go.Proofs.YtimfjoinjfecjaaGreat
open Go.RowKit Go.Maps
set_option linter.unusedVariables false

def bumpsF (A : List Int) (d : Int) (xs : List Int) : List Int := xs.foldl (fun A v => Od.bumpF A v d) A
theorem bumps_next {A : List Int} {d : Int} {xs : List Int} {q : Nat} {y : Int} (h : xs[q]? = some y) : bumpsF A d (xs.take (q + 1)) = Od.bumpF (bumpsF A d (xs.take q)) y d := by
  rw [List.take_add_one, h]
  simp [bumpsF, List.foldl_append]

def hlvF : Nat → List Int → Nat → List Int × Nat
  | 0, A, x => (A, x)
  | f + 1, A, x => if 262144 ≤ x then hlvF f (Od.halveF A) (x / 2) else (A, x)

def weighF (s : SS) (met : List Int) : SS :=
  if s.wg + s.wg / 32 ≤ 17179869184 then (upO s (bumpsF s.A s.wg met) s.W).wt (s.wg + s.wg / 32)
  else (upO s (hlvF (s.wg + s.wg / 32) (bumpsF s.A s.wg met) (s.wg + s.wg / 32)).1 s.W).wt (hlvF (s.wg + s.wg / 32) (bumpsF s.A s.wg met) (s.wg + s.wg / 32)).2

theorem weigh_a {s : SS} {met : List Int} {x : Nat} (hx : s.wg + s.wg / 32 = x) (h : x ≤ 17179869184) : weighF s met = (upO s (bumpsF s.A s.wg met) s.W).wt x := by unfold weighF; rw [hx, if_pos h]
theorem weigh_b {s : SS} {met : List Int} {x f y : Nat} {A : List Int} (hx : s.wg + s.wg / 32 = x) (h : ¬ x ≤ 17179869184) (hh : hlvF f A y = hlvF x (bumpsF s.A s.wg met) x) (hy : ¬ 262144 ≤ y) : weighF s met = (upO s A s.W).wt y := by
  have e : hlvF f A y = (A, y) := by
    cases f with
    | zero => rfl
    | succ f => unfold hlvF; rw [if_neg hy]
  unfold weighF
  rw [hx, if_neg h, ← hh, e]

section
variable {c : SC} {w0 w w' : World} {g g' : G} {s s' : SS} {m m' : MV}

/-- A field, as a number. -/
def numOf (c : SC) (i : Nat) (w : World) : Nat := match w.cell? ⟨c.SB, i, none⟩ with
  | some (.int _ x) => x.toNat
  | _ => 0
theorem num_wg (h : Sm c w0 g s m w) : numOf c 11 w = s.wg := by unfold numOf; rw [h.c11]; simp

theorem Nx.out (h : Nx c w0 w m g' s' w') : ∃ m', Hid (Sm c w0 g' s' m' w') ∧ Hid (Kp w0 w m.ow w' m'.ow) := h

theorem sbump (h : Sm c w0 g s m w) (v d : Int) : Calls Tryz.prog 86 #[.pointer (some ⟨c.ko.OB, 0, none⟩), .int .i64 v, .int .i64 d] w fun e w' => ∃ b, e = .returned (.bool b) ∧ Hid (Nx c w0 w m g (upO s (Od.bumpF s.A v d) s.W) w') := by
  refine (Od.bump_any h.o v d).mono fun e w' q => ?_
  obtain ⟨rfl, q1, q2⟩ := q
  exact ⟨_, rfl, h.xord q1 q2⟩
theorem shalve (h : Sm c w0 g s m w) : Calls Tryz.prog 87 #[.pointer (some ⟨c.ko.OB, 0, none⟩)] w fun e w' => e = .returned (.tuple #[]) ∧ Hid (Nx c w0 w m g (upO s (Od.halveF s.A) s.W) w') := by
  refine (Od.halve_any h.o).mono fun e w' q => ?_
  obtain ⟨rfl, q1, q2⟩ := q
  exact ⟨rfl, h.xord q1 q2⟩
theorem spush (h : Sm c w0 g s m w) (v : Int) : Calls Tryz.prog 29 #[.pointer (some ⟨c.ko.OB, 0, none⟩), .int .i64 v] w fun e w' => ∃ b, e = .returned (.bool b) ∧ Hid (Nx c w0 w m g (upO s s.A (Od.pushW c.kw.n s.W v)) w') := by
  refine (Od.push_any h.o v).mono fun e w' q => ?_
  obtain ⟨rfl, v', q1, q2⟩ := q
  rw [h.hn] at q1
  exact ⟨_, rfl, h.xord q1 q2⟩
theorem spop (h : Sm c w0 g s m w) : Calls Tryz.prog 60 #[.pointer (some ⟨c.ko.OB, 0, none⟩)] w fun e w' => e = .returned (.tuple #[.int .i64 (Od.popV s.A s.W), .bool (Od.popA s.A s.W)]) ∧ Hid (Nx c w0 w m g (upO s s.A (Od.popW s.A s.W)) w') := by
  refine (Od.pop_any h.o).mono fun e w' q => ?_
  obtain ⟨rfl, v', q1, q2⟩ := q
  exact ⟨rfl, h.xord q1 q2⟩

set_option maxHeartbeats 4000000 in
theorem weigh_is (h : Sm c w0 g s m w) {ao : Option Addr} {n cap : Nat} {xs : List Int} (row : GVt w0 w m.ow [.slice ao n cap] [xs]) (hw : s.wg ≤ 20000000000) :
    Calls Tryz.prog 52 #[.pointer (some ⟨c.SB, 0, none⟩), .slice ao n cap] w fun e w' => e = .returned (.tuple #[]) ∧ Nx c w0 w m g (weighF s xs) w' := by
  obtain ⟨wg, hwg⟩ : ∃ wg, s.wg = wg := ⟨_, rfl⟩
  obtain ⟨u, hu⟩ : ∃ u, wg / 32 = u := ⟨_, rfl⟩
  rw [hwg] at hw
  have HWG := hid hwg
  have hmx : (n : Int) ≤ 9223372036854775807 := by have := row.one.max; omega
  have H := hid h
  have R := hid row
  clear h row
  go_enter Tryz.func52, Tryz.ntmps52
  go_wp2
  go_loopw [8] (fun i wr => ∃ (q : Nat) (m1 : MV), q ≤ n ∧ i = .int .i64 q ∧ Hid (Sm c w0 g (upO s (bumpsF s.A wg (xs.take q)) s.W) m1 wr) ∧ Hid (Kp w0 w m.ow wr m1.ow)) (fun i _ => n - (intOf i).toNat)
  case atStart => exact ⟨0, m, Nat.zero_le _, rfl, H, hid (Kp.refl _ _ _)⟩
  case round =>
    clear H
    obtain ⟨q, m1, hq, rfl, h1, k1⟩ := hrel
    have c2 := h1.out.c2
    have c11 := h1.out.c11
    have f11 := h1.out.frz 11
    rw [show (upO s (bumpsF s.A wg (xs.take q)) s.W).wg = wg from hwg] at c11
    by_cases hlt : q < n
    · have hlt' : (q : Int) < n := by omega
      obtain ⟨b, off, y, rfl, hc, hy, y0, y1⟩ := (k1.out.gv _ _ R.out).one.at hlt
      have HU : Hid (bumpsF s.A wg (xs.take (q + 1)) = Od.bumpF (bumpsF s.A wg (xs.take q)) y wg) := hid (bumps_next hy.out)
      obtain ⟨m2, h2, k2⟩ := h1.out.xbelow (below_drew wr)
      have H2 := hid h2
      have K2 := hid (k1.out.trans k2)
      clear h2 k2 h1 k1
      go_wp2
      go_region_with (first
        | (go_at_call 86; with_reducible (refine (sbump H2.out y wg).mono ?_); rintro e w5 ⟨bb, rfl, n5⟩; have n6 := Nx.out n5.out; obtain ⟨m5, h5, k5⟩ := n6))
      all_goals go_wp2
      all_goals go_roundw
      all_goals first
        | exact ⟨q + 1, m5, by omega, by go_num, hid (by rw [HU.out]; exact h5.out), hid (K2.out.trans k5.out)⟩
        | (simp only [intOf]; omega)
    · have HT : Hid (xs.take q = xs) := hid (List.take_of_length_le (by have := R.out.one.1; omega))
      have H1 : Hid (Sm c w0 g (upO s (bumpsF s.A wg xs) s.W) m1 wr) := hid (by have := h1.out; rw [HT.out] at this; exact this)
      clear h1 HT
      obtain ⟨x, hx⟩ : ∃ x, wg + u = x := ⟨_, rfl⟩
      have hxI : (wg : Int) + u = x := by omega
      have HX : Hid (s.wg + s.wg / 32 = x) := hid (by rw [hwg, hu]; exact hx)
      have huI : (wg : Int) / 32 = u := by omega
      obtain ⟨m2, h2, k2⟩ := H1.out.xwg x
      obtain ⟨m3, h3, k3⟩ := h2.xbelow (below_drew _)
      have H3 := hid h3
      have K3 := hid ((k1.out.trans k2).trans k3)
      have hxw : IntKind.i64.wrap ((wg : Int) + (wg : Int) / 32) = x := by rw [IntKind.wrap_i64]; omega
      clear h2 k2 h3 k3 H1 k1
      go_upto_region 5 with fail
      go_region
      generalize hw3 : (wr.setCell ⟨c.SB, 11, none⟩ (.int .i64 (x : Int))).drew = w3 at *
      clear hw3 c2 c11 f11
      have d11 := H3.out.c11
      rw [show ((upO s (bumpsF s.A wg xs) s.W).wt x).wg = x from rfl] at d11
      by_cases hsm : x ≤ 17179869184
      · have hsm' : (x : Int) ≤ 17179869184 := by omega
        have HE : Hid (Nx c w0 w m g (weighF s xs) w3) := hid (by rw [weigh_a HX.out hsm, hwg]; exact ⟨m3, H3.out, K3.out⟩)
        clear H3 K3
        go_wp2
        refine bodyPost_ret (results_none rfl _ _ _) rfl ?_
        exact ⟨rfl, HE.out⟩
      · have hsm' : ¬ (x : Int) ≤ 17179869184 := by omega
        go_wp2
        go_loopw [] (fun wl => ∃ (f y : Nat) (A : List Int) (m4 : MV), y ≤ f ∧ y ≤ x ∧ Hid (hlvF f A y = hlvF x (bumpsF s.A wg xs) x) ∧ Hid (Sm c w0 g ((upO s A s.W).wt y) m4 wl) ∧ Hid (Kp w0 w m.ow wl m4.ow)) (fun wl => numOf c 11 wl)
        case atStart => exact ⟨x, x, _, m3, Nat.le_refl _, Nat.le_refl _, hid rfl, H3, K3⟩
        case round =>
          clear H3 K3 d11
          obtain ⟨f, y, A, m4, hyf, hyx, hh, h4, k4⟩ := hrel
          have z2 := h4.out.c2
          have z11 := h4.out.c11
          rw [show ((upO s A s.W).wt y).wg = y from rfl] at z11
          have NM := hid (num_wg h4.out)
          by_cases hy : 262144 ≤ y
          · have hy' : (262144 : Int) ≤ y := by omega
            obtain ⟨v, hv⟩ : ∃ v, y / 2 = v := ⟨_, rfl⟩
            have hvI : (y : Int) / 2 = v := by omega
            have hvl : v < y := by omega
            obtain ⟨f', rfl⟩ : ∃ f', f = f' + 1 := ⟨f - 1, by omega⟩
            have HH : Hid (hlvF f' (Od.halveF A) v = hlvF x (bumpsF s.A wg xs) x) := hid (by
              have := hh.out
              unfold hlvF at this
              rw [if_pos hy, hv] at this
              rw [this]
              conv => rhs; unfold hlvF)
            clear hh
            go_wp2_with (first
              | (go_at_call 87; with_reducible (refine (shalve h4.out).mono ?_); rintro e w5 ⟨rfl, n5⟩; have n6 := Nx.out n5.out; obtain ⟨m5, h5, k5⟩ := n6; have a11 := h5.out.c11; rw [show (upO ((upO s A s.W).wt y) (Od.halveF ((upO s A s.W).wt y).A) ((upO s A s.W).wt y).W).wg = y from rfl] at a11; have b11 := h5.out.frz 11))
            obtain ⟨m6, h6, k6⟩ := h5.out.xwg v
            have e6 := num_wg h6
            refine ⟨⟨f', v, Od.halveF A, m6, by omega, by omega, HH, hid h6, hid ((k4.out.trans k5.out).trans k6)⟩, ?_⟩
            rw [e6, NM.out]
            exact hvl
          · have hy' : ¬ (262144 : Int) ≤ y := by omega
            have HE : Hid (Nx c w0 w m g (weighF s xs) wr) := hid (by rw [weigh_b HX.out hsm (by rw [hwg]; exact hh.out) hy]; exact ⟨m4, h4.out, k4.out⟩)
            clear h4 k4 hh
            go_wp2
            go_end0
            exact ⟨rfl, HE.out⟩
end
end Go.Proofs.YtimfjoinjfecjaaGreat

namespace Go.Proofs.YtimfjoinjfecjaaGreat
open Go.RowKit Go.Shelf
set_option linter.unusedVariables false

attribute [local go_sem] Oper.semAt_some

/-- The last literals first, till one of a level that stays. -/
def keepTF (L : List E) (level : Int) : List Nat → List Bool → List Bool
  | [], tr => tr
  | x :: r, tr => if levelF L ((x / 2 : Nat) : Int) ≤ level then tr else keepTF L level r (tr.set (x / 2) (!decide (x % 2 = 1)))

def ktF (s : SS) (level : Int) : SS := s.T (keepTF s.L level (s.L.reverse.map E.l) s.tr)

section
variable {c : SC} {w0 w w' : World} {g g' : G} {s s' : SS} {m m' : MV} {W W' : World} {tr tr' : List Bool} {level : Int}

/-- What stands while truths are kept. -/
structure Kt (c : SC) (m : MV) (w : World) (level : Int) (tr : List Bool) (W : World) : Prop where
  os : W.os = w.os
  tape : W.tape = w.tape
  output : W.output = w.output
  blk : ∀ j, j < w.heap.size → j ≠ m.tb → W.heap[j]? = w.heap[j]?
  tb : W.heap[m.tb]? = some (.cells (tr.map Value.bool).toArray 4 (0, 0))
  len : tr.length = c.kw.n
  b0 : Boxed W w.heap.size 44 (.pointer (some ⟨c.SB, 0, none⟩))
  b1 : Boxed W (w.heap.size + 1) 3 (.int .i64 level)
  sz : w.heap.size + 3 ≤ W.heap.size

theorem Kt.own {row : Option Nat} (d : Kt c m w level tr W) (g : W.grownBy W' row) (hr : ∀ r, row = some r → w.heap.size + 3 ≤ r) (htb : m.tb < w.heap.size) : Kt c m w level tr W' := by
  have hsz := d.sz
  have hbox : ∀ j, j < w.heap.size + 3 → W'.heap[j]? = W.heap[j]? := fun j hj => g.block j (by omega) (fun e => by have := hr j e.symm; omega)
  exact ⟨g.os.trans d.os, g.tape.trans d.tape, g.output.trans d.output, fun j hj hne => (hbox j (by omega)).trans (d.blk j hj hne), (hbox _ (by omega)).trans d.tb, d.len, box_as d.b0 (hbox _ (by omega)), box_as d.b1 (hbox _ (by omega)), Nat.le_trans hsz g.size⟩

theorem Kt.below (d : Kt c m w level tr W) (b : Below W.heap.size W W') (htb : m.tb < w.heap.size) : Kt c m w level tr W' := d.own (grown_below b) (fun r e => by cases e) htb

theorem Kt.put (d : Kt c m w level tr W) (htb : m.tb < w.heap.size) (i : Nat) (b : Bool) : Kt c m w level (tr.set i b) (W.setCell ⟨m.tb, i, none⟩ (.bool b)) := by
  have hsz := d.sz
  have ho : ∀ j, j ≠ m.tb → (W.setCell ⟨m.tb, i, none⟩ (.bool b)).heap[j]? = W.heap[j]? := fun j hj => set_other _ hj
  exact ⟨d.os, d.tape, d.output, fun j hj hne => (ho j hne).trans (d.blk j hj hne), by rw [set_same d.tb]; simp [List.map_set], by simpa using d.len, box_as d.b0 (ho _ (by omega)), box_as d.b1 (ho _ (by omega)), by simpa [World.setCell] using d.sz⟩

theorem Sm.tb_lt (h : Sm c w0 g s m w) : m.tb < w.heap.size := blk_lt h.tr.1

/-- The truths are others now. -/
theorem Sm.truths (h : Sm c w0 g s m w) (os : W.os = w.os) (tape : W.tape = w.tape) (output : W.output = w.output) (size : w.heap.size ≤ W.heap.size) (blk : ∀ j, j < w.heap.size → j ≠ m.tb → W.heap[j]? = w.heap[j]?) (tb : W.heap[m.tb]? = some (.cells (tr.map Value.bool).toArray 4 (0, 0))) (len : tr.length = c.kw.n) : Nx c w0 w m g (s.T tr) W := by
  have ch : Cg m.ow 7 7 w W := ⟨os, tape, output, size, fun j hj hn _ => blk j hj (fun e => by subst e; exact hn h.t.tb)⟩
  have R := h.rest ch (h.old ch (by decide) (by decide)) (by decide) (by decide) (fun j => decide (j = m.tb))
  refine ⟨{ m with ow := owT m.ow 7 w.heap.size (fun j => decide (j = m.tb)) }, ⟨R.W (by decide) (by decide), R.o (by decide) (by decide), R.sb (by decide) (by decide), R.cl (by decide) (by decide), R.pr (by decide) (by decide), R.fa (by decide) (by decide), R.nu (by decide) (by decide), ⟨tb, len⟩, R.b0, h.hB, h.hn, R.lo, R.ft (by decide), R.od (by decide), R.tsb (by decide), owT_mine (Q := fun j => decide (j = m.tb)) (.inl h.t.tb) (decide_eq_true rfl), fun j hj h1 => ?_, R.u6 (by decide), fun j hj => ?_⟩, kpT R.gv ch.size R.zz⟩
  · by_cases e : owT m.ow 7 w.heap.size (fun j => decide (j = m.tb)) j = 7
    · rcases owT_cases m.ow 7 w.heap.size (fun j => decide (j = m.tb)) j with q | ⟨_, q⟩ | ⟨q1, q2, q3⟩
      · exact absurd q h1
      · have : j = m.tb := by simpa using q
        subst this
        exact ⟨4, ⟨_, _, tb⟩, by simp [Wt]⟩
      · rw [q1] at e; exact absurd e q3
    · exact R.ty j hj h1 e e
  · change owT m.ow 7 w.heap.size (fun j => decide (j = m.tb)) j = 7 at hj
    rcases owT_cases m.ow 7 w.heap.size (fun j => decide (j = m.tb)) j with q | ⟨_, q⟩ | ⟨q1, q2, q3⟩
    · omega
    · simpa using q
    · omega

theorem Kt.nx (h : Sm c w0 g s m w) (d : Kt c m w level tr W) : Nx c w0 w m g (s.T tr) W :=
  h.truths d.os d.tape d.output (by have := d.sz; omega) d.blk d.tb d.len

theorem Kt.trl (h : Sm c w0 g s m w) (d : Kt c m w level tr W) : Trl c.k W s.L s.lev m.p := by
  obtain ⟨F, S, r, q, e⟩ := h.W.j.t
  exact ⟨F, S, r.same (fun j hj => d.blk j (r.mine_lt hj).2 (fun q => by subst q; have := h.t.ft _ (.inl hj); rw [h.t.tb] at this; omega)), q, e⟩

theorem Kt.sb (h : Sm c w0 g s m w) (d : Kt c m w level tr W) : W.heap[c.SB]? = some (.cells (sbc c s m) 61 (0, 0)) := by
  rw [d.blk _ h.sb_lt (fun q => by have h1 := h.t.sb; rw [q, h.t.tb] at h1; omega)]; exact h.sb

/-! ### Over an empty list -/
set_option maxRecDepth 100000 in
theorem backward1_nil (N : Nat) (hN : 1 ≤ N) (l Bs cap n : Nat) (ao : Option Addr) (J Jx : List (Al n) → World → Prop) (W : World) (hBs : W.cell? ⟨Bs, 0, none⟩ = some (.slice ao 0 cap)) (h0 : J [] W) :
    CallsIn Fence.wide N Tryz.prog 134 #[.func (.yield l) #[] #[], .pointer (some ⟨Bs, 0, none⟩)] W fun e W' => (∃ v, e = .returned v) ∧
      ((∃ ys, ys = [] ∧ J ys W') ∨ (∃ pre, pre <+: ([] : List (Al n)) ∧ Jx pre W')) := by
  refine callsIn_of_wp Tryz.func134 rfl trivial ?_ rfl
  simp only [Tryz.ntmps134, List.size_toArray, List.length_cons, List.length_nil, Nat.reduceAdd, Nat.reduceSub, Array.replicate_succ, Array.replicate_zero, List.push_toArray, List.append_toArray, List.nil_append, List.cons_append]
  gi_wp2
  gi_loopw [3] (fun i wr => i = .int .i64 (-1) ∧ J [] wr) (fun i _ => 0)
  case atStart => exact ⟨rfl, h0⟩
  case round =>
    obtain ⟨rfl, hJs⟩ := hrel
    gi_wp2
    go_end0
    exact ⟨⟨_, rfl⟩, .inl ⟨_, rfl, hJs⟩⟩

theorem backward_nil (N : Nat) (hN : 1 ≤ N) (Bs b cap n : Nat) (ao : Option Addr) (w : World) (hBl : Bs < w.heap.size) (hBs : w.cell? ⟨Bs, 0, none⟩ = some (.slice ao 0 cap)) :
    SeqStopsK Fence.wide N Tryz.prog 134 #[.pointer (some ⟨Bs, 0, none⟩)] (fun x : Al n => #[Value.int .i64 (x.1.1 : Int), Value.int .i64 (x.1.2 : Int)]) (Keep2 Bs b) (fun ys => ys = []) (fun pre => pre <+: []) 0 w := fun l J Jx W hW _ _ hY h0 =>
  backward1_nil N hN l Bs cap n ao J Jx W ((hW.cell (p := ⟨Bs, 0, none⟩) hBl).trans hBs) h0
end
end Go.Proofs.YtimfjoinjfecjaaGreat
