/-
  A watch beside its trail; the calls that only look: has, place, beside, stands, clause, Len, Clause; put.
  watch, lean, lose: clauses come into lists.
  lean, lose: clauses come into lists, and go.
-/
import Derived.Test.YtimfjoinjfecjaaGreatP06
import Derived.Deep.RegionLaw
import Derived.Deep.RegionWith
import Derived.Deep.Cut
import Derived.Deep.CutRange

namespace Go.Proofs.YtimfjoinjfecjaaGreat
open Go.RowKit Go.Maps
set_option linter.unusedVariables false

theorem law3 : Keyed Tryz.prog 3 := int_keyed Tryz.underlying3

theorem wf_of {x : Int} (h0 : -9223372036854775808 ≤ x) (h1 : x ≤ 9223372036854775807) : (Lit.int .i64 x).wf = true := by
  simp [Lit.wf, IntKind.min, IntKind.max, IntKind.signed, IntKind.bits]; omega

/-- A watch and its trail. -/
structure J (k : K) (kw : WK) (w : World) (g : G) (L : List E) (lev : Nat) (p : V) : Prop where
  t : Trl k w L lev p
  s : St kw w g
  n : k.n = kw.n
  b : kw.B ≤ k.B
  aw : ∀ i, i < g.nx → g.gn i = false → ∀ j, (g.lv i).ownBlock = some j → 0 < (g.lt i).length → ¬ Mine k p j

section
variable {k : K} {kw : WK} {w w' : World} {g : G} {L : List E} {lev : Nat} {p : V}

theorem J.below (j : J k kw w g L lev p) (b : Below w.heap.size w w') : J k kw w' g L lev p := ⟨j.t.below b, j.s.below b, j.n, j.b, j.aw⟩
theorem J.fw {g' : G} (j : J k kw w g L lev p) (f : FW kw.B w w') (s : St kw w' g') (e1 : g'.nx = g.nx) (e2 : g'.gn = g.gn) (e3 : g'.lv = g.lv) (e4 : g'.lt = g.lt) : J k kw w' g' L lev p :=
  ⟨j.t.fw f, s, j.n, j.b, by rw [e1, e2, e3, e4]; exact j.aw⟩

theorem St.fr {k : K} {p p' : V} (s : St kw w g) (t : Trl k w L lev p) (f : Fr k p p' w w') (aw : ∀ i, i < g.nx → g.gn i = false → ∀ j, (g.lv i).ownBlock = some j → 0 < (g.lt i).length → ¬ Mine k p j) : St kw w' g := by
  refine s.same (fun j T ht hT => f.block j ht.lt (fun m => ?_)) (fun j es clock e => f.block j (blk_lt e) (fun m => ?_)) (fun i j hi hg e h0 ht => f.block j ht.lt (aw i hi hg j e h0))
  · obtain ⟨T', h1, h2⟩ := t.mine_typ m
    exact h2 (h1.one ht ▸ hT)
  · obtain ⟨T', ⟨c, fr, h1⟩, _⟩ := t.mine_typ m
    rw [e] at h1; cases h1

theorem LitRow.lt {v : Value} {xs : List Int} (h : LitRow w v xs) {j : Nat} (e : v.ownBlock = some j) (h0 : 0 < xs.length) : Typ w j 3 := by
  obtain ⟨ao, n, c, rfl, h1, h2⟩ := h
  obtain ⟨b, off, rfl, ht⟩ := h2 (by have := h1.1; omega)
  simp [Value.ownBlock] at e; subst e; exact ht

theorem J.fr {L' : List E} {lev' : Nat} {p' : V} (j : J k kw w g L lev p) (f : Fr k p p' w w') (t : Trl k w' L' lev' p') : J k kw w' g L' lev' p' :=
  ⟨t, j.s.fr j.t f j.aw, j.n, j.b, fun i hi hg b e h0 m => j.aw i hi hg b e h0 (f.new b ((j.s.l.li i hi hg).lt e h0).lt m)⟩
end

section
variable {k : WK} {w : World} {g : G}

theorem has_yes (s : St k w g) (m u : Nat) (hm : m / 2 = u) (h : u < k.n) : Calls Tryz.prog 69 #[.pointer (some ⟨k.OB, 0, none⟩), .int .i64 m] w fun e w' => e = .returned (.bool true) ∧ Below w.heap.size w w' := by
  have hn := s.l.hn
  have hu : (m : Int) ≤ 9223372036854775807 := by omega
  have h' : (u : Int) < k.n := by omega
  have HM := hid hm
  have HS := hid s
  clear hm s
  go_enter Tryz.func69, Tryz.ntmps69
  go_wp2_with (go_at_call 24; with_reducible (refine (var_nat _ _ HM.out hu _).mono ?_); rintro e w1 ⟨rfl, b1⟩; have c3 := (HS.out.below b1).c3)
  go_ret
  exact ⟨rfl, b1⟩

theorem place_is (s : St k w g) (m u : Nat) (hm : m / 2 = u) (h : u < k.n) : Calls Tryz.prog 118 #[.pointer (some ⟨k.OB, 0, none⟩), .int .i64 m] w fun e w' => e = .returned (.int .i64 (g.pl u)) ∧ Hid (Below w.heap.size w w') := by
  have hn := s.l.hn
  have hu : (m : Int) ≤ 9223372036854775807 := by omega
  have h' : (u : Int) < k.n := by omega
  have HM := hid hm
  have HS := hid s
  have c3 := s.c3
  clear hm s
  go_enter Tryz.func118, Tryz.ntmps118
  go_wp2
  go_region_with (go_at_call 24; with_reducible (refine (var_nat _ _ HM.out hu _).mono ?_); rintro e w1 ⟨rfl, b1⟩; have s1 := hid (HS.out.drew.below b1); have c3' := s1.out.c3; have cp := s1.out.c.fp h)
  all_goals go_wp2
  all_goals go_ret
  all_goals exact ⟨rfl, Below.next (below_drew w) b1⟩

theorem put_is (s : St k w g) (m u : Nat) (hm : m / 2 = u) (h : u < k.n) (q : Nat) : Calls Tryz.prog 76 #[.pointer (some ⟨k.OB, 0, none⟩), .int .i64 m, .int .i64 q] w fun e w' => e = .returned (.tuple #[]) ∧ Hid (St k w' (g.place u q) ∧ FW k.B w w') := by
  have hn := s.l.hn
  have hu : (m : Int) ≤ 9223372036854775807 := by omega
  have h' : (u : Int) < k.n := by omega
  have HM := hid hm
  have HS := hid s
  clear hm s
  go_enter Tryz.func76, Tryz.ntmps76
  go_wp2_with (go_at_call 69; with_reducible (refine (has_yes HS.out m u HM.out h).mono ?_); rintro e w1 ⟨rfl, b1⟩; have s1 := hid (HS.out.below b1); have c3 := s1.out.c3)
  go_region_with (go_at_call 24; with_reducible (refine (var_nat _ _ HM.out hu _).mono ?_); rintro e w2 ⟨rfl, b2⟩; have b3 := hid (Below.next (Below.next b1 (below_drew w1)) b2); have s2 := hid (HS.out.below b3.out); have c3' := s2.out.c3; have cp := s2.out.c.fp h; have cf := s2.out.c.ff (u * 2))
  all_goals go_wp2
  all_goals go_end0
  all_goals exact ⟨rfl, s2.out.putp h q, (FW.below b3.out).trans (FW.grown (grown_set w2 ⟨k.FB, u * 2, none⟩ (.int .i64 (q : Int))) (fun j T e t => by cases e; obtain ⟨c, q1, _⟩ := s2.out.c.fb; rw [t.one ⟨_, _, q1⟩]; simp [Wt]) (fun j e => by cases e; exact s2.out.c.lo.2.2))⟩

/-- The other literal that a clause watches. -/
def besideF (g : G) (c : Nat) (x : Int) : Int := if g.a c = x then g.b c else g.a c

theorem beside_is (l : Lst k w g) {c : Nat} (hc : c < g.nx) (hg : g.gn c = false) (x y : Int) (hy : besideF g c x = y) : Calls Tryz.prog 117 #[.pointer (some ⟨g.cb c, 0, none⟩), .int .i64 x] w fun e w' => e = .returned (.int .i64 y) ∧ w' = w := by
  obtain ⟨c0, c1, c2, c3, c4⟩ := l.ks hc hg
  unfold besideF at hy
  by_cases e : g.a c = x
  · rw [if_pos e] at hy
    subst hy
    have e' : (g.a c == x) = true := by simpa using e
    clear e l
    go_enter Tryz.func117, Tryz.ntmps117
    go_wp2
    go_ret
    exact ⟨rfl, rfl⟩
  · rw [if_neg e] at hy
    subst hy
    have e' : (g.a c == x) = false := by simpa using e
    clear e l
    go_enter Tryz.func117, Tryz.ntmps117
    go_wp2
    go_ret
    exact ⟨rfl, rfl⟩

theorem look_nil (x : Int) (w : World) : (Instr.lookup 81 (.map none) (.int .i64 x) false).run Tryz.prog w = .ok (.pointer none) w := by kernel_rfl
theorem len_nil (ty : TypeId) (w : World) : (Builtin.len_ #[81] ty #[.map none]).run Tryz.prog w = .ok (.int .i64 0) w := by kernel_rfl

def clauseV (g : G) (x : Int) : Value := .pointer (if live g x = true then some ⟨g.cb x.toNat, 0, none⟩ else none)

theorem St.look (s : St k w g) {x : Int} (h0 : -9223372036854775808 ≤ x) (h1 : x ≤ 9223372036854775807) : (Instr.lookup 81 (.map g.mp) (.int .i64 x) false).run Tryz.prog w = .ok (clauseV g x) w := by
  rcases s.l.mp with ⟨e1, e2⟩ | ⟨mb, D, e1, m⟩
  · have hl : live g x = false := by simp [live, e2]; omega
    rw [e1, clauseV, hl]
    exact look_nil x w
  · rw [e1]
    obtain ⟨v, ps, hr, hv⟩ := m.own.lookup law3 Tryz.underlying81 (zero84 w) (zd := .held none) (zp := []) rfl (keyOf_int_mk Tryz.underlying3 (wf_of h0 h1))
    rw [m.val x] at hv
    rw [hr]
    cases v <;> simp [ptrElem] at hv
    rw [hv.1]; rfl







theorem St.len (s : St k w g) (ty : TypeId) : (Builtin.len_ #[81] ty #[.map g.mp]).run Tryz.prog w = .ok (.int .i64 (liveN g)) w := by
  rcases s.l.mp with ⟨e1, e2⟩ | ⟨mb, D, e1, m⟩
  · have hl : liveN g = 0 := by simp [liveN, e2]
    rw [e1, hl]
    exact len_nil ty w
  · rw [e1, m.own.len Tryz.underlying81 ty, m.size]








end

end Go.Proofs.YtimfjoinjfecjaaGreat

namespace Go.Proofs.YtimfjoinjfecjaaGreat
open Go.RowKit Go.Maps
set_option linter.unusedVariables false

/-! ### append, as a step -/
theorem step_pone {w w1 : World} {ops : Array Oper} {o : Oper} {a : Act} {Kc : Act → World → Prop} {Q : Exit → Act → World → Prop} {G0 : Prop} (hgd : o.guard = none) (s x : Operand)
    (ho : o.op = .call { callee := .builtin .append, args := #[s, x], argTypes := #[82, 82] })
    {cb : Nat → Nat} (c : Nat) (hw : w = (w1.alloc (.cells #[.pointer (some ⟨cb c, 0, none⟩)] 92)).drew) (v : Value) (xs : List Nat) (hs : a.eval s = v) (own : PRow w1 cb v xs)
    (q : Nat) (hx : a.eval x = .slice (some ⟨q, 0, none⟩) 1 1) (hq : q = w1.heap.size) (hbd : xs.length + 1 ≤ 10000000000000)
    (h : ∀ v' w', Hid (PRow w' cb v' (xs ++ [c])) → Hid (w1.grownBy w' v.ownBlock) → Hid (Nw w1 v v') → Kc (a.put o.dst v') w') :
    if Region.wanted o (yielded ops a.tmps) = true then Oper.wp Tryz.prog o a w Kc Q else G0 := by
  have hwd : Region.wanted o (yielded ops a.tmps) = true := by simp [Region.wanted, hgd]
  rw [if_pos hwd]
  obtain ⟨v', w', hr, h2, h3, h4⟩ := run_pone (w1 := w1.drew) o.type c hw (own.keep (grown_below (below_drew w1)) (fun j hj => by cases hj)) q hq hbd
  unfold Oper.wp
  simp [execOp, ho, resolve, invoke, builtin, hs, hx, hr, Result.andThen]
  exact h v' w' h2 ⟨h3.os, h3.tape, h3.output, h3.size, h3.block⟩ h4

theorem step_pmany {w : World} {ops : Array Oper} {o : Oper} {a : Act} {Kc : Act → World → Prop} {Q : Exit → Act → World → Prop} {G0 : Prop} (hgd : o.guard = none) (s x : Operand)
    (ho : o.op = .call { callee := .builtin .append, args := #[s, x], argTypes := #[82, 82] })
    {cb : Nat → Nat} (v : Value) (xs : List Nat) (hs : a.eval s = v) (own : PRow w cb v xs) {u : Value} (ys : List Nat)
    (hx : a.eval x = u) (hy : PRow w cb u ys) (hbd : xs.length + ys.length ≤ 10000000000000)
    (h : ∀ v' w', Hid (PRow w' cb v' (xs ++ ys)) → Hid (w.grownBy w' v.ownBlock) → Hid (Nw w v v') → Kc (a.put o.dst v') w') :
    if Region.wanted o (yielded ops a.tmps) = true then Oper.wp Tryz.prog o a w Kc Q else G0 := by
  have hwd : Region.wanted o (yielded ops a.tmps) = true := by simp [Region.wanted, hgd]
  rw [if_pos hwd]
  rcases hy with ⟨rfl, rfl⟩ | ⟨b, off, cap, cur, rfl, hg, h1, h2, h3, h4⟩
  · have hr := run_pnone w o.type own
    unfold Oper.wp
    simp [execOp, ho, resolve, invoke, builtin, hs, hx, hr, Result.andThen]
    exact h v w (by rw [List.append_nil]; exact own) ⟨rfl, rfl, rfl, Nat.le_refl _, fun _ _ _ => rfl⟩ (fun j hj => .inl hj)
  · obtain ⟨v', w', hr, h2, h3, h4⟩ := run_pappend w o.type own ⟨b, off, none⟩ ys.length cap ys rfl (fun j y hj => by rw [add_at, cell_of hg]; exact h4 j y hj) hbd
    unfold Oper.wp
    simp [execOp, ho, resolve, invoke, builtin, hs, hx, hr, Result.andThen]
    exact h v' w' h2 h3 h4

theorem append_pone {w w1 : World} {ops : Array Oper} {rest : List Oper} {o : Oper} {a : Act} {Q : Exit → Act → World → Prop} (hgd : o.guard = none) (s x : Operand)
    (ho : o.op = .call { callee := .builtin .append, args := #[s, x], argTypes := #[82, 82] })
    {cb : Nat → Nat} (c : Nat) (hw : w = w1.alloc (.cells #[.pointer (some ⟨cb c, 0, none⟩)] 92)) (v : Value) (xs : List Nat) (hs : a.eval s = v) (own : PRow w1 cb v xs)
    (q : Nat) (hx : a.eval x = .slice (some ⟨q, 0, none⟩) 1 1) (hq : q = w1.heap.size) (hbd : xs.length + 1 ≤ 10000000000000)
    (h : ∀ v' w', Hid (PRow w' cb v' (xs ++ [c])) → Hid (w1.grownBy w' v.ownBlock) → Hid (Nw w1 v v') → wpList Tryz.prog ops Q rest (a.put o.dst v') w') : wpList Tryz.prog ops Q (o :: rest) a w := by
  obtain ⟨v', w', hr, h2, h3, h4⟩ := run_pone o.type c hw own q hq hbd
  refine wpList_plain hgd fun K hK => ?_
  unfold Oper.wp execOp
  simp only [ho, resolve, invoke, builtin, Sem.run_bind, Sem.run_pure, Result.andThen_ok, List.map_toArray, List.map_cons, List.map_nil, hs, hx, hr]
  exact hK _ _ (h v' w' h2 h3 h4)

section
variable {k : WK} {w w1 : World} {g : G}

theorem St.ty {s : Nat} (st : St k w g) (hs : s ≤ 3 * k.n) : ∀ j T, (g.pv s).ownBlock = some j → Typ w j T → Wt T := fun j T e t => by
  rw [t.one ((st.l.rw s hs).typ e)]; simp [Wt]

theorem mem_one {c nx : Nat} {xs : List Nat} (h : ∀ i ∈ xs, i < nx) (hc : c < nx) : ∀ i ∈ xs ++ [c], i < nx := by
  intro i hi
  rcases List.mem_append.1 hi with h1 | h1
  · exact h i h1
  · rw [List.mem_singleton] at h1; rw [h1]; exact hc

theorem St.pushw {w5 : World} {v5 : Value} {x c : Nat} (s : St k w1 g) (hx : x < 2 * k.n) (hc : c < g.nx) (own : PRow w5 g.cb v5 (g.P x ++ [c])) (gr : w1.grownBy w5 (g.pv x).ownBlock) (nw : Nw w1 (g.pv x) v5) :
    ∃ b5 o5 c5, v5 = .slice (some ⟨b5, o5, none⟩) ((g.P x).length + 1) c5 ∧ w5.cell? ⟨k.OB, 2, none⟩ = some (.slice (some ⟨k.WB, 0, none⟩) (2 * k.n) (2 * k.n)) ∧ w5.cell? ⟨k.WB, x, none⟩ = some (g.pv x) ∧ w5.frozen? ⟨k.WB, x, none⟩ = false ∧ Hid (St k (w5.setCell ⟨k.WB, x, none⟩ v5) (g.slot x (g.P x ++ [c]) v5)) ∧ Hid (FW k.B w1 (w5.setCell ⟨k.WB, x, none⟩ v5)) := by
  have hs : x ≤ 3 * k.n := by omega
  obtain ⟨c5, l5⟩ := s.list hs gr own nw (mem_one (s.l.sub x hs) hc)
  obtain ⟨b5, o5, p5, e, _⟩ := own.filled (by simp)
  refine ⟨b5, o5, p5, by simpa using e, c5.c2, c5.wc hx, c5.wf x, c5.putw hx _ _ l5, (FW.grown gr (s.ty hs) (s.l.lo.p _ hs)).trans (FW.grown (grown_set w5 ⟨k.WB, x, none⟩ v5) (fun j T e t => ?_) (fun j e => by cases e; exact c5.lo.2.1))⟩
  cases e
  obtain ⟨cc, q1, _⟩ := c5.wb
  rw [t.one ⟨_, _, q1⟩]; simp [Wt]

theorem push_at {w5 : World} {v5 v : Value} {x c : Nat} {xs : List Nat} (s : St k w1 g) (hx : x < 2 * k.n) (hc : c < g.nx) (hP : g.P x = xs) (hv : g.pv x = v) (own : PRow w5 g.cb v5 (xs ++ [c])) (gr : w1.grownBy w5 v.ownBlock) (nw : Nw w1 v v5) :
    ∃ b5 o5 c5, v5 = .slice (some ⟨b5, o5, none⟩) (xs.length + 1) c5 ∧ w5.cell? ⟨k.OB, 2, none⟩ = some (.slice (some ⟨k.WB, 0, none⟩) (2 * k.n) (2 * k.n)) ∧ w5.cell? ⟨k.WB, x, none⟩ = some v ∧ w5.frozen? ⟨k.WB, x, none⟩ = false ∧ Hid (St k (w5.setCell ⟨k.WB, x, none⟩ v5) (g.slot x (xs ++ [c]) v5)) ∧ Hid (FW k.B w1 (w5.setCell ⟨k.WB, x, none⟩ v5)) := by
  subst hP hv
  exact s.pushw hx hc own gr nw

theorem St.pushl {w5 : World} {v5 : Value} {u : Nat} {zs : List Nat} (s : St k w1 g) (hu : u < k.n) (hc : ∀ i ∈ zs, i < g.nx) (own : PRow w5 g.cb v5 zs) (gr : w1.grownBy w5 (g.pv (2 * k.n + u)).ownBlock) (nw : Nw w1 (g.pv (2 * k.n + u)) v5) :
    w5.cell? ⟨k.FB, u * 2 + 1, none⟩ = some (g.pv (2 * k.n + u)) ∧ w5.frozen? ⟨k.FB, u * 2 + 1, none⟩ = false ∧ Hid (St k (w5.setCell ⟨k.FB, u * 2 + 1, none⟩ v5) (g.slot (2 * k.n + u) zs v5)) ∧ Hid (FW k.B w1 (w5.setCell ⟨k.FB, u * 2 + 1, none⟩ v5)) := by
  have hs : 2 * k.n + u ≤ 3 * k.n := by omega
  obtain ⟨c5, l5⟩ := s.list hs gr own nw hc
  refine ⟨c5.fl hu, c5.ff _, c5.putl hu _ _ l5, (FW.grown gr (s.ty hs) (s.l.lo.p _ hs)).trans (FW.grown (grown_set w5 ⟨k.FB, u * 2 + 1, none⟩ v5) (fun j T e t => ?_) (fun j e => by cases e; exact c5.lo.2.2))⟩
  cases e
  obtain ⟨cc, q1, _⟩ := c5.fb
  rw [t.one ⟨_, _, q1⟩]; simp [Wt]

theorem St.pusha {w5 : World} {v5 : Value} {zs : List Nat} (s : St k w1 g) (hc : ∀ i ∈ zs, i < g.nx) (own : PRow w5 g.cb v5 zs) (gr : w1.grownBy w5 (g.pv (3 * k.n)).ownBlock) (nw : Nw w1 (g.pv (3 * k.n)) v5) :
    w5.cell? ⟨k.OB, 4, none⟩ = some (g.pv (3 * k.n)) ∧ w5.frozen? ⟨k.OB, 4, none⟩ = false ∧ Hid (St k (w5.setCell ⟨k.OB, 4, none⟩ v5) (g.slot (3 * k.n) zs v5)) ∧ Hid (FW k.B w1 (w5.setCell ⟨k.OB, 4, none⟩ v5)) := by
  obtain ⟨c5, l5⟩ := s.list (Nat.le_refl _) gr own nw hc
  refine ⟨c5.c4, c5.of 4, c5.puta _ _ l5, (FW.grown gr (s.ty (Nat.le_refl _)) (s.l.lo.p _ (Nat.le_refl _))).trans (FW.grown (grown_set w5 ⟨k.OB, 4, none⟩ v5) (fun j T e t => ?_) (fun j e => by cases e; exact c5.lo.1))⟩
  cases e
  rw [t.one ⟨_, _, c5.ob⟩]; simp [Wt]

theorem St.watchFW (s : St k w g) {c : Nat} (hc : c < g.nx) (x y : Value) : FW k.B w ((w.setCell ⟨g.cb c, 2, none⟩ x).setCell ⟨g.cb c, 3, none⟩ y) :=
  FW.grown (grown_two (grown_set w ⟨g.cb c, 2, none⟩ x) (grown_set _ ⟨g.cb c, 3, none⟩ y)) (fun j T e t => by cases e; rw [t.one ⟨_, _, s.l.cl c hc⟩]; simp [Wt]) (fun j e => by cases e; exact s.l.lo.c c hc)

/-! ### watch -/
def WatchEnd (k : WK) (g : G) (c a b : Nat) (w w' : World) : Prop := ∃ v1 v2, St k w' (((g.watch c a b).slot a (g.P a ++ [c]) v1).slot b (g.P b ++ [c]) v2) ∧ FW k.B w w'

set_option maxHeartbeats 2000000 in
theorem watch_is (s : St k w g) {c : Nat} (hc : c < g.nx) (hg : g.gn c = false) (a b : Nat) (ha : a < 2 * k.n) (hb : b < 2 * k.n) (hab : a ≠ b) (la : (g.P a).length ≤ 1000000000000) (lb : (g.P b).length ≤ 1000000000000) :
    Calls Tryz.prog 113 #[.pointer (some ⟨k.OB, 0, none⟩), .pointer (some ⟨g.cb c, 0, none⟩), .int .i64 a, .int .i64 b] w fun e w' => e = .returned (.tuple #[]) ∧ WatchEnd k g c a b w w' := by
  obtain ⟨c0, c1, c2, c3, c4⟩ := s.l.ks hc hg
  have f2 := s.l.kf hc 2
  have f3 := s.l.kf hc 3
  have s1 := hid (s.putwatch hc hg a b)
  have F1 := hid (s.watchFW hc (.int .i64 a) (.int .i64 b))
  have hn := s.l.hn
  have ha' : (a : Int) < 2 * k.n := by omega
  have hb' : (b : Int) < 2 * k.n := by omega
  obtain ⟨aa, pa, ea, _⟩ := (s.l.rw a (by omega)).shape
  obtain ⟨ab, pb, eb, _⟩ := (s.l.rw b (by omega)).shape
  clear s c0 c1 c4
  go_enter Tryz.func113, Tryz.ntmps113
  go_upto_region 1 with fail
  revert s1 F1
  generalize ((w.setCell ⟨g.cb c, 2, none⟩ (.int .i64 (a : Int))).setCell ⟨g.cb c, 3, none⟩ (.int .i64 (b : Int))) = w1
  intro s1 F1
  clear c2 c3 f2 f3
  go_cut [] from 14 to 45 (fun wx => ∃ v, Hid (St k wx ((g.watch c a b).slot a (g.P a ++ [c]) v)) ∧ Hid (FW k.B w wx))
  case first =>
    have d2 := s1.out.c2
    have d3 := s1.out.c.wc ha
    have B1 : Below w1.heap.size w1 (w1.alloc (.cells #[.pointer (some ⟨g.cb c, 0, none⟩)] 92)) := by go_grown
    have d2' := (s1.out.below B1).c2
    have d3' := (s1.out.below B1).c.wc ha
    rw [show (g.watch c a b).pv a = g.pv a from rfl, ea] at d3 d3'
    go_region_law (refine step_pone (w1 := w1) (cb := g.cb) rfl _ _ rfl c rfl (g.pv a) (g.P a) ea.symm (s1.out.l.rw a (by omega)) _ rfl (by simp) (by omega) ?_; intro v5 w5 own5 g5 new5; have m5 := s1.out.pushw ha hc own5.out g5.out new5.out; obtain ⟨b6, o6, p6, rfl, q0, q1, q2, s6, F6⟩ := m5; rw [show (g.watch c a b).pv a = g.pv a from rfl, ea] at q1)
    all_goals go_wp2_with fail
    all_goals go_meet
    all_goals exact ⟨_, s6, hid (F1.out.trans F6.out)⟩
  case rest =>
    obtain ⟨v, s7, F7⟩ := hcut
    clear s1 F1
    have d2 := s7.out.c2
    have d3 := s7.out.c.wc hb
    have B1 : Below wc.heap.size wc (wc.alloc (.cells #[.pointer (some ⟨g.cb c, 0, none⟩)] 92)) := by go_grown
    have d2' := (s7.out.below B1).c2
    have d3' := (s7.out.below B1).c.wc hb
    have hpv : ((g.watch c a b).slot a (g.P a ++ [c]) v).pv b = g.pv b := up_ne _ _ (fun e => hab e.symm)
    have hP : ((g.watch c a b).slot a (g.P a ++ [c]) v).P b = g.P b := up_ne _ _ (fun e => hab e.symm)
    rw [hpv, eb] at d3 d3'
    have r7 := s7.out.l.rw b (by omega)
    rw [hpv, hP] at r7
    have HP := hid hP
    have HPV := hid hpv
    have R7 := hid r7
    clear hP hpv r7
    go_wp2
    go_region_law (refine step_pone (w1 := wc) (cb := g.cb) rfl _ _ rfl c rfl (g.pv b) (g.P b) eb.symm R7.out _ rfl (by simp) (by omega) ?_; intro v5 w5 own5 g5 new5; have m5 := push_at s7.out hb hc HP.out HPV.out own5.out g5.out new5.out; obtain ⟨b8, o8, p8, rfl, q0, q1, q2, s8, F8⟩ := m5; rw [eb] at q1)
    all_goals go_wp2
    all_goals go_end0
    all_goals exact ⟨rfl, _, _, s8.out, F7.out.trans F8.out⟩
end

end Go.Proofs.YtimfjoinjfecjaaGreat

namespace Go.Proofs.YtimfjoinjfecjaaGreat
open Go.RowKit Go.Maps
set_option linter.unusedVariables false

theorem mem_two {nx : Nat} {xs ys : List Nat} (h : ∀ i ∈ xs, i < nx) (h' : ∀ i ∈ ys, i < nx) : ∀ i ∈ xs ++ ys, i < nx := fun i hi => (List.mem_append.1 hi).elim (h i) (h' i)

theorem PRow.one {w : World} {cb : Nat → Nat} {v : Value} {xs : List Nat} {c : Nat} (h : PRow w cb v (xs ++ [c])) : ∃ b o p, v = .slice (some ⟨b, o, none⟩) (xs.length + 1) p := by
  obtain ⟨b, o, p, e, _⟩ := h.filled (by simp)
  exact ⟨b, o, p, by simpa using e⟩

theorem PRow.sum {w : World} {cb : Nat → Nat} {v : Value} {xs ys : List Nat} (h : PRow w cb v (xs ++ ys)) : ∃ ao p, v = .slice ao (xs.length + ys.length) p := by
  obtain ⟨ao, p, e, _⟩ := h.shape
  exact ⟨ao, p, by simpa using e⟩

section
variable {k : WK} {w w1 : World} {g : G}

/-! ### lean -/
theorem lean_is (s : St k w g) {c : Nat} (hc : c < g.nx) (m u : Nat) (hm : m / 2 = u) (hu : u < k.n) (la : (g.P (2 * k.n + u)).length ≤ 1000000000000) :
    Calls Tryz.prog 115 #[.pointer (some ⟨k.OB, 0, none⟩), .pointer (some ⟨g.cb c, 0, none⟩), .int .i64 m] w fun e w' => e = .returned (.tuple #[]) ∧ ∃ v, Hid (St k w' (g.slot (2 * k.n + u) (g.P (2 * k.n + u) ++ [c]) v)) ∧ Hid (FW k.B w w') := by
  have hn := s.l.hn
  have hmu : (m : Int) ≤ 9223372036854775807 := by omega
  have h' : (u : Int) < k.n := by omega
  have HM := hid hm
  have HS := hid s
  have c3 := s.c3
  obtain ⟨aa, pa, ea, _⟩ := (s.l.rw (2 * k.n + u) (by omega)).shape
  clear hm s
  go_enter Tryz.func115, Tryz.ntmps115
  go_wp2
  go_region_with (go_at_call 24; with_reducible (refine (var_nat _ _ HM.out hmu _).mono ?_); rintro e w1 ⟨rfl, b1⟩; have b2 := hid (Below.next (below_drew w) b1); have s1 := hid (HS.out.below b2.out); have c3' := s1.out.c3; have cl := s1.out.c.fl hu; have e0 := ea; rw [ea] at cl)
  all_goals go_wp2_with (at_builtin; refine append_pone (w1 := w1) (cb := g.cb) rfl _ _ rfl c rfl (g.pv (2 * k.n + u)) (g.P (2 * k.n + u)) ea.symm (s1.out.l.rw (2 * k.n + u) (by omega)) _ rfl rfl (by omega) ?_; intro v5 w5 own5 g5 new5; have m5 := s1.out.pushl hu (mem_one (s1.out.l.sub _ (by omega)) hc) own5.out g5.out new5.out; obtain ⟨q1, q2, s6, F6⟩ := m5; rw [ea] at q1; have f5 := own5.out.one; obtain ⟨b6, o6, p6, rfl⟩ := f5)
  all_goals go_end0
  all_goals exact ⟨rfl, _, s6, hid ((FW.below b2.out).trans F6.out)⟩

/-! ### lose -/
def LoseEnd (k : WK) (g : G) (u : Nat) (w w' : World) : Prop := ∃ v1 v2, St k w' ((g.slot (3 * k.n) (g.P (3 * k.n) ++ g.P (2 * k.n + u)) v1).slot (2 * k.n + u) [] v2) ∧ FW k.B w w'

set_option maxHeartbeats 1000000 in
theorem lose_is (s : St k w g) (m u : Nat) (hm : m / 2 = u) (hu : u < k.n) (la : (g.P (3 * k.n)).length + (g.P (2 * k.n + u)).length ≤ 1000000000000) :
    Calls Tryz.prog 75 #[.pointer (some ⟨k.OB, 0, none⟩), .int .i64 m] w fun e w' => e = .returned (.tuple #[]) ∧ LoseEnd k g u w w' := by
  have hn := s.l.hn
  have hmu : (m : Int) ≤ 9223372036854775807 := by omega
  have h' : (u : Int) < k.n := by omega
  have HM := hid hm
  have HS := hid s
  obtain ⟨aa, pa, ea, _⟩ := (s.l.rw (2 * k.n + u) (by omega)).shape
  obtain ⟨ab, pb, eb, _⟩ := (s.l.rw (3 * k.n) (by omega)).shape
  clear hm s
  go_enter Tryz.func75, Tryz.ntmps75
  go_upto_region 1 with (go_at_call 69; with_reducible (refine (has_yes HS.out m u HM.out hu).mono ?_); rintro e w1 ⟨rfl, b1⟩; have s1 := hid (HS.out.below b1); have c3 := s1.out.c3)
  go_cut [4] from 5 to 39 (fun f wx => f = .pointer (some ⟨k.FB, u * 2, none⟩) ∧ Hid (Below w.heap.size w wx))
  case first =>
    go_region_with (go_at_call 24; with_reducible (refine (var_nat _ _ HM.out hmu _).mono ?_); rintro e w2 ⟨rfl, b2⟩; have b3 := hid (Below.next (Below.next b1 (below_drew w1)) b2); have s2 := hid (HS.out.below b3.out); have c3' := s2.out.c3)
    all_goals go_wp2_with fail
    all_goals go_meet
    all_goals exact ⟨rfl, b3⟩
  case rest =>
    obtain ⟨rfl, b3⟩ := hcut
    have s2 := hid (HS.out.below b3.out)
    have c4 := s2.out.c4
    have cl := s2.out.c.fl hu
    rw [eb] at c4
    rw [ea] at cl
    clear s1 c3
    go_upto_region 2 with fail
    go_cut [] from 5 to 39 (fun wx => ∃ v, Hid (St k wx (g.slot (3 * k.n) (g.P (3 * k.n) ++ g.P (2 * k.n + u)) v)) ∧ Hid (FW k.B w wx))
    case first =>
      go_region_law (refine step_pmany (w := wc.drew) (cb := g.cb) rfl _ _ rfl (g.pv (3 * k.n)) (g.P (3 * k.n)) eb.symm (s2.out.drew.l.rw (3 * k.n) (by omega)) (u := g.pv (2 * k.n + u)) (g.P (2 * k.n + u)) ea.symm (s2.out.drew.l.rw (2 * k.n + u) (by omega)) (by omega) ?_; intro v5 w5 own5 g5 new5; have f5 := own5.out.sum; obtain ⟨a5, p5, rfl⟩ := f5; have m5 := St.pusha (w1 := wc.drew) s2.out.drew (mem_two (s2.out.l.sub _ (by omega)) (s2.out.l.sub _ (by omega))) own5.out g5.out new5.out; obtain ⟨q1, q2, s6, F6⟩ := m5; rw [eb] at q1)
      all_goals go_wp2_with fail
      all_goals go_meet
      all_goals exact ⟨_, s6, hid (((FW.below b3.out).trans (FW.below (below_drew _))).trans F6.out)⟩
    case rest =>
      obtain ⟨v, s7, F7⟩ := hcut
      clear c4 cl s2 b3
      have hpv : (g.slot (3 * k.n) (g.P (3 * k.n) ++ g.P (2 * k.n + u)) v).pv (2 * k.n + u) = g.pv (2 * k.n + u) := up_ne _ _ (by omega)
      have hP : (g.slot (3 * k.n) (g.P (3 * k.n) ++ g.P (2 * k.n + u)) v).P (2 * k.n + u) = g.P (2 * k.n + u) := up_ne _ _ (by omega)
      have cl := s7.out.c.fl hu
      have r7 := s7.out.l.rw (2 * k.n + u) (by omega)
      rw [hpv, ea] at cl
      rw [hpv, hP] at r7
      have R7 := hid r7
      have HPV := hid hpv
      have H7 := r7
      clear r7 hpv hP
      rcases H7 with ⟨e1, e2⟩ | ⟨b, off, cap, cur, e1, _⟩
      · have r8 : PRow wc g.cb (.slice none 0 0) [] := .inl ⟨rfl, rfl⟩
        rw [e1] at ea
        have m7 := s7.out.pushl hu (fun i hi => by simp at hi) r8 (by rw [HPV.out, e1]; exact ⟨rfl, rfl, rfl, Nat.le_refl _, fun _ _ _ => rfl⟩) (fun j hj => by simp [Value.ownBlock] at hj)
        obtain ⟨q1, q2, s8, F8⟩ := m7
        rw [← ea] at cl
        have hc0 := run_clear0 wc 0 none 0
        clear q1 e1 ea e2 eb
        go_wp2
        go_end0
        exact ⟨rfl, _, _, s8.out, F7.out.trans F8.out⟩
      · rw [e1] at ea
        have R8 := R7.out
        rw [e1] at R8
        obtain ⟨w8, hc8, r8, g8⟩ := run_pclear wc 0 R8
        have m7 := s7.out.pushl hu (fun i hi => by simp at hi) r8 (by rw [HPV.out, e1]; exact g8) (fun j hj => .inl (by rw [HPV.out, e1]; exact hj))
        obtain ⟨q1, q2, s8, F8⟩ := m7
        rw [← ea] at cl
        rw [HPV.out, e1] at q1
        clear e1 ea eb R8
        go_wp2
        go_end0
        exact ⟨rfl, _, _, s8.out, F7.out.trans F8.out⟩
end

end Go.Proofs.YtimfjoinjfecjaaGreat
