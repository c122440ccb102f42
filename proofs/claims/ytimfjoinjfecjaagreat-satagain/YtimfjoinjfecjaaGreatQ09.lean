/-
  watch, lean, lose: clauses come into lists.
-/
import Derived.Test.YtimfjoinjfecjaaGreatQ05
import Derived.Deep.RegionLaw
import Derived.Deep.RegionWith
import Derived.Deep.Cut
import Derived.Deep.CutRange

namespace Go.Proofs.YtimfjoinjfecjaaGreat
open Go.RowKit Go.Maps
set_option linter.unusedVariables false

/-! ### append, as a step -/
theorem step_pone {w w1 : World} {ops : Array Oper} {o : Oper} {a : Act} {Kc : Act → World → Prop} {Q : Exit → Act → World → Prop} {G0 : Prop} (hgd : o.guard = none) (s x : Operand)
    (ho : o.op = .call { callee := .builtin .append, args := #[s, x], argTypes := #[82, 82] })
    {cb : Nat → Nat} (c : Nat) (hw : w = (w1.alloc (.cells #[.pointer (some ⟨cb c, 0, none⟩)] 92)).drew) (v : Value) (xs : List Nat) (hs : a.eval s = v) (own : PRow w1 cb v xs)
    (q : Nat) (hx : a.eval x = .slice (some ⟨q, 0, none⟩) 1 1) (hq : q = w1.heap.size) (hbd : xs.length + 1 ≤ 10000000000000)
    (h : ∀ v' w', Hid (PRow w' cb v' (xs ++ [c])) → Hid (w1.grownBy w' v.ownBlock) → Hid (Nw w1 v v') → Kc (a.put o.dst v') w') :
    if Region.wanted o (yielded ops a.tmps) = true then Oper.wp Tryz.prog o a w Kc Q else G0 := by
  have hwd : Region.wanted o (yielded ops a.tmps) = true := by simp [Region.wanted, hgd]
  rw [if_pos hwd]
  obtain ⟨v', w', hr, h2, h3, h4⟩ := run_pone (w1 := w1.drew) o.type c hw (own.keep (grown_below (below_drew w1)) (fun j hj => by cases hj)) q hq hbd
  unfold Oper.wp
  simp [execOp, ho, resolve, invoke, builtin, hs, hx, hr, Result.andThen]
  exact h v' w' h2 ⟨h3.os, h3.tape, h3.output, h3.size, h3.block⟩ h4

theorem step_pmany {w : World} {ops : Array Oper} {o : Oper} {a : Act} {Kc : Act → World → Prop} {Q : Exit → Act → World → Prop} {G0 : Prop} (hgd : o.guard = none) (s x : Operand)
    (ho : o.op = .call { callee := .builtin .append, args := #[s, x], argTypes := #[82, 82] })
    {cb : Nat → Nat} (v : Value) (xs : List Nat) (hs : a.eval s = v) (own : PRow w cb v xs) {u : Value} (ys : List Nat)
    (hx : a.eval x = u) (hy : PRow w cb u ys) (hbd : xs.length + ys.length ≤ 10000000000000)
    (h : ∀ v' w', Hid (PRow w' cb v' (xs ++ ys)) → Hid (w.grownBy w' v.ownBlock) → Hid (Nw w v v') → Kc (a.put o.dst v') w') :
    if Region.wanted o (yielded ops a.tmps) = true then Oper.wp Tryz.prog o a w Kc Q else G0 := by
  have hwd : Region.wanted o (yielded ops a.tmps) = true := by simp [Region.wanted, hgd]
  rw [if_pos hwd]
  rcases hy with ⟨rfl, rfl⟩ | ⟨b, off, cap, cur, rfl, hg, h1, h2, h3, h4⟩
  · have hr := run_pnone w o.type own
    unfold Oper.wp
    simp [execOp, ho, resolve, invoke, builtin, hs, hx, hr, Result.andThen]
    exact h v w (by rw [List.append_nil]; exact own) ⟨rfl, rfl, rfl, Nat.le_refl _, fun _ _ _ => rfl⟩ (fun j hj => .inl hj)
  · obtain ⟨v', w', hr, h2, h3, h4⟩ := run_pappend w o.type own ⟨b, off, none⟩ ys.length cap ys rfl (fun j y hj => by rw [add_at, cell_of hg]; exact h4 j y hj) hbd
    unfold Oper.wp
    simp [execOp, ho, resolve, invoke, builtin, hs, hx, hr, Result.andThen]
    exact h v' w' h2 h3 h4

theorem append_pone {w w1 : World} {ops : Array Oper} {rest : List Oper} {o : Oper} {a : Act} {Q : Exit → Act → World → Prop} (hgd : o.guard = none) (s x : Operand)
    (ho : o.op = .call { callee := .builtin .append, args := #[s, x], argTypes := #[82, 82] })
    {cb : Nat → Nat} (c : Nat) (hw : w = w1.alloc (.cells #[.pointer (some ⟨cb c, 0, none⟩)] 92)) (v : Value) (xs : List Nat) (hs : a.eval s = v) (own : PRow w1 cb v xs)
    (q : Nat) (hx : a.eval x = .slice (some ⟨q, 0, none⟩) 1 1) (hq : q = w1.heap.size) (hbd : xs.length + 1 ≤ 10000000000000)
    (h : ∀ v' w', Hid (PRow w' cb v' (xs ++ [c])) → Hid (w1.grownBy w' v.ownBlock) → Hid (Nw w1 v v') → wpList Tryz.prog ops Q rest (a.put o.dst v') w') : wpList Tryz.prog ops Q (o :: rest) a w := by
  obtain ⟨v', w', hr, h2, h3, h4⟩ := run_pone o.type c hw own q hq hbd
  refine wpList_plain hgd fun K hK => ?_
  unfold Oper.wp execOp
  simp only [ho, resolve, invoke, builtin, Sem.run_bind, Sem.run_pure, Result.andThen_ok, List.map_toArray, List.map_cons, List.map_nil, hs, hx, hr]
  exact hK _ _ (h v' w' h2 h3 h4)

section
variable {k : WK} {w w1 : World} {g : G}

theorem St.ty {s : Nat} (st : St k w g) (hs : s ≤ 3 * k.n) : ∀ j T, (g.pv s).ownBlock = some j → Typ w j T → Wt T := fun j T e t => by
  rw [t.one ((st.l.rw s hs).typ e)]; simp [Wt]

theorem mem_one {c nx : Nat} {xs : List Nat} (h : ∀ i ∈ xs, i < nx) (hc : c < nx) : ∀ i ∈ xs ++ [c], i < nx := by
  intro i hi
  rcases List.mem_append.1 hi with h1 | h1
  · exact h i h1
  · rw [List.mem_singleton] at h1; rw [h1]; exact hc

theorem St.pushw {w5 : World} {v5 : Value} {x c : Nat} (s : St k w1 g) (hx : x < 2 * k.n) (hc : c < g.nx) (own : PRow w5 g.cb v5 (g.P x ++ [c])) (gr : w1.grownBy w5 (g.pv x).ownBlock) (nw : Nw w1 (g.pv x) v5) :
    ∃ b5 o5 c5, v5 = .slice (some ⟨b5, o5, none⟩) ((g.P x).length + 1) c5 ∧ w5.cell? ⟨k.OB, 2, none⟩ = some (.slice (some ⟨k.WB, 0, none⟩) (2 * k.n) (2 * k.n)) ∧ w5.cell? ⟨k.WB, x, none⟩ = some (g.pv x) ∧ w5.frozen? ⟨k.WB, x, none⟩ = false ∧ Hid (St k (w5.setCell ⟨k.WB, x, none⟩ v5) (g.slot x (g.P x ++ [c]) v5)) ∧ Hid (FW k.B w1 (w5.setCell ⟨k.WB, x, none⟩ v5)) := by
  have hs : x ≤ 3 * k.n := by omega
  obtain ⟨c5, l5⟩ := s.list hs gr own nw (mem_one (s.l.sub x hs) hc)
  obtain ⟨b5, o5, p5, e, _⟩ := own.filled (by simp)
  refine ⟨b5, o5, p5, by simpa using e, c5.c2, c5.wc hx, c5.wf x, c5.putw hx _ _ l5, (FW.grown gr (s.ty hs) (s.l.lo.p _ hs)).trans (FW.grown (grown_set w5 ⟨k.WB, x, none⟩ v5) (fun j T e t => ?_) (fun j e => by cases e; exact c5.lo.2.1))⟩
  cases e
  obtain ⟨cc, q1, _⟩ := c5.wb
  rw [t.one ⟨_, _, q1⟩]; simp [Wt]

theorem push_at {w5 : World} {v5 v : Value} {x c : Nat} {xs : List Nat} (s : St k w1 g) (hx : x < 2 * k.n) (hc : c < g.nx) (hP : g.P x = xs) (hv : g.pv x = v) (own : PRow w5 g.cb v5 (xs ++ [c])) (gr : w1.grownBy w5 v.ownBlock) (nw : Nw w1 v v5) :
    ∃ b5 o5 c5, v5 = .slice (some ⟨b5, o5, none⟩) (xs.length + 1) c5 ∧ w5.cell? ⟨k.OB, 2, none⟩ = some (.slice (some ⟨k.WB, 0, none⟩) (2 * k.n) (2 * k.n)) ∧ w5.cell? ⟨k.WB, x, none⟩ = some v ∧ w5.frozen? ⟨k.WB, x, none⟩ = false ∧ Hid (St k (w5.setCell ⟨k.WB, x, none⟩ v5) (g.slot x (xs ++ [c]) v5)) ∧ Hid (FW k.B w1 (w5.setCell ⟨k.WB, x, none⟩ v5)) := by
  subst hP hv
  exact s.pushw hx hc own gr nw

theorem St.pushl {w5 : World} {v5 : Value} {u : Nat} {zs : List Nat} (s : St k w1 g) (hu : u < k.n) (hc : ∀ i ∈ zs, i < g.nx) (own : PRow w5 g.cb v5 zs) (gr : w1.grownBy w5 (g.pv (2 * k.n + u)).ownBlock) (nw : Nw w1 (g.pv (2 * k.n + u)) v5) :
    w5.cell? ⟨k.FB, u * 2 + 1, none⟩ = some (g.pv (2 * k.n + u)) ∧ w5.frozen? ⟨k.FB, u * 2 + 1, none⟩ = false ∧ Hid (St k (w5.setCell ⟨k.FB, u * 2 + 1, none⟩ v5) (g.slot (2 * k.n + u) zs v5)) ∧ Hid (FW k.B w1 (w5.setCell ⟨k.FB, u * 2 + 1, none⟩ v5)) := by
  have hs : 2 * k.n + u ≤ 3 * k.n := by omega
  obtain ⟨c5, l5⟩ := s.list hs gr own nw hc
  refine ⟨c5.fl hu, c5.ff _, c5.putl hu _ _ l5, (FW.grown gr (s.ty hs) (s.l.lo.p _ hs)).trans (FW.grown (grown_set w5 ⟨k.FB, u * 2 + 1, none⟩ v5) (fun j T e t => ?_) (fun j e => by cases e; exact c5.lo.2.2))⟩
  cases e
  obtain ⟨cc, q1, _⟩ := c5.fb
  rw [t.one ⟨_, _, q1⟩]; simp [Wt]

theorem St.pusha {w5 : World} {v5 : Value} {zs : List Nat} (s : St k w1 g) (hc : ∀ i ∈ zs, i < g.nx) (own : PRow w5 g.cb v5 zs) (gr : w1.grownBy w5 (g.pv (3 * k.n)).ownBlock) (nw : Nw w1 (g.pv (3 * k.n)) v5) :
    w5.cell? ⟨k.OB, 4, none⟩ = some (g.pv (3 * k.n)) ∧ w5.frozen? ⟨k.OB, 4, none⟩ = false ∧ Hid (St k (w5.setCell ⟨k.OB, 4, none⟩ v5) (g.slot (3 * k.n) zs v5)) ∧ Hid (FW k.B w1 (w5.setCell ⟨k.OB, 4, none⟩ v5)) := by
  obtain ⟨c5, l5⟩ := s.list (Nat.le_refl _) gr own nw hc
  refine ⟨c5.c4, c5.of 4, c5.puta _ _ l5, (FW.grown gr (s.ty (Nat.le_refl _)) (s.l.lo.p _ (Nat.le_refl _))).trans (FW.grown (grown_set w5 ⟨k.OB, 4, none⟩ v5) (fun j T e t => ?_) (fun j e => by cases e; exact c5.lo.1))⟩
  cases e
  rw [t.one ⟨_, _, c5.ob⟩]; simp [Wt]

theorem St.watchFW (s : St k w g) {c : Nat} (hc : c < g.nx) (x y : Value) : FW k.B w ((w.setCell ⟨g.cb c, 2, none⟩ x).setCell ⟨g.cb c, 3, none⟩ y) :=
  FW.grown (grown_two (grown_set w ⟨g.cb c, 2, none⟩ x) (grown_set _ ⟨g.cb c, 3, none⟩ y)) (fun j T e t => by cases e; rw [t.one ⟨_, _, s.l.cl c hc⟩]; simp [Wt]) (fun j e => by cases e; exact s.l.lo.c c hc)

/-! ### watch -/
def WatchEnd (k : WK) (g : G) (c a b : Nat) (w w' : World) : Prop := ∃ v1 v2, St k w' (((g.watch c a b).slot a (g.P a ++ [c]) v1).slot b (g.P b ++ [c]) v2) ∧ FW k.B w w'

set_option maxHeartbeats 2000000 in
theorem watch_is (s : St k w g) {c : Nat} (hc : c < g.nx) (hg : g.gn c = false) (a b : Nat) (ha : a < 2 * k.n) (hb : b < 2 * k.n) (hab : a ≠ b) (la : (g.P a).length ≤ 1000000000000) (lb : (g.P b).length ≤ 1000000000000) :
    Calls Tryz.prog 113 #[.pointer (some ⟨k.OB, 0, none⟩), .pointer (some ⟨g.cb c, 0, none⟩), .int .i64 a, .int .i64 b] w fun e w' => e = .returned (.tuple #[]) ∧ WatchEnd k g c a b w w' := by
  obtain ⟨c0, c1, c2, c3, c4⟩ := s.l.ks hc hg
  have f2 := s.l.kf hc 2
  have f3 := s.l.kf hc 3
  have s1 := hid (s.putwatch hc hg a b)
  have F1 := hid (s.watchFW hc (.int .i64 a) (.int .i64 b))
  have hn := s.l.hn
  have ha' : (a : Int) < 2 * k.n := by omega
  have hb' : (b : Int) < 2 * k.n := by omega
  obtain ⟨aa, pa, ea, _⟩ := (s.l.rw a (by omega)).shape
  obtain ⟨ab, pb, eb, _⟩ := (s.l.rw b (by omega)).shape
  clear s c0 c1 c4
  go_enter Tryz.func113, Tryz.ntmps113
  go_upto_region 1 with fail
  revert s1 F1
  generalize ((w.setCell ⟨g.cb c, 2, none⟩ (.int .i64 (a : Int))).setCell ⟨g.cb c, 3, none⟩ (.int .i64 (b : Int))) = w1
  intro s1 F1
  clear c2 c3 f2 f3
  go_cut [] from 14 to 45 (fun wx => ∃ v, Hid (St k wx ((g.watch c a b).slot a (g.P a ++ [c]) v)) ∧ Hid (FW k.B w wx))
  case first =>
    have d2 := s1.out.c2
    have d3 := s1.out.c.wc ha
    have B1 : Below w1.heap.size w1 (w1.alloc (.cells #[.pointer (some ⟨g.cb c, 0, none⟩)] 92)) := by go_grown
    have d2' := (s1.out.below B1).c2
    have d3' := (s1.out.below B1).c.wc ha
    rw [show (g.watch c a b).pv a = g.pv a from rfl, ea] at d3 d3'
    go_region_law (refine step_pone (w1 := w1) (cb := g.cb) rfl _ _ rfl c rfl (g.pv a) (g.P a) ea.symm (s1.out.l.rw a (by omega)) _ rfl (by simp) (by omega) ?_; intro v5 w5 own5 g5 new5; have m5 := s1.out.pushw ha hc own5.out g5.out new5.out; obtain ⟨b6, o6, p6, rfl, q0, q1, q2, s6, F6⟩ := m5; rw [show (g.watch c a b).pv a = g.pv a from rfl, ea] at q1)
    all_goals go_wp2_with fail
    all_goals go_meet
    all_goals exact ⟨_, s6, hid (F1.out.trans F6.out)⟩
  case rest =>
    obtain ⟨v, s7, F7⟩ := hcut
    clear s1 F1
    have d2 := s7.out.c2
    have d3 := s7.out.c.wc hb
    have B1 : Below wc.heap.size wc (wc.alloc (.cells #[.pointer (some ⟨g.cb c, 0, none⟩)] 92)) := by go_grown
    have d2' := (s7.out.below B1).c2
    have d3' := (s7.out.below B1).c.wc hb
    have hpv : ((g.watch c a b).slot a (g.P a ++ [c]) v).pv b = g.pv b := up_ne _ _ (fun e => hab e.symm)
    have hP : ((g.watch c a b).slot a (g.P a ++ [c]) v).P b = g.P b := up_ne _ _ (fun e => hab e.symm)
    rw [hpv, eb] at d3 d3'
    have r7 := s7.out.l.rw b (by omega)
    rw [hpv, hP] at r7
    have HP := hid hP
    have HPV := hid hpv
    have R7 := hid r7
    clear hP hpv r7
    go_wp2
    go_region_law (refine step_pone (w1 := wc) (cb := g.cb) rfl _ _ rfl c rfl (g.pv b) (g.P b) eb.symm R7.out _ rfl (by simp) (by omega) ?_; intro v5 w5 own5 g5 new5; have m5 := push_at s7.out hb hc HP.out HPV.out own5.out g5.out new5.out; obtain ⟨b8, o8, p8, rfl, q0, q1, q2, s8, F8⟩ := m5; rw [eb] at q1)
    all_goals go_wp2
    all_goals go_end0
    all_goals exact ⟨rfl, _, _, s8.out, F7.out.trans F8.out⟩
end

end Go.Proofs.YtimfjoinjfecjaaGreat
