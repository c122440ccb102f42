/-
  lean, lose: clauses come into lists, and go.
  unwatch: a clause watches nothing any more.
  What holds of the watched literals between all calls.
  settle: a clause that waits is looked at.
-/
import Derived.Test.YtimfjoinjfecjaaGreatQ09
import Derived.Test.YtimfjoinjfecjaaGreatQ08
import Derived.Test.YtimfjoinjfecjaaGreatQ03
import Derived.Test.YtimfjoinjfecjaaGreatQ07
import Derived.Test.YtimfjoinjfecjaaGreatQ10

namespace Go.Proofs.YtimfjoinjfecjaaGreat
open Go.RowKit Go.Maps
set_option linter.unusedVariables false

theorem mem_two {nx : Nat} {xs ys : List Nat} (h : ∀ i ∈ xs, i < nx) (h' : ∀ i ∈ ys, i < nx) : ∀ i ∈ xs ++ ys, i < nx := fun i hi => (List.mem_append.1 hi).elim (h i) (h' i)

theorem PRow.one {w : World} {cb : Nat → Nat} {v : Value} {xs : List Nat} {c : Nat} (h : PRow w cb v (xs ++ [c])) : ∃ b o p, v = .slice (some ⟨b, o, none⟩) (xs.length + 1) p := by
  obtain ⟨b, o, p, e, _⟩ := h.filled (by simp)
  exact ⟨b, o, p, by simpa using e⟩

theorem PRow.sum {w : World} {cb : Nat → Nat} {v : Value} {xs ys : List Nat} (h : PRow w cb v (xs ++ ys)) : ∃ ao p, v = .slice ao (xs.length + ys.length) p := by
  obtain ⟨ao, p, e, _⟩ := h.shape
  exact ⟨ao, p, by simpa using e⟩

section
variable {k : WK} {w w1 : World} {g : G}

/-! ### lean -/
theorem lean_is (s : St k w g) {c : Nat} (hc : c < g.nx) (m u : Nat) (hm : m / 2 = u) (hu : u < k.n) (la : (g.P (2 * k.n + u)).length ≤ 1000000000000) :
    Calls Tryz.prog 115 #[.pointer (some ⟨k.OB, 0, none⟩), .pointer (some ⟨g.cb c, 0, none⟩), .int .i64 m] w fun e w' => e = .returned (.tuple #[]) ∧ ∃ v, Hid (St k w' (g.slot (2 * k.n + u) (g.P (2 * k.n + u) ++ [c]) v)) ∧ Hid (FW k.B w w') := by
  have hn := s.l.hn
  have hmu : (m : Int) ≤ 9223372036854775807 := by omega
  have h' : (u : Int) < k.n := by omega
  have HM := hid hm
  have HS := hid s
  have c3 := s.c3
  obtain ⟨aa, pa, ea, _⟩ := (s.l.rw (2 * k.n + u) (by omega)).shape
  clear hm s
  go_enter Tryz.func115, Tryz.ntmps115
  go_wp2
  go_region_with (go_at_call 24; with_reducible (refine (var_nat _ _ HM.out hmu _).mono ?_); rintro e w1 ⟨rfl, b1⟩; have b2 := hid (Below.next (below_drew w) b1); have s1 := hid (HS.out.below b2.out); have c3' := s1.out.c3; have cl := s1.out.c.fl hu; have e0 := ea; rw [ea] at cl)
  all_goals go_wp2_with (at_builtin; refine append_pone (w1 := w1) (cb := g.cb) rfl _ _ rfl c rfl (g.pv (2 * k.n + u)) (g.P (2 * k.n + u)) ea.symm (s1.out.l.rw (2 * k.n + u) (by omega)) _ rfl rfl (by omega) ?_; intro v5 w5 own5 g5 new5; have m5 := s1.out.pushl hu (mem_one (s1.out.l.sub _ (by omega)) hc) own5.out g5.out new5.out; obtain ⟨q1, q2, s6, F6⟩ := m5; rw [ea] at q1; have f5 := own5.out.one; obtain ⟨b6, o6, p6, rfl⟩ := f5)
  all_goals go_end0
  all_goals exact ⟨rfl, _, s6, hid ((FW.below b2.out).trans F6.out)⟩

/-! ### lose -/
def LoseEnd (k : WK) (g : G) (u : Nat) (w w' : World) : Prop := ∃ v1 v2, St k w' ((g.slot (3 * k.n) (g.P (3 * k.n) ++ g.P (2 * k.n + u)) v1).slot (2 * k.n + u) [] v2) ∧ FW k.B w w'

set_option maxHeartbeats 1000000 in
theorem lose_is (s : St k w g) (m u : Nat) (hm : m / 2 = u) (hu : u < k.n) (la : (g.P (3 * k.n)).length + (g.P (2 * k.n + u)).length ≤ 1000000000000) :
    Calls Tryz.prog 75 #[.pointer (some ⟨k.OB, 0, none⟩), .int .i64 m] w fun e w' => e = .returned (.tuple #[]) ∧ LoseEnd k g u w w' := by
  have hn := s.l.hn
  have hmu : (m : Int) ≤ 9223372036854775807 := by omega
  have h' : (u : Int) < k.n := by omega
  have HM := hid hm
  have HS := hid s
  obtain ⟨aa, pa, ea, _⟩ := (s.l.rw (2 * k.n + u) (by omega)).shape
  obtain ⟨ab, pb, eb, _⟩ := (s.l.rw (3 * k.n) (by omega)).shape
  clear hm s
  go_enter Tryz.func75, Tryz.ntmps75
  go_upto_region 1 with (go_at_call 69; with_reducible (refine (has_yes HS.out m u HM.out hu).mono ?_); rintro e w1 ⟨rfl, b1⟩; have s1 := hid (HS.out.below b1); have c3 := s1.out.c3)
  go_cut [4] from 5 to 39 (fun f wx => f = .pointer (some ⟨k.FB, u * 2, none⟩) ∧ Hid (Below w.heap.size w wx))
  case first =>
    go_region_with (go_at_call 24; with_reducible (refine (var_nat _ _ HM.out hmu _).mono ?_); rintro e w2 ⟨rfl, b2⟩; have b3 := hid (Below.next (Below.next b1 (below_drew w1)) b2); have s2 := hid (HS.out.below b3.out); have c3' := s2.out.c3)
    all_goals go_wp2_with fail
    all_goals go_meet
    all_goals exact ⟨rfl, b3⟩
  case rest =>
    obtain ⟨rfl, b3⟩ := hcut
    have s2 := hid (HS.out.below b3.out)
    have c4 := s2.out.c4
    have cl := s2.out.c.fl hu
    rw [eb] at c4
    rw [ea] at cl
    clear s1 c3
    go_upto_region 2 with fail
    go_cut [] from 5 to 39 (fun wx => ∃ v, Hid (St k wx (g.slot (3 * k.n) (g.P (3 * k.n) ++ g.P (2 * k.n + u)) v)) ∧ Hid (FW k.B w wx))
    case first =>
      go_region_law (refine step_pmany (w := wc.drew) (cb := g.cb) rfl _ _ rfl (g.pv (3 * k.n)) (g.P (3 * k.n)) eb.symm (s2.out.drew.l.rw (3 * k.n) (by omega)) (u := g.pv (2 * k.n + u)) (g.P (2 * k.n + u)) ea.symm (s2.out.drew.l.rw (2 * k.n + u) (by omega)) (by omega) ?_; intro v5 w5 own5 g5 new5; have f5 := own5.out.sum; obtain ⟨a5, p5, rfl⟩ := f5; have m5 := St.pusha (w1 := wc.drew) s2.out.drew (mem_two (s2.out.l.sub _ (by omega)) (s2.out.l.sub _ (by omega))) own5.out g5.out new5.out; obtain ⟨q1, q2, s6, F6⟩ := m5; rw [eb] at q1)
      all_goals go_wp2_with fail
      all_goals go_meet
      all_goals exact ⟨_, s6, hid (((FW.below b3.out).trans (FW.below (below_drew _))).trans F6.out)⟩
    case rest =>
      obtain ⟨v, s7, F7⟩ := hcut
      clear c4 cl s2 b3
      have hpv : (g.slot (3 * k.n) (g.P (3 * k.n) ++ g.P (2 * k.n + u)) v).pv (2 * k.n + u) = g.pv (2 * k.n + u) := up_ne _ _ (by omega)
      have hP : (g.slot (3 * k.n) (g.P (3 * k.n) ++ g.P (2 * k.n + u)) v).P (2 * k.n + u) = g.P (2 * k.n + u) := up_ne _ _ (by omega)
      have cl := s7.out.c.fl hu
      have r7 := s7.out.l.rw (2 * k.n + u) (by omega)
      rw [hpv, ea] at cl
      rw [hpv, hP] at r7
      have R7 := hid r7
      have HPV := hid hpv
      have H7 := r7
      clear r7 hpv hP
      rcases H7 with ⟨e1, e2⟩ | ⟨b, off, cap, cur, e1, _⟩
      · have r8 : PRow wc g.cb (.slice none 0 0) [] := .inl ⟨rfl, rfl⟩
        rw [e1] at ea
        have m7 := s7.out.pushl hu (fun i hi => by simp at hi) r8 (by rw [HPV.out, e1]; exact ⟨rfl, rfl, rfl, Nat.le_refl _, fun _ _ _ => rfl⟩) (fun j hj => by simp [Value.ownBlock] at hj)
        obtain ⟨q1, q2, s8, F8⟩ := m7
        rw [← ea] at cl
        have hc0 := run_clear0 wc 0 none 0
        clear q1 e1 ea e2 eb
        go_wp2
        go_end0
        exact ⟨rfl, _, _, s8.out, F7.out.trans F8.out⟩
      · rw [e1] at ea
        have R8 := R7.out
        rw [e1] at R8
        obtain ⟨w8, hc8, r8, g8⟩ := run_pclear wc 0 R8
        have m7 := s7.out.pushl hu (fun i hi => by simp at hi) r8 (by rw [HPV.out, e1]; exact g8) (fun j hj => .inl (by rw [HPV.out, e1]; exact hj))
        obtain ⟨q1, q2, s8, F8⟩ := m7
        rw [← ea] at cl
        rw [HPV.out, e1] at q1
        clear e1 ea eb R8
        go_wp2
        go_end0
        exact ⟨rfl, _, _, s8.out, F7.out.trans F8.out⟩
end

end Go.Proofs.YtimfjoinjfecjaaGreat

namespace Go.Proofs.YtimfjoinjfecjaaGreat
open Go.RowKit Go.Maps
set_option linter.unusedVariables false

theorem nw_same {w : World} {v v' : Value} (h : v'.ownBlock = v.ownBlock) : Nw w v v' := fun j hj => .inl (h ▸ hj)

section
variable {k : WK} {w w1 : World} {g : G}

theorem St.setw {w5 : World} {v5 : Value} {x : Nat} {zs : List Nat} (s : St k w1 g) (hx : x < 2 * k.n) (hz : ∀ i ∈ zs, i < g.nx) (own : PRow w5 g.cb v5 zs) (gr : w1.grownBy w5 (g.pv x).ownBlock) (nw : Nw w1 (g.pv x) v5) :
    w5.cell? ⟨k.OB, 2, none⟩ = some (.slice (some ⟨k.WB, 0, none⟩) (2 * k.n) (2 * k.n)) ∧ w5.cell? ⟨k.WB, x, none⟩ = some (g.pv x) ∧ w5.frozen? ⟨k.WB, x, none⟩ = false ∧ Hid (St k (w5.setCell ⟨k.WB, x, none⟩ v5) (g.slot x zs v5)) ∧ Hid (FW k.B w1 (w5.setCell ⟨k.WB, x, none⟩ v5)) := by
  have hs : x ≤ 3 * k.n := by omega
  obtain ⟨c5, l5⟩ := s.list hs gr own nw hz
  refine ⟨c5.c2, c5.wc hx, c5.wf x, c5.putw hx _ _ l5, (FW.grown gr (s.ty hs) (s.l.lo.p _ hs)).trans (FW.grown (grown_set w5 ⟨k.WB, x, none⟩ v5) (fun j T e t => ?_) (fun j e => by cases e; exact c5.lo.2.1))⟩
  cases e
  obtain ⟨cc, q1, _⟩ := c5.wb
  rw [t.one ⟨_, _, q1⟩]; simp [Wt]

theorem out_sub {q : Nat → Bool} {xs : List Nat} {nx : Nat} (h : ∀ i ∈ xs, i < nx) : ∀ i ∈ outF q xs, i < nx := fun i hi => h i (List.mem_filter.1 hi).1

theorem del_is (s : St k w g) {c : Nat} (hc : c < g.nx) (bx : Nat) (hbx : w.cell? ⟨bx, 0, none⟩ = some (.pointer (some ⟨g.cb c, 0, none⟩))) {x : Nat} (hx : x ≤ 3 * k.n) (hb : (g.pv x).ownBlock ≠ some bx) {ao : Option Addr} {n cap : Nat} (ev : g.pv x = .slice ao n cap) :
    Calls Tryz.prog 132 #[.slice ao n cap, .func (.func 139) #[] #[.pointer (some ⟨bx, 0, none⟩)]] w fun e w' => ∃ ao' n' cap', e = .returned (.slice ao' n' cap') ∧ Hid (PRow w' g.cb (.slice ao' n' cap') (outF (fun i => i == c) (g.P x))) ∧ Hid (w.grownBy w' (g.pv x).ownBlock) ∧ Hid ((Value.slice ao' n' cap').ownBlock = (g.pv x).ownBlock) := by
  have own := s.l.rw x hx
  rw [ev] at own
  refine (deleteI (q := fun i => i == c) w bx own ?_).mono ?_
  · intro wr gr i hi
    rw [← ev] at gr
    have hlt := s.l.sub x hx i hi
    have ty := s.ty hx
    have key : ∀ j T, Typ w j T → T ≠ 92 → wr.heap[j]? = w.heap[j]? := fun j T t hne => gr.block j t.lt (fun e => hne (t.one ((s.l.rw x hx).typ e.symm)))
    have h1 := s.l.cl i hlt
    have h2 := s.l.cl c hc
    have e1 : wr.cell? ⟨bx, 0, none⟩ = some (.pointer (some ⟨g.cb c, 0, none⟩)) := by
      rw [← hbx]
      exact World.cell?_of_block (gr.block bx (cell_lt hbx) (fun e => hb e.symm))
    have := isF_is wr bx (g.cb i) (g.cb c) e1 (by rw [key _ 97 ⟨_, _, h1⟩ (by decide)]; exact h1) (by rw [key _ 97 ⟨_, _, h2⟩ (by decide)]; exact h2)
    have e2 : (g.cb i == g.cb c) = (i == c) := by
      by_cases e : i = c
      · subst e; rw [beq_self_eq_true, beq_self_eq_true]
      · have : g.cb i ≠ g.cb c := fun q => e (s.l.inj i c hlt hc q)
        rw [beq_eq_false_iff_ne.2 this, beq_eq_false_iff_ne.2 e]
    rw [e2] at this
    exact this
  · rintro e w' ⟨v', rfl, h1, h2, h3⟩
    obtain ⟨a', p', e, _⟩ := h1.shape
    subst e
    rw [← ev] at h2 h3
    exact ⟨_, _, _, rfl, h1, h2, h3⟩

theorem unwatch_none (s : St k w g) {c : Nat} (hc : c < g.nx) (hg : g.gn c = false) (ha : g.a c = -1) : Calls Tryz.prog 111 #[.pointer (some ⟨k.OB, 0, none⟩), .pointer (some ⟨g.cb c, 0, none⟩)] w fun e w' => e = .returned (.tuple #[]) ∧ Hid (Below w.heap.size w w') := by
  have B1 : Below w.heap.size w (w.alloc (.cells #[.pointer (some ⟨g.cb c, 0, none⟩)] 92)) := by go_grown
  obtain ⟨c0, c1, c2, c3, c4⟩ := (s.below B1).l.ks hc hg
  rw [ha] at c2
  clear s
  go_enter Tryz.func111, Tryz.ntmps111
  go_wp2
  refine bodyPost_ret (results_none rfl _ _ _) rfl ?_
  exact ⟨rfl, B1⟩

theorem index86a (x y : Value) (w : World) : (Instr.index 95 (.agg #[x, y]) (.int .i64 0)).run Tryz.prog w = .ok x w := by kernel_rfl
theorem index86b (x y : Value) (w : World) : (Instr.index 95 (.agg #[x, y]) (.int .i64 1)).run Tryz.prog w = .ok y w := by kernel_rfl

theorem box_keep {W w5 : World} {B b x : Nat} {r : Option Nat} {v v5 : Value} (h : W.cell? ⟨B, 0, none⟩ = some v) (gr : W.grownBy w5 r) (hr : r ≠ some B) (hb : b ≠ B) : (w5.setCell ⟨b, x, none⟩ v5).cell? ⟨B, 0, none⟩ = some v := by
  have g2 := grown_set w5 ⟨b, x, none⟩ v5
  have hlt := cell_lt h
  rw [World.cell?_of_block (a := ⟨B, 0, none⟩) (g2.block B (Nat.lt_of_lt_of_le hlt gr.size) (fun e => hb (Option.some.inj e).symm)), World.cell?_of_block (a := ⟨B, 0, none⟩) (gr.block B hlt (fun e => hr e.symm))]
  exact h

/-- What two rounds do. -/
def UW (g : G) (c a b q : Nat) (g1 : G) : Prop :=
  (q = 0 ∧ g1 = g) ∨ (q = 1 ∧ ∃ v : Value, v.ownBlock = (g.pv a).ownBlock ∧ g1 = g.slot a (outF (fun i => i == c) (g.P a)) v) ∨
  (q = 2 ∧ ∃ v v' : Value, g1 = (g.slot a (outF (fun i => i == c) (g.P a)) v).slot b (outF (fun i => i == c) (g.P b)) v')

def UnwEnd (k : WK) (g : G) (c a b : Nat) (w w' : World) : Prop := ∃ v1 v2, St k w' (((g.slot a (outF (fun i => i == c) (g.P a)) v1).slot b (outF (fun i => i == c) (g.P b)) v2).watch c (-1) (-1)) ∧ FW k.B w w'

theorem UW.at {g g1 : G} {c a b q : Nat} (h : UW g c a b q g1) : g1.cb = g.cb ∧ g1.nx = g.nx ∧ g1.gn = g.gn := by
  rcases h with ⟨_, rfl⟩ | ⟨_, v, _, rfl⟩ | ⟨_, v, v', rfl⟩ <;> exact ⟨rfl, rfl, rfl⟩

set_option maxHeartbeats 2000000 in
theorem unwatch_is (s : St k w g) {c : Nat} (hc : c < g.nx) (hg : g.gn c = false) (a b : Nat) (ea : g.a c = a) (eb : g.b c = b) (ha : a < 2 * k.n) (hb : b < 2 * k.n) (hab : a ≠ b) :
    Calls Tryz.prog 111 #[.pointer (some ⟨k.OB, 0, none⟩), .pointer (some ⟨g.cb c, 0, none⟩)] w fun e w' => e = .returned (.tuple #[]) ∧ UnwEnd k g c a b w w' := by
  have B1 : Below w.heap.size w (w.alloc (.cells #[.pointer (some ⟨g.cb c, 0, none⟩)] 92)) := by go_grown
  obtain ⟨c0, c1, c2, c3, c4⟩ := (s.below B1).l.ks hc hg
  rw [ea] at c2
  rw [eb] at c3
  have bx : (w.alloc (.cells #[.pointer (some ⟨g.cb c, 0, none⟩)] 92)).cell? ⟨w.heap.size, 0, none⟩ = some (.pointer (some ⟨g.cb c, 0, none⟩)) := by rw [cell_of (new_same w _)]; rfl
  have hn := s.l.hn
  have ha0 : ((a : Int) == -1) = false := beq_eq_false_iff_ne.2 (by omega)
  have HS := hid (s.below B1)
  have lta : ∀ j, (g.pv a).ownBlock = some j → j < w.heap.size := fun j e => (s.l.rw a (by omega)).lt e
  have ltb : ∀ j, (g.pv b).ownBlock = some j → j < w.heap.size := fun j e => (s.l.rw b (by omega)).lt e
  have HLA := hid lta
  have HLB := hid ltb
  have HB1 := hid B1
  have HWB : Hid (k.WB ≠ w.heap.size) := hid (by obtain ⟨cc, q1, _⟩ := s.c.wb; have := blk_lt q1; omega)
  have ha' : (a : Int) < 2 * k.n := by omega
  have hb' : (b : Int) < 2 * k.n := by omega
  clear s c0 c1 c4 lta ltb
  go_enter Tryz.func111, Tryz.ntmps111
  go_wp2
  go_loopw [6, 18] (fun _ i wr => ∃ (q : Nat) (g1 : G), i = .int .i64 q ∧ q ≤ 2 ∧ Hid (UW g c a b q g1) ∧ Hid (St k wr g1) ∧ Hid (FW k.B w wr) ∧ wr.cell? ⟨w.heap.size, 0, none⟩ = some (.pointer (some ⟨g.cb c, 0, none⟩))) (fun _ i _ => 2 - (intOf i).toNat)
  case atStart => exact ⟨0, g, rfl, by omega, hid (.inl ⟨rfl, rfl⟩), HS, hid (FW.below HB1.out), bx⟩
  case round =>
    clear bx c2 c3 HS
    obtain ⟨q, g1, rfl, hq, huw, hs, hfw, hbx⟩ := hrel
    by_cases h0 : q = 0
    · subst h0
      have e1 : g1 = g := by rcases huw.out with ⟨_, h⟩ | ⟨h, _⟩ | ⟨h, _⟩ <;> first | exact h | omega
      subst e1
      obtain ⟨aa, pa, eva, _⟩ := (hs.out.l.rw a (by omega)).shape
      have d2 := hs.out.c2
      have d3 := hs.out.c.wc ha
      rw [eva] at d3
      rw [show ((0 : Nat) : Int) = 0 from rfl]
      have ix := index86a (.int .i64 a) (.int .i64 b)
      have hbn : (g1.pv a).ownBlock ≠ some w.heap.size := fun e => by have := HLA.out _ e; omega
      have HBN := hid hbn
      clear huw hq hbn
      have hbx' : wr.drew.cell? ⟨w.heap.size, 0, none⟩ = some (.pointer (some ⟨g1.cb c, 0, none⟩)) := hbx
      have HX := hid hbx'
      have ha3 : a ≤ 3 * k.n := by omega
      go_wp2
      go_region_with (go_at_call 132; with_reducible (refine (del_is hs.out.drew hc _ HX.out ha3 HBN.out eva).mono ?_); rintro e w5 ⟨a5, n5, p5, rfl, own5, g5, o5⟩; have m5 := hs.out.drew.setw ha (out_sub (hs.out.l.sub a ha3)) own5.out g5.out (nw_same o5.out); obtain ⟨q0, q1, q2, s6, F6⟩ := m5; rw [eva] at q1)
      all_goals go_wp2
      all_goals go_roundw
      all_goals first
        | exact ⟨1, _, rfl, by omega, hid (.inr (.inl ⟨rfl, _, o5.out, rfl⟩)), s6, hid ((hfw.out.trans (FW.below (below_drew _))).trans F6.out), box_keep HX.out g5.out HBN.out HWB.out⟩
        | (simp [intOf])
    · by_cases h1 : q = 1
      · subst h1
        have huw' := huw.out
        have e1 : ∃ v : Value, v.ownBlock = (g.pv a).ownBlock ∧ g1 = g.slot a (outF (fun i => i == c) (g.P a)) v := by
          rcases huw' with ⟨h, _⟩ | ⟨_, h⟩ | ⟨h, _⟩
          · omega
          · exact h
          · omega
        obtain ⟨v, hv, rfl⟩ := e1
        have hpv : (g.slot a (outF (fun i => i == c) (g.P a)) v).pv b = g.pv b := up_ne _ _ (fun e => hab e.symm)
        have hP : (g.slot a (outF (fun i => i == c) (g.P a)) v).P b = g.P b := up_ne _ _ (fun e => hab e.symm)
        obtain ⟨ab, pb, evb, _⟩ := (hs.out.l.rw b (by omega)).shape
        have d2 := hs.out.c2
        have d3 := hs.out.c.wc hb
        rw [evb] at d3
        rw [show ((1 : Nat) : Int) = 1 from rfl]
        have ix := index86b (.int .i64 a) (.int .i64 b)
        have hbn : ((g.slot a (outF (fun i => i == c) (g.P a)) v).pv b).ownBlock ≠ some w.heap.size := fun e => by rw [hpv] at e; have := HLB.out _ e; omega
        have HBN := hid hbn
        have hbx' : wr.drew.cell? ⟨w.heap.size, 0, none⟩ = some (.pointer (some ⟨g.cb c, 0, none⟩)) := hbx
        have HX := hid hbx'
        have hb3 : b ≤ 3 * k.n := by omega
        have HP := hid hP
        have HC : Hid (c < (g.slot a (outF (fun i => i == c) (g.P a)) v).nx) := hid hc
        clear huw hq hbn hpv hP huw' h0
        go_wp2
        go_region_with (go_at_call 132; with_reducible (refine (del_is hs.out.drew HC.out _ HX.out hb3 HBN.out evb).mono ?_); rintro e w5 ⟨a5, n5, p5, rfl, own5, g5, o5⟩; have m5 := hs.out.drew.setw hb (out_sub (hs.out.l.sub b hb3)) own5.out g5.out (nw_same o5.out); obtain ⟨q0, q1, q2, s6, F6⟩ := m5; rw [evb] at q1)
        all_goals go_wp2
        all_goals go_roundw
        all_goals first
          | exact ⟨2, _, rfl, by omega, hid (.inr (.inr ⟨rfl, _, _, by rw [HP.out]⟩)), s6, hid ((hfw.out.trans (FW.below (below_drew _))).trans F6.out), box_keep HX.out g5.out HBN.out HWB.out⟩
          | (simp [intOf])
      · have hq2 : q = 2 := by omega
        subst hq2
        have huw' := huw.out
        have e1 : ∃ v v' : Value, g1 = (g.slot a (outF (fun i => i == c) (g.P a)) v).slot b (outF (fun i => i == c) (g.P b)) v' := by
          rcases huw' with ⟨h, _⟩ | ⟨h, _⟩ | ⟨_, h⟩
          · omega
          · omega
          · exact h
        obtain ⟨v, v', rfl⟩ := e1
        obtain ⟨k0, k1, k2, k3, k4⟩ := hs.out.l.ks (i := c) hc hg
        have k2' : wr.cell? ⟨g.cb c, 2, none⟩ = some (.int .i64 (g.a c)) := k2
        have k3' : wr.cell? ⟨g.cb c, 3, none⟩ = some (.int .i64 (g.b c)) := k3
        have f2 : wr.frozen? ⟨g.cb c, 2, none⟩ = false := hs.out.l.kf (i := c) hc 2
        have f3 : wr.frozen? ⟨g.cb c, 3, none⟩ = false := hs.out.l.kf (i := c) hc 3
        have s9 : Hid (St k ((wr.setCell ⟨g.cb c, 2, none⟩ (.int .i64 (-1))).setCell ⟨g.cb c, 3, none⟩ (.int .i64 (-1))) (((g.slot a (outF (fun i => i == c) (g.P a)) v).slot b (outF (fun i => i == c) (g.P b)) v').watch c (-1) (-1))) := hid (hs.out.putwatch (i := c) hc hg (-1) (-1))
        have F9 : Hid (FW k.B wr ((wr.setCell ⟨g.cb c, 2, none⟩ (.int .i64 (-1))).setCell ⟨g.cb c, 3, none⟩ (.int .i64 (-1)))) := hid (hs.out.watchFW (c := c) hc (.int .i64 (-1)) (.int .i64 (-1)))
        clear k0 k1 k2 k3 k4
        rw [show ((2 : Nat) : Int) = 2 from rfl]
        clear huw hq huw' h0 h1
        go_wp2
        go_end0
        exact ⟨rfl, v, v', s9.out, hfw.out.trans F9.out⟩

end

end Go.Proofs.YtimfjoinjfecjaaGreat

namespace Go.Proofs.YtimfjoinjfecjaaGreat
open Go.RowKit Go.Maps
set_option linter.unusedVariables false

/-- The variable of a literal. -/
def vl (x : Int) : Nat := x.toNat / 2

theorem vl_not {x : Int} (h : 0 ≤ x) : vl (U.notF x) = vl x := by
  unfold vl U.notF
  rw [if_neg (by omega)]
  split <;> omega

/-! ### Values -/
def ND (L : List E) : Prop := (L.map vr).Nodup

theorem Trl.nd {k : K} {w : World} {L : List E} {lev : Nat} {p : V} (t : Trl k w L lev p) : ND L := by obtain ⟨F, S, s, g, _⟩ := t; exact g.nd
theorem Trl.lits_lt {k : K} {w : World} {L : List E} {lev : Nat} {p : V} (t : Trl k w L lev p) : ∀ e ∈ L, vr e < k.n := by obtain ⟨F, S, s, g, _⟩ := t; exact g.lt

theorem lits_at {L : List E} {q : Nat} {x : Int} : (litsF L)[q]? = some x ↔ ∃ e, L[q]? = some e ∧ (e.l : Int) = x := by
  simp [litsF]

theorem nd_one {L : List E} (h : ND L) {q r : Nat} {a b : E} (ha : L[q]? = some a) (hb : L[r]? = some b) (e : vr a = vr b) : q = r := by
  have h1 : (L.map vr)[q]? = some (vr a) := by simp [ha]
  have h2 : (L.map vr)[r]? = some (vr a) := by simp [hb, e]
  have hq := (List.getElem?_eq_some_iff.1 h1).1
  exact (List.getElem?_inj hq h).1 (h1.trans h2.symm)

theorem at_of {L : List E} (h : ND L) {q : Nat} {e : E} (he : L[q]? = some e) : atF L (vr e : Int) = some e := by
  cases ha : atF L (vr e : Int) with
  | none => exact absurd rfl (at_none.1 ha e (List.mem_of_getElem? he))
  | some e' =>
    obtain ⟨h1, h2⟩ := at_some ha
    obtain ⟨r, hr⟩ := List.mem_iff_getElem?.1 h1
    have := nd_one h he hr (by omega)
    subst this
    rw [he] at hr; exact hr.symm

theorem val_pos {L : List E} (h : ND L) {q : Nat} {x : Int} (hx : (litsF L)[q]? = some x) : valueF L x = 1 := by
  obtain ⟨e, he, rfl⟩ := lits_at.1 hx
  have h2 : (e.l : Int) / 2 = ((vr e : Nat) : Int) := by unfold vr; omega
  unfold valueF
  rw [if_neg (by omega), h2, at_of h he]
  simp

theorem val_not {L : List E} (h : ND L) {q : Nat} {x : Int} (x0 : 0 ≤ x) (hx : (litsF L)[q]? = some (U.notF x)) : valueF L x = -1 := by
  obtain ⟨e, he, h1⟩ := lits_at.1 hx
  have hne := U.not_ne x0
  have h2 : x / 2 = ((vr e : Nat) : Int) := by
    unfold U.notF at h1
    rw [if_neg (by omega)] at h1
    unfold vr
    split at h1 <;> omega
  unfold valueF
  rw [if_neg (by omega), h2, at_of h he]
  simp only
  rw [if_neg (by rw [h1]; exact hne)]

theorem val_cases {L : List E} (x : Int) : (valueF L x = 0) ∨ (valueF L x = 1 ∧ 0 ≤ x ∧ ∃ q : Nat, (litsF L)[q]? = some x) ∨ (valueF L x = -1 ∧ 0 ≤ x ∧ ∃ q : Nat, (litsF L)[q]? = some (U.notF x)) := by
  unfold valueF
  by_cases h0 : x < 0
  · rw [if_pos h0]; exact .inl rfl
  · rw [if_neg h0]
    cases ha : atF L (x / 2) with
    | none => exact .inl rfl
    | some e =>
      obtain ⟨h1, h2⟩ := at_some ha
      obtain ⟨q, hq⟩ := List.mem_iff_getElem?.1 h1
      simp only
      by_cases h3 : (e.l : Int) = x
      · rw [if_pos h3]
        exact .inr (.inl ⟨rfl, by omega, q, lits_at.2 ⟨e, hq, h3⟩⟩)
      · rw [if_neg h3]
        refine .inr (.inr ⟨rfl, by omega, q, lits_at.2 ⟨e, hq, ?_⟩⟩)
        unfold U.notF
        rw [if_neg (by omega)]
        unfold vr at h2
        split <;> omega

theorem val_one {L : List E} {x : Int} (h : valueF L x = 1) : 0 ≤ x ∧ ∃ q : Nat, (litsF L)[q]? = some x := by
  rcases val_cases (L := L) x with h1 | ⟨_, h1⟩ | ⟨h1, _⟩
  · omega
  · exact h1
  · omega

theorem val_neg {L : List E} {x : Int} (h : valueF L x < 0) : valueF L x = -1 ∧ 0 ≤ x ∧ ∃ q : Nat, (litsF L)[q]? = some (U.notF x) := by
  rcases val_cases (L := L) x with h1 | ⟨h1, _⟩ | h1
  · omega
  · omega
  · exact h1

theorem val_may {L : List E} (h : ND L) {x : Int} (x0 : 0 ≤ x) (hv : 0 ≤ valueF L x) (q : Nat) : (litsF L)[q]? ≠ some (U.notF x) := by
  intro c
  have := val_not h x0 c
  omega

theorem both_no {L : List E} (h : ND L) {q r : Nat} {x : Int} (x0 : 0 ≤ x) (hx : (litsF L)[q]? = some x) (hn : (litsF L)[r]? = some (U.notF x)) : False := by
  have h1 := val_pos h hx
  have h2 := val_not h x0 hn
  omega

theorem at_inj {L : List E} (h : ND L) {q r : Nat} {x : Int} (hx : (litsF L)[q]? = some x) (hy : (litsF L)[r]? = some x) : q = r := by
  obtain ⟨e, he, h1⟩ := lits_at.1 hx
  obtain ⟨e', he', h2⟩ := lits_at.1 hy
  exact nd_one h he he' (by unfold vr; omega)

/-! ### The watched literals -/
/-- If a does not hold, and the clause was told so, b holds, and has since ahead of that, or the clause leans on it. -/
def Hf (n : Nat) (P : Nat → List Nat) (H : List Int) (d i : Nat) (a b : Int) : Prop := ∀ q : Nat, q < d → H[q]? = some (U.notF a) → ∃ r : Nat, H[r]? = some b ∧ (r ≤ q ∨ i ∈ P (2 * n + vl b))

def OkAt (n : Nat) (g : G) (H : List Int) (d i : Nat) : Prop :=
  (g.a i = -1 ∧ ∃ x ∈ g.lt i, ∃ q : Nat, H[q]? = some x ∧ i ∈ g.P (2 * n + vl x)) ∨ (g.a i ≠ -1 ∧ Hf n g.P H d i (g.a i) (g.b i) ∧ Hf n g.P H d i (g.b i) (g.a i))

def WtOk (g : G) (i : Nat) : Prop := (g.a i = -1 ∧ g.b i = -1) ∨ (0 ≤ g.a i ∧ 0 ≤ g.b i ∧ g.a i ≠ g.b i ∧ g.a i ∈ g.lt i ∧ g.b i ∈ g.lt i ∧ i ∈ g.P (g.a i).toNat ∧ i ∈ g.P (g.b i).toNat)

structure Inv (n : Nat) (g : G) (H : List Int) (d : Nat → Nat) (X : Nat → Prop) : Prop where
  rg : ∀ i, i < g.nx → g.gn i = false → ∀ x ∈ g.lt i, 0 ≤ x ∧ x < 2 * n
  fr : ∀ i, i < g.nx → g.gn i = false → g.fr i < (g.lt i).length ∨ g.lt i = []
  wt : ∀ i, i < g.nx → g.gn i = false → WtOk g i
  sd : ∀ l, l < 2 * n → ∀ i ∈ g.P l, g.gn i = false → g.a i = l ∨ g.b i = l
  nd : ∀ l, l < 2 * n → (g.P l).Nodup
  pl : ∀ (q : Nat) (x : Int), H[q]? = some x → g.pl (vl x) = q
  ok : ∀ i, i < g.nx → g.gn i = false → X i ∨ OkAt n g H (d i) i

section
variable {n : Nat} {g : G} {H : List Int} {d : Nat → Nat} {X : Nat → Prop}

theorem Hf.less {P : Nat → List Nat} {d d' i : Nat} {a b : Int} (h : Hf n P H d i a b) (hd : d' ≤ d) : Hf n P H d' i a b := fun q hq => h q (by omega)
theorem OkAt.less {d d' i : Nat} (h : OkAt n g H d i) (hd : d' ≤ d) : OkAt n g H d' i := by
  rcases h with h | ⟨h1, h2, h3⟩
  · exact .inl h
  · exact .inr ⟨h1, h2.less hd, h3.less hd⟩

theorem Inv.mono {d' : Nat → Nat} {X' : Nat → Prop} (h : Inv n g H d X) (hd : ∀ i, d' i ≤ d i) (hX : ∀ i, X i → X' i) : Inv n g H d' X' :=
  ⟨h.rg, h.fr, h.wt, h.sd, h.nd, h.pl, fun i hi hg => (h.ok i hi hg).elim (fun c => .inl (hX i c)) (fun c => .inr (c.less (hd i)))⟩

theorem Inv.off {X' : Nat → Prop} (h : Inv n g H d X) (hX : ∀ i, i < g.nx → g.gn i = false → X i → X' i ∨ OkAt n g H (d i) i) : Inv n g H d X' :=
  ⟨h.rg, h.fr, h.wt, h.sd, h.nd, h.pl, fun i hi hg => (h.ok i hi hg).elim (fun c => hX i hi hg c) .inr⟩

/-- A list that only holds other clauses, or more of those that lean, changes nothing of a clause. -/
theorem OkAt.as {g' : G} {d i : Nat} (h : OkAt n g H d i) (ea : g'.a i = g.a i) (eb : g'.b i = g.b i) (el : g'.lt i = g.lt i) (hP : ∀ v, i ∈ g.P (2 * n + v) → i ∈ g'.P (2 * n + v)) : OkAt n g' H d i := by
  unfold OkAt Hf at *
  rw [ea, eb, el]
  rcases h with ⟨h1, x, hx, q, hq, hp⟩ | ⟨h1, h2, h3⟩
  · exact .inl ⟨h1, x, hx, q, hq, hP _ hp⟩
  · refine .inr ⟨h1, fun q hq e => ?_, fun q hq e => ?_⟩
    · obtain ⟨r, r1, r2⟩ := h2 q hq e
      exact ⟨r, r1, r2.elim .inl (fun c => .inr (hP _ c))⟩
    · obtain ⟨r, r1, r2⟩ := h3 q hq e
      exact ⟨r, r1, r2.elim .inl (fun c => .inr (hP _ c))⟩

theorem mem_out {c i : Nat} {xs : List Nat} : i ∈ outF (fun j => j == c) xs ↔ i ∈ xs ∧ i ≠ c := by simp [outF]

/-- It watches nothing any more. -/
theorem Inv.unw (h : Inv n g H d X) {c a b : Nat} (hc : c < g.nx) (hg : g.gn c = false) (ea : g.a c = a) (eb : g.b c = b) (ha : a < 2 * n) (hb : b < 2 * n) (hab : a ≠ b) (v1 v2 : Value) :
    Inv n (((g.slot a (outF (fun i => i == c) (g.P a)) v1).slot b (outF (fun i => i == c) (g.P b)) v2).watch c (-1) (-1)) H d (fun i => X i ∨ i = c) := by
  have hPa : ∀ l, l ≠ a → l ≠ b → (((g.slot a (outF (fun i => i == c) (g.P a)) v1).slot b (outF (fun i => i == c) (g.P b)) v2).watch c (-1) (-1)).P l = g.P l := fun l h1 h2 => by
    show up (up g.P a _) b _ l = _; rw [up_ne _ _ h2, up_ne _ _ h1]
  have hPaa : (((g.slot a (outF (fun i => i == c) (g.P a)) v1).slot b (outF (fun i => i == c) (g.P b)) v2).watch c (-1) (-1)).P a = outF (fun i => i == c) (g.P a) := by
    show up (up g.P a _) b _ a = _; rw [up_ne _ _ hab, up_same]
  have hPbb : (((g.slot a (outF (fun i => i == c) (g.P a)) v1).slot b (outF (fun i => i == c) (g.P b)) v2).watch c (-1) (-1)).P b = outF (fun i => i == c) (g.P b) := by
    show up (up g.P a _) b _ b = _; rw [up_same]
  have hmem : ∀ l i, i ≠ c → (i ∈ (((g.slot a (outF (fun i => i == c) (g.P a)) v1).slot b (outF (fun i => i == c) (g.P b)) v2).watch c (-1) (-1)).P l ↔ i ∈ g.P l) := fun l i hi => by
    by_cases e1 : l = a
    · subst e1; rw [hPaa, mem_out]; simp [hi]
    · by_cases e2 : l = b
      · subst e2; rw [hPbb, mem_out]; simp [hi]
      · rw [hPa l e1 e2]
  have hA : ∀ i, i ≠ c → (((g.slot a (outF (fun i => i == c) (g.P a)) v1).slot b (outF (fun i => i == c) (g.P b)) v2).watch c (-1) (-1)).a i = g.a i := fun i hi => up_ne _ _ hi
  have hB : ∀ i, i ≠ c → (((g.slot a (outF (fun i => i == c) (g.P a)) v1).slot b (outF (fun i => i == c) (g.P b)) v2).watch c (-1) (-1)).b i = g.b i := fun i hi => up_ne _ _ hi
  refine ⟨h.rg, h.fr, fun i hi hgi => ?_, fun l hl i hi hgi => ?_, fun l hl => ?_, h.pl, fun i hi hgi => ?_⟩
  · by_cases e : i = c
    · subst e
      exact .inl ⟨up_same _ _ _, up_same _ _ _⟩
    · unfold WtOk
      rw [hA i e, hB i e, hmem _ i e, hmem _ i e]
      exact h.wt i hi hgi
  · by_cases e : i = c
    · subst e
      exfalso
      by_cases e1 : l = a
      · subst e1; rw [hPaa, mem_out] at hi; exact hi.2 rfl
      · by_cases e2 : l = b
        · subst e2; rw [hPbb, mem_out] at hi; exact hi.2 rfl
        · rw [hPa l e1 e2] at hi
          rcases h.sd l hl i hi hg with q | q
          · rw [ea] at q; omega
          · rw [eb] at q; omega
    · rw [hA i e, hB i e]
      exact h.sd l hl i ((hmem l i e).1 hi) hgi
  · by_cases e1 : l = a
    · subst e1; rw [hPaa]; exact (h.nd l hl).filter _
    · by_cases e2 : l = b
      · subst e2; rw [hPbb]; exact (h.nd l hl).filter _
      · rw [hPa l e1 e2]; exact h.nd l hl
  · by_cases e : i = c
    · exact .inl (.inr e)
    · rcases h.ok i hi hgi with q | q
      · exact .inl (.inl q)
      · exact .inr (q.as (hA i e) (hB i e) rfl (fun v hv => (hmem _ i e).2 hv))

/-- It watches two literals that hold, or may. -/
theorem Inv.wat {L : List E} {c : Nat} (h : Inv n g (litsF L) d (fun i => X i ∨ i = c)) (hnd : ND L) {a b : Nat} (hc : c < g.nx) (hg : g.gn c = false) (ea : g.a c = -1) (ha : (a : Int) ∈ g.lt c) (hb : (b : Int) ∈ g.lt c) (hab : a ≠ b) (va : 0 ≤ valueF L a) (vb : 0 ≤ valueF L b) (v1 v2 : Value) :
    Inv n (((g.watch c a b).slot a (g.P a ++ [c]) v1).slot b (g.P b ++ [c]) v2) (litsF L) d (fun i => X i ∧ i ≠ c) := by
  have ra := h.rg c hc hg a ha
  have rb := h.rg c hc hg b hb
  have hno : ∀ l, l < 2 * n → c ∉ g.P l := fun l hl hm => by
    have hbb : g.b c = -1 := by
      rcases h.wt c hc hg with q | q
      · exact q.2
      · rw [ea] at q; omega
    rcases h.sd l hl c hm hg with q | q
    · rw [ea] at q; omega
    · rw [hbb] at q; omega
  have hPa : ∀ l, l ≠ a → l ≠ b → (((g.watch c a b).slot a (g.P a ++ [c]) v1).slot b (g.P b ++ [c]) v2).P l = g.P l := fun l h1 h2 => by
    show up (up g.P a _) b _ l = _; rw [up_ne _ _ h2, up_ne _ _ h1]
  have hPaa : (((g.watch c a b).slot a (g.P a ++ [c]) v1).slot b (g.P b ++ [c]) v2).P a = g.P a ++ [c] := by
    show up (up g.P a _) b _ a = _; rw [up_ne _ _ hab, up_same]
  have hPbb : (((g.watch c a b).slot a (g.P a ++ [c]) v1).slot b (g.P b ++ [c]) v2).P b = g.P b ++ [c] := by
    show up (up g.P a _) b _ b = _; rw [up_same]
  have hmem : ∀ l i, i ≠ c → (i ∈ (((g.watch c a b).slot a (g.P a ++ [c]) v1).slot b (g.P b ++ [c]) v2).P l ↔ i ∈ g.P l) := fun l i hi => by
    by_cases e1 : l = a
    · subst e1; rw [hPaa]; simp [hi]
    · by_cases e2 : l = b
      · subst e2; rw [hPbb]; simp [hi]
      · rw [hPa l e1 e2]
  have hA : ∀ i, i ≠ c → (((g.watch c a b).slot a (g.P a ++ [c]) v1).slot b (g.P b ++ [c]) v2).a i = g.a i := fun i hi => up_ne _ _ hi
  have hB : ∀ i, i ≠ c → (((g.watch c a b).slot a (g.P a ++ [c]) v1).slot b (g.P b ++ [c]) v2).b i = g.b i := fun i hi => up_ne _ _ hi
  have hAc : (((g.watch c a b).slot a (g.P a ++ [c]) v1).slot b (g.P b ++ [c]) v2).a c = a := up_same _ _ _
  have hBc : (((g.watch c a b).slot a (g.P a ++ [c]) v1).slot b (g.P b ++ [c]) v2).b c = b := up_same _ _ _
  refine ⟨h.rg, h.fr, fun i hi hgi => ?_, fun l hl i hi hgi => ?_, fun l hl => ?_, h.pl, fun i hi hgi => ?_⟩
  · by_cases e : i = c
    · subst e
      unfold WtOk
      rw [hAc, hBc]
      refine .inr ⟨by omega, by omega, by omega, ha, hb, ?_, ?_⟩
      · rw [Int.toNat_natCast, hPaa]; simp
      · rw [Int.toNat_natCast, hPbb]; simp
    · unfold WtOk
      rw [hA i e, hB i e, hmem _ i e, hmem _ i e]
      exact h.wt i hi hgi
  · by_cases e : i = c
    · subst e
      rw [hAc, hBc]
      by_cases e1 : l = a
      · exact .inl (by omega)
      · by_cases e2 : l = b
        · exact .inr (by omega)
        · rw [hPa l e1 e2] at hi
          exact absurd hi (hno l hl)
    · rw [hA i e, hB i e]
      exact h.sd l hl i ((hmem l i e).1 hi) hgi
  · by_cases e1 : l = a
    · subst e1; rw [hPaa]
      exact List.nodup_append.2 ⟨h.nd l hl, by simp, fun x hx y hy => by rw [List.mem_singleton] at hy; rw [hy]; intro q; rw [q] at hx; exact hno l hl hx⟩
    · by_cases e2 : l = b
      · subst e2; rw [hPbb]
        exact List.nodup_append.2 ⟨h.nd l hl, by simp, fun x hx y hy => by rw [List.mem_singleton] at hy; rw [hy]; intro q; rw [q] at hx; exact hno l hl hx⟩
      · rw [hPa l e1 e2]; exact h.nd l hl
  · by_cases e : i = c
    · subst e
      refine .inr (.inr ⟨by rw [hAc]; omega, ?_, ?_⟩)
      · rw [hAc, hBc]; exact fun q _ hq => absurd hq (val_may hnd (by omega) va q)
      · rw [hAc, hBc]; exact fun q _ hq => absurd hq (val_may hnd (by omega) vb q)
    · rcases h.ok i hi hgi with (q | q) | q
      · exact .inl ⟨q, e⟩
      · exact absurd q e
      · exact .inr (q.as (hA i e) (hB i e) rfl (fun v hv => (hmem _ i e).2 hv))

/-- One more holds. -/
theorem Inv.grow (h : Inv n g H d X) {x : Int} (hx : ∀ y ∈ H, vl y ≠ vl x) (hd : ∀ i, d i ≤ H.length) : Inv n (g.place (vl x) H.length) (H ++ [x]) d X := by
  refine ⟨h.rg, h.fr, h.wt, h.sd, h.nd, fun q y hq => ?_, fun i hi hgi => ?_⟩
  · by_cases e : q < H.length
    · rw [List.getElem?_append_left e] at hq
      have := hx y (List.mem_of_getElem? hq)
      show up g.pl (vl x) _ (vl y) = q
      rw [up_ne _ _ this]; exact h.pl q y hq
    · have hl := (List.getElem?_eq_some_iff.1 hq).1
      simp at hl
      have : q = H.length := by omega
      subst this
      simp at hq
      subst hq
      exact up_same _ _ _
  · have key : ∀ a b : Int, Hf n g.P H (d i) i a b → Hf n g.P (H ++ [x]) (d i) i a b := fun a b hh q hq e => by
      have := hd i
      rw [List.getElem?_append_left (by omega)] at e
      obtain ⟨r, r1, r2⟩ := hh q hq e
      have hr := (List.getElem?_eq_some_iff.1 r1).1
      exact ⟨r, by rw [List.getElem?_append_left hr]; exact r1, r2⟩
    rcases h.ok i hi hgi with q | ⟨h1, y, hy, q, hq, hp⟩ | ⟨h1, h2, h3⟩
    · exact .inl q
    · have hr := (List.getElem?_eq_some_iff.1 hq).1
      exact .inr (.inl ⟨h1, y, hy, q, by rw [List.getElem?_append_left hr]; exact hq, hp⟩)
    · exact .inr (.inr ⟨h1, key _ _ h2, key _ _ h3⟩)

/-- A list of those that lean has more. -/
theorem Inv.more (h : Inv n g H d X) {s : Nat} (hs : 2 * n ≤ s) {xs : List Nat} (hx : ∀ i ∈ g.P s, i ∈ xs) (v : Value) : Inv n (g.slot s xs v) H d X := by
  have hP : ∀ l, l < 2 * n → (g.slot s xs v).P l = g.P l := fun l hl => up_ne _ _ (by omega)
  refine ⟨h.rg, h.fr, fun i hi hgi => ?_, fun l hl i hi hgi => ?_, fun l hl => ?_, h.pl, fun i hi hgi => ?_⟩
  · rcases h.wt i hi hgi with q | ⟨q1, q2, q3, q4, q5, q6, q7⟩
    · exact .inl q
    · have r1 := h.rg i hi hgi _ q4
      have r2 := h.rg i hi hgi _ q5
      refine .inr ⟨q1, q2, q3, q4, q5, ?_, ?_⟩
      · show i ∈ (g.slot s xs v).P (g.a i).toNat
        rw [hP _ (show (g.a i).toNat < 2 * n by omega)]; exact q6
      · show i ∈ (g.slot s xs v).P (g.b i).toNat
        rw [hP _ (show (g.b i).toNat < 2 * n by omega)]; exact q7
  · rw [hP l hl] at hi; exact h.sd l hl i hi hgi
  · rw [hP l hl]; exact h.nd l hl
  · rcases h.ok i hi hgi with q | q
    · exact .inl q
    · refine .inr (q.as rfl rfl rfl (fun u hu => ?_))
      show i ∈ up g.P s xs _
      by_cases e : 2 * n + u = s
      · rw [e] at hu ⊢; rw [up_same]; exact hx i hu
      · rw [up_ne _ _ e]; exact hu

theorem Inv.from (h : Inv n g H d X) {c f : Nat} (hf : f < (g.lt c).length ∨ g.lt c = []) : Inv n (g.from c f) H d X := by
  refine ⟨h.rg, fun i hi hgi => ?_, h.wt, h.sd, h.nd, h.pl, h.ok⟩
  show up g.fr c f i < _ ∨ _
  by_cases e : i = c
  · subst e; rw [up_same]; exact hf
  · rw [up_ne _ _ e]; exact h.fr i hi hgi

/-- It holds by a literal that it leans on. -/
theorem Inv.leant {c : Nat} (h : Inv n g H d (fun i => X i ∨ i = c)) (ea : g.a c = -1) {x : Int} (hx : x ∈ g.lt c) {q : Nat} (hq : H[q]? = some x) (hp : c ∈ g.P (2 * n + vl x)) : Inv n g H d (fun i => X i ∧ i ≠ c) :=
  h.off fun i hi hgi hX => by
    by_cases e : i = c
    · subst e; exact .inr (.inl ⟨ea, x, hx, q, hq, hp⟩)
    · rcases hX with hX | hX
      · exact .inl ⟨hX, e⟩
      · exact absurd hX e
end

/-! ### Reasons; how many lean -/
/-- Whoever holds for a clause is of it, and all others of it do not hold, and did not ahead of it. -/
def Rs (g : G) (L : List E) : Prop := ∀ (q : Nat) (e : E), L[q]? = some e → 0 ≤ e.r → ∃ c : Nat, e.r = c ∧ c < g.nx ∧ (1 ≤ e.g → g.gn c = false) ∧ (e.l : Int) ∈ g.lt c ∧ ∀ y ∈ g.lt c, y ≠ e.l → ∃ r : Nat, r < q ∧ (litsF L)[r]? = some (U.notF y)

theorem litsF_app (L M : List E) : litsF (L ++ M) = litsF L ++ litsF M := by simp [litsF]

theorem Rs.take {g : G} {L : List E} (h : Rs g L) (m : Nat) : Rs g (L.take m) := by
  intro q e he hr
  have hq := (List.getElem?_eq_some_iff.1 he).1
  simp at hq
  rw [List.getElem?_take_of_lt (by omega)] at he
  obtain ⟨c, c1, c2, c3, c4, c5⟩ := h q e he hr
  refine ⟨c, c1, c2, c3, c4, fun y hy hne => ?_⟩
  obtain ⟨r, r1, r2⟩ := c5 y hy hne
  refine ⟨r, r1, ?_⟩
  have : litsF (L.take m) = (litsF L).take m := by simp [litsF, List.map_take]
  rw [this, List.getElem?_take_of_lt (by omega)]; exact r2

theorem Rs.snoc {g : G} {L : List E} (h : Rs g L) {e : E} (he : 0 ≤ e.r → ∃ c : Nat, e.r = c ∧ c < g.nx ∧ (1 ≤ e.g → g.gn c = false) ∧ (e.l : Int) ∈ g.lt c ∧ ∀ y ∈ g.lt c, y ≠ e.l → ∃ r : Nat, (litsF L)[r]? = some (U.notF y)) : Rs g (L ++ [e]) := by
  intro q e' hq hr
  have lift : ∀ (r : Nat) (x : Int), (litsF L)[r]? = some x → r < L.length ∧ (litsF (L ++ [e]))[r]? = some x := fun r x hx => by
    have hr := (List.getElem?_eq_some_iff.1 hx).1
    rw [litsF_len] at hr
    refine ⟨hr, ?_⟩
    rw [litsF_app, List.getElem?_append_left (by rw [litsF_len]; exact hr)]; exact hx
  by_cases c : q < L.length
  · rw [List.getElem?_append_left c] at hq
    obtain ⟨c, c1, c2, c3, c4, c5⟩ := h q e' hq hr
    refine ⟨c, c1, c2, c3, c4, fun y hy hne => ?_⟩
    obtain ⟨r, r1, r2⟩ := c5 y hy hne
    exact ⟨r, r1, (lift r _ r2).2⟩
  · have hl := (List.getElem?_eq_some_iff.1 hq).1
    simp at hl
    have : q = L.length := by omega
    subst this
    simp at hq
    subst hq
    obtain ⟨c, c1, c2, c3, c4, c5⟩ := he hr
    refine ⟨c, c1, c2, c3, c4, fun y hy hne => ?_⟩
    obtain ⟨r, r1⟩ := c5 y hy hne
    exact ⟨r, lift r _ r1⟩

theorem Rs.as {g g' : G} {L : List E} (h : Rs g L) (e1 : g'.nx = g.nx) (e2 : g'.gn = g.gn) (e3 : g'.lt = g.lt) : Rs g' L := by
  intro q e he hr
  obtain ⟨c, c1, c2, c3, c4, c5⟩ := h q e he hr
  exact ⟨c, c1, by rw [e1]; exact c2, by rw [e2]; exact c3, by rw [e3]; exact c4, by rw [e3]; exact c5⟩

/-- How many lean. -/
def sumL (n : Nat) (P : Nat → List Nat) : Nat := ((List.range n).map (fun v => (P (2 * n + v)).length)).sum

theorem sum_out {n m : Nat} {P : Nat → List Nat} {s : Nat} {xs : List Nat} (hs : ∀ v, v < m → 2 * n + v ≠ s) : ((List.range m).map (fun v => (up P s xs (2 * n + v)).length)).sum = ((List.range m).map (fun v => (P (2 * n + v)).length)).sum := by
  congr 1
  apply List.map_congr_left
  intro v hv
  rw [up_ne _ _ (hs v (List.mem_range.1 hv))]

theorem sum_in {n : Nat} {P : Nat → List Nat} {u : Nat} {xs : List Nat} : ∀ {m : Nat}, u < m → ((List.range m).map (fun v => (up P (2 * n + u) xs (2 * n + v)).length)).sum + (P (2 * n + u)).length = ((List.range m).map (fun v => (P (2 * n + v)).length)).sum + xs.length := by
  intro m
  induction m with
  | zero => intro h; omega
  | succ m ih =>
    intro h
    rw [List.range_succ, List.map_append, List.map_append, List.sum_append, List.sum_append]
    simp only [List.map_cons, List.map_nil, List.sum_cons, List.sum_nil]
    by_cases e : u = m
    · subst e
      rw [sum_out (fun v hv => by omega), up_same]; omega
    · have := ih (by omega)
      rw [up_ne _ _ (show 2 * n + m ≠ 2 * n + u by omega)]; omega

theorem sum_slot {n : Nat} {g : G} {u : Nat} (hu : u < n) (xs : List Nat) (v : Value) : sumL n (g.slot (2 * n + u) xs v).P + (g.P (2 * n + u)).length = sumL n g.P + xs.length := sum_in hu

theorem sum_other {n : Nat} {g : G} {s : Nat} (hs : s < 2 * n ∨ 3 * n ≤ s) (xs : List Nat) (v : Value) : sumL n (g.slot s xs v).P = sumL n g.P := sum_out (fun v hv => by omega)

theorem sum_le {n : Nat} {P : Nat → List Nat} {u : Nat} (hu : u < n) : (P (2 * n + u)).length ≤ sumL n P := by
  have := sum_in (n := n) (P := P) (u := u) (xs := []) hu
  simp only [List.length_nil] at this
  unfold sumL
  omega

/-- All but what the lists of clauses, and the watched literals, say is as it was. -/
structure Same (g g' : G) : Prop where
  nx : g'.nx = g.nx
  cb : g'.cb = g.cb
  lt : g'.lt = g.lt
  lv : g'.lv = g.lv
  gn : g'.gn = g.gn
  mp : g'.mp = g.mp
  hv : g'.hv = g.hv
  rm : g'.rm = g.rm

theorem Same.refl (g : G) : Same g g := ⟨rfl, rfl, rfl, rfl, rfl, rfl, rfl, rfl⟩
theorem Same.trans {a b c : G} (h : Same a b) (k : Same b c) : Same a c := ⟨k.nx.trans h.nx, k.cb.trans h.cb, k.lt.trans h.lt, k.lv.trans h.lv, k.gn.trans h.gn, k.mp.trans h.mp, k.hv.trans h.hv, k.rm.trans h.rm⟩

/-- What came to hold did for clauses. -/
def Ext (L L' : List E) (lev : Nat) : Prop := ∃ M, L' = L ++ M ∧ ∀ e ∈ M, e.g = lev ∧ 0 ≤ e.r

theorem Ext.refl (L : List E) (lev : Nat) : Ext L L lev := ⟨[], by simp, fun e he => by simp at he⟩
theorem Ext.trans {a b c : List E} {lev : Nat} (h : Ext a b lev) (k : Ext b c lev) : Ext a c lev := by
  obtain ⟨M, rfl, h2⟩ := h
  obtain ⟨N, rfl, k2⟩ := k
  exact ⟨M ++ N, by simp, fun e he => (List.mem_append.1 he).elim (h2 e) (k2 e)⟩
theorem Ext.one (L : List E) (lev m : Nat) (c : Nat) : Ext L (L ++ [⟨m, lev, c⟩]) lev := ⟨_, rfl, fun e he => by rw [List.mem_singleton] at he; subst he; exact ⟨rfl, Int.natCast_nonneg c⟩⟩
theorem Ext.len {L L' : List E} {lev : Nat} (h : Ext L L' lev) : L.length ≤ L'.length := by obtain ⟨M, rfl, _⟩ := h; simp
theorem Ext.at {L L' : List E} {lev : Nat} (h : Ext L L' lev) {q : Nat} {x : Int} (hx : (litsF L)[q]? = some x) : (litsF L')[q]? = some x := by
  obtain ⟨M, rfl, _⟩ := h
  have hr := (List.getElem?_eq_some_iff.1 hx).1
  rw [litsF_app, List.getElem?_append_left hr]; exact hx

/-- A list whose members are few is short. -/
theorem nodup_len {l : List Nat} {n : Nat} (h : l.Nodup) (hl : ∀ x ∈ l, x < n) : l.length ≤ n := pig n l h hl

end Go.Proofs.YtimfjoinjfecjaaGreat

namespace Go.Proofs.YtimfjoinjfecjaaGreat
open Go.RowKit Go.Maps
set_option linter.unusedVariables false

/-- What holds behind a step of Run, against what did ahead of it. -/
structure Adv (k : K) (kw : WK) (g : G) (L : List E) (lev : Nat) (p : V) (w : World) (X : Nat → Prop) (B : Nat) (g' : G) (L' : List E) (p' : V) (w' : World) : Prop where
  j : J k kw w' g' L' lev p'
  iv : Inv kw.n g' (litsF L') (fun _ => g'.dn) X
  rs : Rs g' L'
  sm : Same g g'
  dn : g'.dn = g.dn
  wa : g'.P (3 * kw.n) = g.P (3 * kw.n) ∧ g'.pv (3 * kw.n) = g.pv (3 * kw.n)
  ex : Ext L L' lev
  su : sumL kw.n g'.P ≤ sumL kw.n g.P + B
  ft : FT k kw.B p p' w w'

section
variable {k : K} {kw : WK} {w w1 w2 w3 : World} {g g1 : G} {L : List E} {lev : Nat} {p : V} {X X' : Nat → Prop} {B c : Nat}

theorem Adv.start (j : J k kw w g L lev p) (iv : Inv kw.n g (litsF L) (fun _ => g.dn) X) (rs : Rs g L) : Adv k kw g L lev p w X 0 g L p w :=
  ⟨j, iv, rs, Same.refl g, rfl, ⟨rfl, rfl⟩, Ext.refl _ _, by omega, FT.refl _ _ _ _⟩

theorem Adv.below {g' : G} {L' : List E} {p' : V} (a : Adv k kw g L lev p w X B g' L' p' w1) (b : Below w1.heap.size w1 w2) : Adv k kw g L lev p w X B g' L' p' w2 :=
  ⟨a.j.below b, a.iv, a.rs, a.sm, a.dn, a.wa, a.ex, a.su, a.ft.trans (FT.below b)⟩

theorem Adv.weak {g' : G} {L' : List E} {p' : V} {B' : Nat} (a : Adv k kw g L lev p w X B g' L' p' w1) (hB : B ≤ B') (hX : ∀ i, X i → X' i) : Adv k kw g L lev p w X' B' g' L' p' w1 :=
  ⟨a.j, a.iv.mono (fun _ => Nat.le_refl _) hX, a.rs, a.sm, a.dn, a.wa, a.ex, by have := a.su; omega, a.ft⟩

theorem Adv.off {g' : G} {L' : List E} {p' : V} (a : Adv k kw g L lev p w X B g' L' p' w1) (hX : ∀ i, i < g'.nx → g'.gn i = false → X i → X' i ∨ OkAt kw.n g' (litsF L') g'.dn i) : Adv k kw g L lev p w X' B g' L' p' w1 :=
  ⟨a.j, a.iv.off hX, a.rs, a.sm, a.dn, a.wa, a.ex, a.su, a.ft⟩

theorem Adv.trans {g1 g2 : G} {L1 L2 : List E} {p1 p2 : V} {B' : Nat} (a : Adv k kw g L lev p w X B g1 L1 p1 w1) (b : Adv k kw g1 L1 lev p1 w1 X' B' g2 L2 p2 w2) : Adv k kw g L lev p w X' (B + B') g2 L2 p2 w2 :=
  ⟨b.j, b.iv, b.rs, a.sm.trans b.sm, b.dn.trans a.dn, ⟨b.wa.1.trans a.wa.1, b.wa.2.trans a.wa.2⟩, a.ex.trans b.ex, by have := a.su; have := b.su; omega, a.ft.trans b.ft⟩

theorem Inv.max (iv : Inv kw.n g (litsF L) (fun _ => g.dn) X) (s : St kw w g) {i : Nat} (hi : i < g.nx) (hg : g.gn i = false) : g.a i ≤ 9223372036854775807 ∧ g.b i ≤ 9223372036854775807 := by
  have hn := s.l.hn
  rcases iv.wt i hi hg with ⟨h1, h2⟩ | ⟨h1, h2, h3, h4, h5, _⟩
  · omega
  · have := iv.rg i hi hg _ h4; have := iv.rg i hi hg _ h5; omega

theorem Inv.watched (iv : Inv kw.n g (litsF L) (fun _ => g.dn) X) {i : Nat} (hi : i < g.nx) (hg : g.gn i = false) (ha : g.a i ≠ -1) : ∃ a b : Nat, g.a i = a ∧ g.b i = b ∧ a < 2 * kw.n ∧ b < 2 * kw.n ∧ a ≠ b := by
  rcases iv.wt i hi hg with ⟨h1, h2⟩ | ⟨h1, h2, h3, h4, h5, _⟩
  · exact absurd h1 ha
  · have := iv.rg i hi hg _ h4; have := iv.rg i hi hg _ h5
    exact ⟨(g.a i).toNat, (g.b i).toNat, by omega, by omega, by omega, by omega, by omega⟩

theorem unwatch_adv (j : J k kw w g L lev p) (iv : Inv kw.n g (litsF L) (fun _ => g.dn) X) (rs : Rs g L) (hc : c < g.nx) (hg : g.gn c = false) :
    Calls Tryz.prog 111 #[.pointer (some ⟨kw.OB, 0, none⟩), .pointer (some ⟨g.cb c, 0, none⟩)] w fun e w' => e = .returned (.tuple #[]) ∧ ∃ g1, Hid (Adv k kw g L lev p w (fun i => X i ∨ i = c) 0 g1 L p w') ∧ Hid (g1.a c = -1) := by
  by_cases ha : g.a c = -1
  · refine (unwatch_none j.s hc hg ha).mono ?_
    rintro e w' ⟨rfl, b⟩
    exact ⟨rfl, g, hid (((Adv.start j iv rs).below b.out).weak (Nat.le_refl _) (fun i h => .inl h)), hid ha⟩
  · obtain ⟨a, b, ea, eb, la, lb, hab⟩ := iv.watched hc hg ha
    refine (unwatch_is j.s hc hg a b ea eb la lb hab).mono ?_
    rintro e w' ⟨rfl, v1, v2, s, f⟩
    refine ⟨rfl, (((g.slot a (outF (fun i => i == c) (g.P a)) v1).slot b (outF (fun i => i == c) (g.P b)) v2).watch c (-1) (-1)), hid ⟨j.fw f s rfl rfl rfl rfl, iv.unw hc hg ea eb la lb hab v1 v2, rs.as rfl rfl rfl, ⟨rfl, rfl, rfl, rfl, rfl, rfl, rfl, rfl⟩, rfl, ⟨?_, ?_⟩, Ext.refl _ _, ?_, FT.fw f⟩, hid (up_same _ _ _)⟩
    · show up (up g.P a _) b _ (3 * kw.n) = _
      rw [up_ne _ _ (by omega), up_ne _ _ (by omega)]
    · show up (up g.pv a v1) b v2 (3 * kw.n) = _
      rw [up_ne _ _ (by omega), up_ne _ _ (by omega)]
    · rw [show sumL kw.n (((g.slot a (outF (fun i => i == c) (g.P a)) v1).slot b (outF (fun i => i == c) (g.P b)) v2).watch c (-1) (-1)).P = sumL kw.n g.P from (sum_other (.inl lb) _ v2).trans (sum_other (.inl la) _ v1)]
      omega

theorem adv_from {g' : G} {L' : List E} {p' : V} (b : Below w.heap.size w w1) (a : Adv k kw g L lev p w1 X B g' L' p' w2) : Adv k kw g L lev p w X B g' L' p' w2 :=
  ⟨a.j, a.iv, a.rs, a.sm, a.dn, a.wa, a.ex, a.su, (FT.below b).trans a.ft⟩

theorem adv_watch {a b : Nat} (A : Adv k kw g L lev p w (fun i => X i ∨ i = c) 0 g1 L p w1) (h1 : g1.a c = -1) (hc : c < g1.nx) (hg : g1.gn c = false) (ha : (a : Int) ∈ g1.lt c) (hb : (b : Int) ∈ g1.lt c) (hab : a ≠ b) (va : 0 ≤ valueF L a) (vb : 0 ≤ valueF L b) (e : WatchEnd kw g1 c a b w1 w2) :
    ∃ g2, Adv k kw g L lev p w (fun i => X i ∧ i ≠ c) 1 g2 L p w2 := by
  obtain ⟨v1, v2, s, f⟩ := e
  have ra := A.iv.rg c hc hg _ ha
  have rb := A.iv.rg c hc hg _ hb
  refine ⟨_, A.j.fw f s rfl rfl rfl rfl, A.iv.wat A.j.t.nd hc hg h1 ha hb hab va vb v1 v2, A.rs.as rfl rfl rfl, A.sm.trans ⟨rfl, rfl, rfl, rfl, rfl, rfl, rfl, rfl⟩, A.dn, ⟨?_, ?_⟩, A.ex, ?_, A.ft.trans (FT.fw f)⟩
  · rw [← A.wa.1]
    show up (up g1.P a _) b _ (3 * kw.n) = _
    rw [up_ne _ _ (by omega), up_ne _ _ (by omega)]
  · rw [← A.wa.2]
    show up (up g1.pv a v1) b v2 (3 * kw.n) = _
    rw [up_ne _ _ (by omega), up_ne _ _ (by omega)]
  · rw [show sumL kw.n (((g1.watch c a b).slot a (g1.P a ++ [c]) v1).slot b (g1.P b ++ [c]) v2).P = sumL kw.n g1.P from (sum_other (.inl (by omega)) _ v2).trans (sum_other (.inl (by omega)) _ v1)]
    have := A.su; omega

/-- It holds by one literal, and leans on that. -/
theorem adv_lean {L' : List E} {p' : V} {m u : Nat} {v : Value} (A : Adv k kw g L lev p w (fun i => X i ∨ i = c) 0 g1 L' p' w1) (h1 : g1.a c = -1) (hm : (m : Int) ∈ g1.lt c) (hu : m / 2 = u) (hun : u < kw.n) (hv : valueF L' m = 1) (s : St kw w2 (g1.slot (2 * kw.n + u) (g1.P (2 * kw.n + u) ++ [c]) v)) (f : FW kw.B w1 w2) :
    ∃ g2, Adv k kw g L lev p w (fun i => X i ∧ i ≠ c) 1 g2 L' p' w2 := by
  obtain ⟨_, q, hq⟩ := val_one hv
  have hvl : vl (m : Int) = u := by unfold vl; omega
  refine ⟨_, A.j.fw f s rfl rfl rfl rfl, Inv.leant (x := (m : Int)) (A.iv.more (by omega) (fun i hi => List.mem_append.2 (.inl hi)) v) h1 hm hq ?_, A.rs.as rfl rfl rfl, A.sm.trans ⟨rfl, rfl, rfl, rfl, rfl, rfl, rfl, rfl⟩, A.dn, ⟨?_, ?_⟩, A.ex, ?_, A.ft.trans (FT.fw f)⟩
  · rw [hvl]
    show c ∈ up g1.P _ _ _
    rw [up_same]; simp
  · rw [← A.wa.1]; exact up_ne _ _ (by omega)
  · rw [← A.wa.2]; exact up_ne _ _ (by omega)
  · have := sum_slot (g := g1) hun (g1.P (2 * kw.n + u) ++ [c]) v
    simp only [List.length_append, List.length_singleton] at this
    have := A.su; omega

/-- One more holds, for a clause all others of which do not. -/
theorem adv_new {p' : V} {m u : Nat} {X : Nat → Prop} {B : Nat} (A : Adv k kw g L lev p w X B g1 L p w1) (hd : g.dn ≤ L.length) (hc : c < g1.nx) (hg : g1.gn c = false) (hm : (m : Int) ∈ g1.lt c) (hu : m / 2 = u) (hv : valueF L m = 0) (ho : ∀ x ∈ g1.lt c, x ≠ (m : Int) → valueF L x < 0)
    (j : J k kw w2 (g1.place u L.length) (L ++ [⟨m, lev, c⟩]) lev p') (f : FT k kw.B p p' w1 w2) : Adv k kw g L lev p w X B (g1.place u L.length) (L ++ [⟨m, lev, c⟩]) p' w2 := by
  have hvl : vl (m : Int) = u := by unfold vl; omega
  have e1 : litsF (L ++ [⟨m, lev, c⟩]) = litsF L ++ [(m : Int)] := by rw [litsF_app]; rfl
  have e2 : ((litsF L).length) = L.length := litsF_len L
  refine ⟨j, ?_, A.rs.snoc (g := g1) (e := ⟨m, lev, c⟩) (fun _ => ⟨c, rfl, hc, fun _ => hg, hm, fun y hy hne => (val_neg (ho y hy hne)).2.2⟩) |>.as rfl rfl rfl, A.sm.trans ⟨rfl, rfl, rfl, rfl, rfl, rfl, rfl, rfl⟩, A.dn, A.wa, A.ex.trans (Ext.one _ _ _ _), A.su, A.ft.trans f⟩
  have key := A.iv.grow (x := (m : Int)) (fun y hy c2 => ?_) (fun _ => by rw [e2, A.dn]; exact hd)
  · rw [hvl, e2] at key
    rw [e1]; exact key
  · obtain ⟨r, hr⟩ := List.mem_iff_getElem?.1 hy
    obtain ⟨e, he, rfl⟩ := lits_at.1 hr
    have := at_of A.j.t.nd he
    have hvr : ((vr e : Nat) : Int) = (m : Int) / 2 := by unfold vl at c2; unfold vr; omega
    rw [hvr] at this
    unfold valueF at hv
    rw [if_neg (by omega), this] at hv
    simp only at hv
    split at hv <;> omega

def SetEnd (k : K) (kw : WK) (g : G) (L : List E) (lev : Nat) (p : V) (X : Nat → Prop) (c : Nat) (w : World) (e : Ending) (w' : World) : Prop :=
  (e = .returned (.bool true) ∧ ∃ g' L' p', Adv k kw g L lev p w (fun i => X i ∧ i ≠ c) 1 g' L' p' w') ∨
  (e = .returned (.bool false) ∧ ∃ g', Adv k kw g L lev p w (fun i => X i ∨ i = c) 0 g' L p w' ∧ g.gn c = false ∧ ∀ x ∈ g.lt c, valueF L x = -1)

theorem TwoR.out {xs : List Int} {a b : Int} (h : TwoR L xs a b) : (a = -1 ∧ b = -1 ∧ Hid (∀ x ∈ xs, valueF L x < 0)) ∨
    (∃ m : Nat, a = m ∧ b = -1 ∧ Hid ((m : Int) ∈ xs ∧ (∀ x ∈ xs, x ≠ (m : Int) → valueF L x < 0)) ∧ (Hid (valueF L m = 0) ∨ Hid (valueF L m = 1))) ∨
    (∃ m m' : Nat, a = m ∧ b = m' ∧ Hid ((m : Int) ∈ xs ∧ (m' : Int) ∈ xs ∧ m ≠ m' ∧ 0 ≤ valueF L m ∧ 0 ≤ valueF L m')) := by
  rcases h with ⟨h1, h2, h3⟩ | ⟨h1, h2, h3, h4, h5⟩ | ⟨h1, h2, h3, h4, h5, h6, h7⟩
  · exact .inl ⟨h1, h2, h3⟩
  · obtain ⟨m, rfl⟩ := Int.eq_ofNat_of_zero_le h2
    refine .inr (.inl ⟨m, rfl, h4, ⟨h1, h5⟩, ?_⟩)
    rcases val_cases (L := L) (m : Int) with q | ⟨q, _⟩ | ⟨q, _⟩
    · exact .inl q
    · exact .inr q
    · omega
  · obtain ⟨m, rfl⟩ := Int.eq_ofNat_of_zero_le h3
    obtain ⟨m', rfl⟩ := Int.eq_ofNat_of_zero_le h4
    exact .inr (.inr ⟨m, m', rfl, rfl, h1, h2, fun e => h5 (by rw [e]), h6, h7⟩)

theorem val_last {m c : Nat} {L : List E} {lev : Nat} (h : ND (L ++ [⟨m, lev, c⟩])) : valueF (L ++ [⟨m, lev, c⟩]) (m : Int) = 1 := by
  refine val_pos h (q := L.length) ?_
  rw [litsF_app, List.getElem?_append_right (by rw [litsF_len]; exact Nat.le_refl _), litsF_len]
  simp [litsF]

theorem Adv.small {X : Nat → Prop} {B : Nat} {g1 : G} {L1 : List E} {p1 : V} (A : Adv k kw g L lev p w X B g1 L1 p1 w1) (hnx : g.nx ≤ 1000000) {l : Nat} (hl : l < 2 * kw.n) : (g1.P l).length ≤ 1000000000000 := by
  have := nodup_len (A.iv.nd l hl) (A.j.s.l.sub l (by omega))
  rw [A.sm.nx] at this
  omega

theorem Adv.leans {X : Nat → Prop} {B : Nat} {g1 : G} {L1 : List E} {p1 : V} (A : Adv k kw g L lev p w X B g1 L1 p1 w1) (hB : sumL kw.n g.P + B ≤ 1000000000000) {u : Nat} (hu : u < kw.n) : (g1.P (2 * kw.n + u)).length ≤ 1000000000000 := by
  have := sum_le (P := g1.P) hu
  have := A.su
  omega

theorem nat_none (m : Nat) : ((m : Int) == -1) = false := beq_eq_false_iff_ne.2 (by omega)
theorem nat_some (m : Nat) : ((m : Int) != -1) = true := by rw [bne, nat_none]; rfl

set_option maxHeartbeats 2000000 in
theorem settle_is (j : J k kw w g L lev p) (iv : Inv kw.n g (litsF L) (fun _ => g.dn) X) (rs : Rs g L) (hd : g.dn ≤ L.length) (hc : c < g.nx) (hnx : g.nx ≤ 1000000) (hsu : sumL kw.n g.P ≤ 500000000000) :
    Calls Tryz.prog 77 #[.pointer (some ⟨kw.OB, 0, none⟩), .pointer (some ⟨k.OB, 0, none⟩), .pointer (some ⟨g.cb c, 0, none⟩)] w fun e w' => SetEnd k kw g L lev p X c w e w' := by
  have c5 := j.s.l.k5 hc
  have A0 := Adv.start j iv rs
  cases hg : g.gn c
  · rw [hg] at c5
    obtain ⟨m1, m2⟩ := iv.max j.s hc hg
    cases hs : standsF g L c
    · have HJ := hid j
      have HI := hid iv
      have HR := hid rs
      have HS := hid hs
      have hN := nat_none
      have hM := nat_some
      clear j iv rs hs A0
      go_enter Tryz.func77, Tryz.ntmps77
      go_wp2_with (first
        | (go_at_call 110; with_reducible (refine (stands_is HJ.out hc hg m1 m2 HS.out).mono ?_); rintro e w1 ⟨rfl, b1⟩; have J1 := hid (HJ.out.below b1.out))
        | (go_at_call 111; with_reducible (refine (unwatch_adv J1.out HI.out HR.out hc hg).mono ?_); rintro e w2 ⟨rfl, g1, A0, ha1⟩; have A1 := hid (adv_from b1.out A0.out); have hc1 := hid (show c < g1.nx by rw [A1.out.sm.nx]; exact hc); have hg1 := hid (show g1.gn c = false by rw [A1.out.sm.gn]; exact hg); have h01 := hid (fun x hx => (A1.out.iv.rg c hc1.out hg1.out x hx).1))
        | (go_at_call 112; have T := two_is A1.out.j hc1.out hg1.out h01.out; rw [A1.out.sm.cb] at T; with_reducible (refine T.mono ?_); rintro e w3 ⟨a, b, rfl, htw, b3⟩; have A3 := hid (A1.out.below b3.out); have htw2 := TwoR.out htw.out; rcases htw2 with ⟨rfl, rfl, hno⟩ | ⟨m, rfl, rfl, hm, hv | hv⟩ | ⟨m, m', rfl, rfl, hmm⟩)
        | (go_at_call 113; have r1 := A3.out.iv.rg c hc1.out hg1.out _ hmm.out.1; have r2 := A3.out.iv.rg c hc1.out hg1.out _ hmm.out.2.1; have l1 : m < 2 * kw.n := (by omega); have l2 : m' < 2 * kw.n := (by omega); have T := watch_is A3.out.j.s hc1.out hg1.out m m' l1 l2 hmm.out.2.2.1 (A3.out.small hnx l1) (A3.out.small hnx l2); rw [A3.out.sm.cb] at T; with_reducible (refine T.mono ?_); rintro e w4 ⟨rfl, hw4⟩)
        | (go_at_call 114; have r1 := A3.out.iv.rg c hc1.out hg1.out _ hm.out.1; have hn9 := A3.out.j.s.l.hn; have T := follow_held A3.out.j hc1.out (m : Int) (by omega) hv.out; rw [A3.out.sm.cb] at T; with_reducible (refine T.mono ?_); rintro e w4 ⟨rfl, b4⟩; have A5 := hid (A3.out.below b4.out); have hv5 := hv)
        | (go_at_call 114; have r1 := A3.out.iv.rg c hc1.out hg1.out _ hm.out.1; have T := follow_new A3.out.j hc1.out hg1.out m (m / 2) rfl (by omega) hv.out; rw [A3.out.sm.cb] at T; with_reducible (refine T.mono ?_); rintro e w4 ⟨rfl, p5, j5, f5⟩; have A5 := hid (adv_new A3.out hd hc1.out hg1.out hm.out.1 rfl hv.out hm.out.2 j5.out f5.out); have hv5 := hid (val_last A5.out.j.t.nd))
        | (go_at_call 115; have hc5 := hid hc1.out; have T := lean_is A5.out.j.s hc5.out m (m / 2) rfl (by omega) (A5.out.leans (by omega) (by omega)); rw [A5.out.sm.cb] at T; with_reducible (refine T.mono ?_); rintro e w6 ⟨rfl, v6, s6, f6⟩))
      all_goals go_ret
      · exact .inr ⟨rfl, g1, A3.out, hg, fun x hx => (val_neg (hno.out x (by rw [A3.out.sm.lt]; exact hx))).1⟩
      · obtain ⟨g9, A9⟩ := adv_lean A5.out ha1.out hm.out.1 rfl (by omega) hv5.out s6.out f6.out
        exact .inl ⟨rfl, g9, _, _, A9⟩
      · obtain ⟨g9, A9⟩ := adv_lean A5.out ha1.out hm.out.1 rfl (by omega) hv5.out s6.out f6.out
        exact .inl ⟨rfl, g9, _, _, A9⟩
      · obtain ⟨g9, A9⟩ := adv_watch A3.out ha1.out hc1.out hg1.out hmm.out.1 hmm.out.2.1 hmm.out.2.2.1 hmm.out.2.2.2.1 hmm.out.2.2.2.2 hw4
        exact .inl ⟨rfl, g9, _, _, A9⟩
    · have HJ := hid j
      have HS := hid hs
      have HA : Hid (Adv k kw g L lev p w (fun i => X i ∧ i ≠ c) 0 g L p w) := hid (A0.off fun i hi hgi hX => by
        by_cases e : i = c
        · subst e
          simp only [standsF, decide_eq_true_eq] at hs
          obtain ⟨h1, h2, h3⟩ := hs
          obtain ⟨a, b, ea, eb, _⟩ := iv.watched hi hgi h1
          refine .inr (.inr ⟨h1, fun q _ hq => absurd hq (val_may j.t.nd (by omega) h2 q), fun q _ hq => absurd hq (val_may j.t.nd (by omega) h3 q)⟩)
        · exact .inl ⟨hX, e⟩)
      clear j iv rs hs A0
      go_enter Tryz.func77, Tryz.ntmps77
      go_wp2_with (go_at_call 110; with_reducible (refine (stands_is HJ.out hc hg m1 m2 HS.out).mono ?_); rintro e w1 ⟨rfl, b1⟩)
      go_ret
      exact .inl ⟨rfl, _, _, _, (HA.out.below b1.out).weak (by omega) (fun _ h => h)⟩
  · rw [hg] at c5
    have HA : Hid (Adv k kw g L lev p w (fun i => X i ∧ i ≠ c) 0 g L p w) := hid (A0.off fun i hi hgi hX => .inl ⟨hX, fun e => by rw [e, hg] at hgi; cases hgi⟩)
    clear j iv rs A0
    go_enter Tryz.func77, Tryz.ntmps77
    go_wp2
    go_ret
    exact .inl ⟨rfl, _, _, _, HA.out.weak (by omega) (fun _ h => h)⟩
end

end Go.Proofs.YtimfjoinjfecjaaGreat
