/-
  unwatch: a clause watches nothing any more.
-/
import Derived.Test.YtikdmgemhfmipaaGreatWLean
import Derived.Test.YtikdmgemhfmipaaGreatWDel
namespace Go.Proofs.YtikdmgemhfmipaaGreat
open Go.RowKit Go.Maps
set_option linter.unusedVariables false

theorem nw_same {w : World} {v v' : Value} (h : v'.ownBlock = v.ownBlock) : Nw w v v' := fun j hj => .inl (h ▸ hj)

section
variable {k : WK} {w w1 : World} {g : G}

theorem St.setw {w5 : World} {v5 : Value} {x : Nat} {zs : List Nat} (s : St k w1 g) (hx : x < 2 * k.n) (hz : ∀ i ∈ zs, i < g.nx) (own : PRow w5 g.cb v5 zs) (gr : w1.grownBy w5 (g.pv x).ownBlock) (nw : Nw w1 (g.pv x) v5) :
    w5.cell? ⟨k.OB, 2, none⟩ = some (.slice (some ⟨k.WB, 0, none⟩) (2 * k.n) (2 * k.n)) ∧ w5.cell? ⟨k.WB, x, none⟩ = some (g.pv x) ∧ w5.frozen? ⟨k.WB, x, none⟩ = false ∧ Hid (St k (w5.setCell ⟨k.WB, x, none⟩ v5) (g.slot x zs v5)) ∧ Hid (FW k.B w1 (w5.setCell ⟨k.WB, x, none⟩ v5)) := by
  have hs : x ≤ 3 * k.n := by omega
  obtain ⟨c5, l5⟩ := s.list hs gr own nw hz
  refine ⟨c5.c2, c5.wc hx, c5.wf x, c5.putw hx _ _ l5, (FW.grown gr (s.ty hs) (s.l.lo.p _ hs)).trans (FW.grown (grown_set w5 ⟨k.WB, x, none⟩ v5) (fun j T e t => ?_) (fun j e => by cases e; exact c5.lo.2.1))⟩
  cases e
  obtain ⟨cc, q1, _⟩ := c5.wb
  rw [t.one ⟨_, _, q1⟩]; simp [Wt]

theorem out_sub {q : Nat → Bool} {xs : List Nat} {nx : Nat} (h : ∀ i ∈ xs, i < nx) : ∀ i ∈ outF q xs, i < nx := fun i hi => h i (List.mem_filter.1 hi).1

theorem del_is (s : St k w g) {c : Nat} (hc : c < g.nx) (bx : Nat) (hbx : w.cell? ⟨bx, 0, none⟩ = some (.pointer (some ⟨g.cb c, 0, none⟩))) {x : Nat} (hx : x ≤ 3 * k.n) (hb : (g.pv x).ownBlock ≠ some bx) {ao : Option Addr} {n cap : Nat} (ev : g.pv x = .slice ao n cap) :
    Calls Tryz.prog 92 #[.slice ao n cap, .func (.func 91) #[] #[.pointer (some ⟨bx, 0, none⟩)]] w fun e w' => ∃ ao' n' cap', e = .returned (.slice ao' n' cap') ∧ Hid (PRow w' g.cb (.slice ao' n' cap') (outF (fun i => i == c) (g.P x))) ∧ Hid (w.grownBy w' (g.pv x).ownBlock) ∧ Hid ((Value.slice ao' n' cap').ownBlock = (g.pv x).ownBlock) := by
  have own := s.l.rw x hx
  rw [ev] at own
  refine (deleteI (q := fun i => i == c) w bx own ?_).mono ?_
  · intro wr gr i hi
    rw [← ev] at gr
    have hlt := s.l.sub x hx i hi
    have ty := s.ty hx
    have key : ∀ j T, Typ w j T → T ≠ 53 → wr.heap[j]? = w.heap[j]? := fun j T t hne => gr.block j t.lt (fun e => hne (t.one ((s.l.rw x hx).typ e.symm)))
    have h1 := s.l.cl i hlt
    have h2 := s.l.cl c hc
    have e1 : wr.cell? ⟨bx, 0, none⟩ = some (.pointer (some ⟨g.cb c, 0, none⟩)) := by
      rw [← hbx]
      exact World.cell?_of_block (gr.block bx (cell_lt hbx) (fun e => hb e.symm))
    have := isF_is wr bx (g.cb i) (g.cb c) e1 (by rw [key _ 57 ⟨_, _, h1⟩ (by decide)]; exact h1) (by rw [key _ 57 ⟨_, _, h2⟩ (by decide)]; exact h2)
    have e2 : (g.cb i == g.cb c) = (i == c) := by
      by_cases e : i = c
      · subst e; rw [beq_self_eq_true, beq_self_eq_true]
      · have : g.cb i ≠ g.cb c := fun q => e (s.l.inj i c hlt hc q)
        rw [beq_eq_false_iff_ne.2 this, beq_eq_false_iff_ne.2 e]
    rw [e2] at this
    exact this
  · rintro e w' ⟨v', rfl, h1, h2, h3⟩
    obtain ⟨a', p', e, _⟩ := h1.shape
    subst e
    rw [← ev] at h2 h3
    exact ⟨_, _, _, rfl, h1, h2, h3⟩

theorem unwatch_none (s : St k w g) {c : Nat} (hc : c < g.nx) (hg : g.gn c = false) (ha : g.a c = -1) : Calls Tryz.prog 64 #[.pointer (some ⟨k.OB, 0, none⟩), .pointer (some ⟨g.cb c, 0, none⟩)] w fun e w' => e = .returned (.tuple #[]) ∧ Hid (Below w.heap.size w w') := by
  have B1 : Below w.heap.size w (w.alloc (.cells #[.pointer (some ⟨g.cb c, 0, none⟩)] 53)) := by go_grown
  obtain ⟨c0, c1, c2, c3, c4⟩ := (s.below B1).l.ks hc hg
  rw [ha] at c2
  clear s
  go_enter Tryz.func64, Tryz.ntmps64
  go_wp2
  refine bodyPost_ret (results_none rfl _ _ _) rfl ?_
  exact ⟨rfl, B1⟩

theorem index86a (x y : Value) (w : World) : (Instr.index 55 (.agg #[x, y]) (.int .i64 0)).run Tryz.prog w = .ok x w := by kernel_rfl
theorem index86b (x y : Value) (w : World) : (Instr.index 55 (.agg #[x, y]) (.int .i64 1)).run Tryz.prog w = .ok y w := by kernel_rfl

theorem box_keep {W w5 : World} {B b x : Nat} {r : Option Nat} {v v5 : Value} (h : W.cell? ⟨B, 0, none⟩ = some v) (gr : W.grownBy w5 r) (hr : r ≠ some B) (hb : b ≠ B) : (w5.setCell ⟨b, x, none⟩ v5).cell? ⟨B, 0, none⟩ = some v := by
  have g2 := grown_set w5 ⟨b, x, none⟩ v5
  have hlt := cell_lt h
  rw [World.cell?_of_block (a := ⟨B, 0, none⟩) (g2.block B (Nat.lt_of_lt_of_le hlt gr.size) (fun e => hb (Option.some.inj e).symm)), World.cell?_of_block (a := ⟨B, 0, none⟩) (gr.block B hlt (fun e => hr e.symm))]
  exact h

/-- What two rounds do. -/
def UW (g : G) (c a b q : Nat) (g1 : G) : Prop :=
  (q = 0 ∧ g1 = g) ∨ (q = 1 ∧ ∃ v : Value, v.ownBlock = (g.pv a).ownBlock ∧ g1 = g.slot a (outF (fun i => i == c) (g.P a)) v) ∨
  (q = 2 ∧ ∃ v v' : Value, g1 = (g.slot a (outF (fun i => i == c) (g.P a)) v).slot b (outF (fun i => i == c) (g.P b)) v')

def UnwEnd (k : WK) (g : G) (c a b : Nat) (w w' : World) : Prop := ∃ v1 v2, St k w' (((g.slot a (outF (fun i => i == c) (g.P a)) v1).slot b (outF (fun i => i == c) (g.P b)) v2).watch c (-1) (-1)) ∧ FW k.B w w'

theorem UW.at {g g1 : G} {c a b q : Nat} (h : UW g c a b q g1) : g1.cb = g.cb ∧ g1.nx = g.nx ∧ g1.gn = g.gn := by
  rcases h with ⟨_, rfl⟩ | ⟨_, v, _, rfl⟩ | ⟨_, v, v', rfl⟩ <;> exact ⟨rfl, rfl, rfl⟩

set_option maxHeartbeats 2000000 in
theorem unwatch_is (s : St k w g) {c : Nat} (hc : c < g.nx) (hg : g.gn c = false) (a b : Nat) (ea : g.a c = a) (eb : g.b c = b) (ha : a < 2 * k.n) (hb : b < 2 * k.n) (hab : a ≠ b) :
    Calls Tryz.prog 64 #[.pointer (some ⟨k.OB, 0, none⟩), .pointer (some ⟨g.cb c, 0, none⟩)] w fun e w' => e = .returned (.tuple #[]) ∧ UnwEnd k g c a b w w' := by
  have B1 : Below w.heap.size w (w.alloc (.cells #[.pointer (some ⟨g.cb c, 0, none⟩)] 53)) := by go_grown
  obtain ⟨c0, c1, c2, c3, c4⟩ := (s.below B1).l.ks hc hg
  rw [ea] at c2
  rw [eb] at c3
  have bx : (w.alloc (.cells #[.pointer (some ⟨g.cb c, 0, none⟩)] 53)).cell? ⟨w.heap.size, 0, none⟩ = some (.pointer (some ⟨g.cb c, 0, none⟩)) := by rw [cell_of (new_same w _)]; rfl
  have hn := s.l.hn
  have ha0 : ((a : Int) == -1) = false := beq_eq_false_iff_ne.2 (by omega)
  have HS := hid (s.below B1)
  have lta : ∀ j, (g.pv a).ownBlock = some j → j < w.heap.size := fun j e => (s.l.rw a (by omega)).lt e
  have ltb : ∀ j, (g.pv b).ownBlock = some j → j < w.heap.size := fun j e => (s.l.rw b (by omega)).lt e
  have HLA := hid lta
  have HLB := hid ltb
  have HB1 := hid B1
  have HWB : Hid (k.WB ≠ w.heap.size) := hid (by obtain ⟨cc, q1, _⟩ := s.c.wb; have := blk_lt q1; omega)
  have ha' : (a : Int) < 2 * k.n := by omega
  have hb' : (b : Int) < 2 * k.n := by omega
  clear s c0 c1 c4 lta ltb
  go_enter Tryz.func64, Tryz.ntmps64
  go_wp2
  go_loopw [6, 18] (fun _ i wr => ∃ (q : Nat) (g1 : G), i = .int .i64 q ∧ q ≤ 2 ∧ Hid (UW g c a b q g1) ∧ Hid (St k wr g1) ∧ Hid (FW k.B w wr) ∧ wr.cell? ⟨w.heap.size, 0, none⟩ = some (.pointer (some ⟨g.cb c, 0, none⟩))) (fun _ i _ => 2 - (intOf i).toNat)
  case atStart => exact ⟨0, g, rfl, by omega, hid (.inl ⟨rfl, rfl⟩), HS, hid (FW.below HB1.out), bx⟩
  case round =>
    clear bx c2 c3 HS
    obtain ⟨q, g1, rfl, hq, huw, hs, hfw, hbx⟩ := hrel
    by_cases h0 : q = 0
    · subst h0
      have e1 : g1 = g := by rcases huw.out with ⟨_, h⟩ | ⟨h, _⟩ | ⟨h, _⟩ <;> first | exact h | omega
      subst e1
      obtain ⟨aa, pa, eva, _⟩ := (hs.out.l.rw a (by omega)).shape
      have d2 := hs.out.c2
      have d3 := hs.out.c.wc ha
      rw [eva] at d3
      rw [show ((0 : Nat) : Int) = 0 from rfl]
      have ix := index86a (.int .i64 a) (.int .i64 b)
      have hbn : (g1.pv a).ownBlock ≠ some w.heap.size := fun e => by have := HLA.out _ e; omega
      have HBN := hid hbn
      clear huw hq hbn
      have hbx' : wr.drew.cell? ⟨w.heap.size, 0, none⟩ = some (.pointer (some ⟨g1.cb c, 0, none⟩)) := hbx
      have HX := hid hbx'
      have ha3 : a ≤ 3 * k.n := by omega
      go_wp2
      go_region_with (go_at_call 92; with_reducible (refine (del_is hs.out.drew hc _ HX.out ha3 HBN.out eva).mono ?_); rintro e w5 ⟨a5, n5, p5, rfl, own5, g5, o5⟩; have m5 := hs.out.drew.setw ha (out_sub (hs.out.l.sub a ha3)) own5.out g5.out (nw_same o5.out); obtain ⟨q0, q1, q2, s6, F6⟩ := m5; rw [eva] at q1)
      all_goals go_wp2
      all_goals go_roundw
      all_goals first
        | exact ⟨1, _, rfl, by omega, hid (.inr (.inl ⟨rfl, _, o5.out, rfl⟩)), s6, hid ((hfw.out.trans (FW.below (below_drew _))).trans F6.out), box_keep HX.out g5.out HBN.out HWB.out⟩
        | (simp [intOf])
    · by_cases h1 : q = 1
      · subst h1
        have huw' := huw.out
        have e1 : ∃ v : Value, v.ownBlock = (g.pv a).ownBlock ∧ g1 = g.slot a (outF (fun i => i == c) (g.P a)) v := by
          rcases huw' with ⟨h, _⟩ | ⟨_, h⟩ | ⟨h, _⟩
          · omega
          · exact h
          · omega
        obtain ⟨v, hv, rfl⟩ := e1
        have hpv : (g.slot a (outF (fun i => i == c) (g.P a)) v).pv b = g.pv b := up_ne _ _ (fun e => hab e.symm)
        have hP : (g.slot a (outF (fun i => i == c) (g.P a)) v).P b = g.P b := up_ne _ _ (fun e => hab e.symm)
        obtain ⟨ab, pb, evb, _⟩ := (hs.out.l.rw b (by omega)).shape
        have d2 := hs.out.c2
        have d3 := hs.out.c.wc hb
        rw [evb] at d3
        rw [show ((1 : Nat) : Int) = 1 from rfl]
        have ix := index86b (.int .i64 a) (.int .i64 b)
        have hbn : ((g.slot a (outF (fun i => i == c) (g.P a)) v).pv b).ownBlock ≠ some w.heap.size := fun e => by rw [hpv] at e; have := HLB.out _ e; omega
        have HBN := hid hbn
        have hbx' : wr.drew.cell? ⟨w.heap.size, 0, none⟩ = some (.pointer (some ⟨g.cb c, 0, none⟩)) := hbx
        have HX := hid hbx'
        have hb3 : b ≤ 3 * k.n := by omega
        have HP := hid hP
        have HC : Hid (c < (g.slot a (outF (fun i => i == c) (g.P a)) v).nx) := hid hc
        clear huw hq hbn hpv hP huw' h0
        go_wp2
        go_region_with (go_at_call 92; with_reducible (refine (del_is hs.out.drew HC.out _ HX.out hb3 HBN.out evb).mono ?_); rintro e w5 ⟨a5, n5, p5, rfl, own5, g5, o5⟩; have m5 := hs.out.drew.setw hb (out_sub (hs.out.l.sub b hb3)) own5.out g5.out (nw_same o5.out); obtain ⟨q0, q1, q2, s6, F6⟩ := m5; rw [evb] at q1)
        all_goals go_wp2
        all_goals go_roundw
        all_goals first
          | exact ⟨2, _, rfl, by omega, hid (.inr (.inr ⟨rfl, _, _, by rw [HP.out]⟩)), s6, hid ((hfw.out.trans (FW.below (below_drew _))).trans F6.out), box_keep HX.out g5.out HBN.out HWB.out⟩
          | (simp [intOf])
      · have hq2 : q = 2 := by omega
        subst hq2
        have huw' := huw.out
        have e1 : ∃ v v' : Value, g1 = (g.slot a (outF (fun i => i == c) (g.P a)) v).slot b (outF (fun i => i == c) (g.P b)) v' := by
          rcases huw' with ⟨h, _⟩ | ⟨h, _⟩ | ⟨_, h⟩
          · omega
          · omega
          · exact h
        obtain ⟨v, v', rfl⟩ := e1
        obtain ⟨k0, k1, k2, k3, k4⟩ := hs.out.l.ks (i := c) hc hg
        have k2' : wr.cell? ⟨g.cb c, 2, none⟩ = some (.int .i64 (g.a c)) := k2
        have k3' : wr.cell? ⟨g.cb c, 3, none⟩ = some (.int .i64 (g.b c)) := k3
        have f2 : wr.frozen? ⟨g.cb c, 2, none⟩ = false := hs.out.l.kf (i := c) hc 2
        have f3 : wr.frozen? ⟨g.cb c, 3, none⟩ = false := hs.out.l.kf (i := c) hc 3
        have s9 : Hid (St k ((wr.setCell ⟨g.cb c, 2, none⟩ (.int .i64 (-1))).setCell ⟨g.cb c, 3, none⟩ (.int .i64 (-1))) (((g.slot a (outF (fun i => i == c) (g.P a)) v).slot b (outF (fun i => i == c) (g.P b)) v').watch c (-1) (-1))) := hid (hs.out.putwatch (i := c) hc hg (-1) (-1))
        have F9 : Hid (FW k.B wr ((wr.setCell ⟨g.cb c, 2, none⟩ (.int .i64 (-1))).setCell ⟨g.cb c, 3, none⟩ (.int .i64 (-1)))) := hid (hs.out.watchFW (c := c) hc (.int .i64 (-1)) (.int .i64 (-1)))
        clear k0 k1 k2 k3 k4
        rw [show ((2 : Nat) : Int) = 2 from rfl]
        clear huw hq huw' h0 h1
        go_wp2
        go_end0
        exact ⟨rfl, v, v', s9.out, hfw.out.trans F9.out⟩

end

end Go.Proofs.YtikdmgemhfmipaaGreat
