/-
  A trail and the document's, side by side.
-/
import Derived.Test.YtimpoagdidnpiaaFrame
import Derived.Deep.Cut
import Derived.Deep.CutRange
namespace Go.Proofs.Ytimpoagdidnpiaa
open Go.RowKit
set_option linter.unusedVariables false

theorem doB_same (n : Nat) (L : List E) (lev : Nat) (kd l t : Int) : doB n L lev n L lev kd l t = true := by
  unfold doB
  split
  · simp
  · split
    · simp
    · split
      · simp [sameF]
      · rfl

theorem Trl.rs {k : K} {w w' : World} {L : List E} {lev : Nat} {p : V} {rv : Value} (t : Trl k w L lev p) (r : RO w' rv L) : RS w' rv L k.n lev := by
  obtain ⟨h1, h2, h3⟩ := t.len
  obtain ⟨F, S, s, g, _⟩ := t
  refine ⟨r, fun e he => ?_, by omega, h3, h2⟩
  have := g.lt e he
  simp only [vr] at this
  omega

/-- What is so between the rounds: xb is the box of the document's trail. -/
structure Side (k : K) (w : World) (xb : Nat) (rv : Value) (L : List E) (lev : Nat) (p : V) (wr : World) : Prop where
  t : Trl k wr L lev p
  r : RO wr rv L
  aw : Away k p rv
  x : wr.heap[xb]? = some (.cells #[.int .i64 k.n, rv, .int .i64 lev] 28 (0, 0))
  nx : ¬ Mine k p xb
  be : Below w.heap.size w wr
  lo : w.heap.size ≤ xb
  kb : k.B = w.heap.size

section
variable {k : K} {w wr w5 w6 : World} {xb : Nat} {rv rv' : Value} {L L' : List E} {lev lev' : Nat} {p : V}

theorem Side.below (s : Side k w xb rv L lev p wr) (b : Below wr.heap.size wr w5) : Side k w xb rv L lev p w5 :=
  ⟨s.t.below b, s.r.below b, s.aw, box_keep s.x b, s.nx, Below.next s.be b, s.lo, s.kb⟩

theorem Side.rs (s : Side k w xb rv L lev p wr) : RS wr rv L k.n lev := s.t.rs s.r
theorem Side.doin (s : Side k w xb rv L lev p wr) : DoIn k wr L lev p rv L k.n lev := ⟨s.t, s.rs, s.aw⟩
theorem Side.cells (s : Side k w xb rv L lev p wr) : (wr.cell? ⟨xb, 0, none⟩ = some (.int .i64 k.n) ∧ wr.cell? ⟨xb, 1, none⟩ = some rv ∧ wr.cell? ⟨xb, 2, none⟩ = some (.int .i64 lev)) ∧ wr.frozen? ⟨xb, 0, none⟩ = false ∧ wr.frozen? ⟨xb, 1, none⟩ = false ∧ wr.frozen? ⟨xb, 2, none⟩ = false := box_cells s.x

theorem Side.start {w1 w2 : World} {m : Nat} (t : Trl k w1 [] 0 noV) (hn : k.n = m) (hB : k.B = w.heap.size) (b1 : Below w.heap.size w w1) (b2 : Below w1.heap.size w1 w2) :
    Side k w w2.heap.size (.slice none 0 0) [] 0 noV (w2.alloc (.cells #[.int .i64 m, .slice none 0 0, .int .i64 0] 28)) := by
  subst hn
  have b3 := below_alloc w2 (.cells #[.int .i64 k.n, .slice none 0 0, .int .i64 0] 28)
  have t2 := t.below b2
  have h1 := b1.size
  have h2 := b2.size
  refine ⟨t2.below b3, World.ownsRow_nil _ _ _ _, fun j hj => by simp [Value.ownBlock] at hj, new_same _ _, fun hM => ?_, Below.next (Below.next b1 b2) b3, by omega, hB⟩
  have := (t2.lt hM).2
  omega

theorem DoEnd.from {k : K} {w w' w5 : World} {L L2 : List E} {lev : Nat} {p : V} {rv' : Value} (e : DoEnd k w' L lev p L2 rv' w5) (b : Below w.heap.size w w') : DoEnd k w L lev p L2 rv' w5 := by
  obtain ⟨p', h1, h2, h3, f⟩ := e
  exact ⟨p', h1, h2, h3, (Fr.below b).trans f⟩

/-- Behind the deed: the document's trail is the answer now. -/
theorem Side.next (s : Side k w xb rv L lev p wr) (e : DoEnd k wr L' lev' p L' rv' w5) (b : Below w5.heap.size w5 w6) :
    w6.heap[xb]? = some (.cells #[.int .i64 k.n, rv, .int .i64 lev] 28 (0, 0)) ∧ ∃ p', Side k w xb rv' L' lev' p' (((w6.setCell ⟨xb, 0, none⟩ (.int .i64 k.n)).setCell ⟨xb, 1, none⟩ rv').setCell ⟨xb, 2, none⟩ (.int .i64 lev')) := by
  obtain ⟨p', t', r', a', f⟩ := e
  have x6 := box_keep (f.box s.x s.nx) b
  have nx := f.not_mine (blk_lt s.x) s.nx
  have be6 := Below.next (s.t.be f s.kb s.be) b
  have g := grown3 w6 xb 0 1 2 (.int .i64 k.n) rv' (.int .i64 lev')
  refine ⟨x6, p', (t'.below b).keep g (fun j hj => by cases hj; exact nx), (r'.below b).put3 x6 _ _ _, a', ?_, nx, put3_below be6 s.lo _ _ _, s.lo, s.kb⟩
  rw [set_same (o := 2) (set_same (o := 1) (set_same (o := 0) x6 _) _) _]
  rfl

/-- What is so behind the deed, ahead of the document's trail being written. -/
def Half (k : K) (w : World) (xb : Nat) (rv : Value) (lev : Nat) (L' : List E) (lev' : Nat) (yb : Nat) (rv' : Value) (wx : World) : Prop :=
  wx.heap[yb]? = some (.cells #[.int .i64 k.n, rv', .int .i64 lev'] 28 (0, 0)) ∧ wx.heap[xb]? = some (.cells #[.int .i64 k.n, rv, .int .i64 lev] 28 (0, 0)) ∧ ∃ p', Side k w xb rv' L' lev' p' (((wx.setCell ⟨xb, 0, none⟩ (.int .i64 k.n)).setCell ⟨xb, 1, none⟩ rv').setCell ⟨xb, 2, none⟩ (.int .i64 lev'))

theorem half_a (s : Side k w xb rv L lev p wr) (e : DoEnd k wr L' lev' p L' rv' w5) : Half k w xb rv lev L' lev' w5.heap.size rv' (w5.alloc (.cells #[.int .i64 k.n, rv', .int .i64 lev'] 28)) := by
  obtain ⟨h1, h2⟩ := s.next e (below_alloc w5 (.cells #[.int .i64 k.n, rv', .int .i64 lev'] 28))
  exact ⟨new_same _ _, h1, h2⟩

/-- The box that was laid ahead of the deed. -/
theorem half_b {p0 q0 s0 : Value} (s : Side k w xb rv L lev p wr) (e : DoEnd k (wr.alloc (.cells #[p0, q0, s0] 28)).drew L' lev' p L' rv' w5) :
    w5.heap[wr.heap.size]? = some (.cells #[p0, q0, s0] 28 (0, 0)) ∧ Half k w xb rv lev L' lev' wr.heap.size rv' (((w5.setCell ⟨wr.heap.size, 0, none⟩ (.int .i64 k.n)).setCell ⟨wr.heap.size, 1, none⟩ rv').setCell ⟨wr.heap.size, 2, none⟩ (.int .i64 lev')) := by
  have e1 := e
  obtain ⟨p', t', r', a', f⟩ := e1
  have hy : (wr.alloc (.cells #[p0, q0, s0] 28)).drew.heap[wr.heap.size]? = some (.cells #[p0, q0, s0] 28 (0, 0)) := new_same wr _
  have nm : ¬ Mine k p wr.heap.size := fun h => by have := (s.t.lt h).2; omega
  have y5 := f.box hy nm
  have nm5 := f.not_mine (blk_lt hy) nm
  refine ⟨y5, ?_⟩
  have g := grown3 w5 wr.heap.size 0 1 2 (.int .i64 k.n) rv' (.int .i64 lev')
  have bA : Below wr.heap.size wr (wr.alloc (.cells #[p0, q0, s0] 28)).drew := by go_grown
  have e2 : DoEnd k wr L' lev' p L' rv' (((w5.setCell ⟨wr.heap.size, 0, none⟩ (.int .i64 k.n)).setCell ⟨wr.heap.size, 1, none⟩ rv').setCell ⟨wr.heap.size, 2, none⟩ (.int .i64 lev')) := by
    refine ⟨p', t'.keep g (fun j hj => by cases hj; exact nm5), r'.put3 y5 _ _ _, a', ?_⟩
    have f2 := (Fr.below (k := k) (p := p) bA).trans f
    refine ⟨g.os.trans f2.os, g.tape.trans f2.tape, g.output.trans f2.output, Nat.le_trans f2.size g.size, fun j hj hm => ?_, f2.new⟩
    rw [g.block j (Nat.lt_of_lt_of_le hj f2.size) (fun e => by have := Option.some.inj e; omega)]
    exact f2.block j hj hm
  obtain ⟨h1, h2⟩ := s.next e2 (Below.refl _ _)
  refine ⟨?_, h1, h2⟩
  rw [set_same (o := 2) (set_same (o := 1) (set_same (o := 0) y5 _) _) _]
  rfl
end

end Go.Proofs.Ytimpoagdidnpiaa
