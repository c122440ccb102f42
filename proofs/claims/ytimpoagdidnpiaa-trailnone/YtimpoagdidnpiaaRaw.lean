/-
  The blocks of a trail, and what a call changes of them.
-/
import Derived.Test.YtimpoagdidnpiaaMem
namespace Go.Proofs.Ytimpoagdidnpiaa
open Go.RowKit
set_option linter.unusedVariables false

structure K where
  B : Nat
  FB : Nat
  OB : Nat
  n : Nat

/-- The lists that a trail has: literals, starts. -/
structure V where
  l : Value
  s : Value

/-- What is known of the variables, in memory. -/
def Facts (w : World) (FB n : Nat) (F : Nat → Fc) : Prop :=
  ∃ c : Array Value, w.heap[FB]? = some (.cells c 55 (0, 0)) ∧ c.size = n * 3 ∧ ∀ i, i < n → c[i * 3]? = some (.int .i64 (F i).v) ∧ c[i * 3 + 1]? = some (.int .i64 (F i).g) ∧ c[i * 3 + 2]? = some (.int .i64 (F i).r)

structure Raw (k : K) (w : World) (F : Nat → Fc) (ls ss : List Int) (p : V) : Prop where
  lo : k.B ≤ k.FB
  lt : k.FB < k.OB
  hn : k.n ≤ 1048576
  cl : w.heap[k.OB]? = some (.cells #[.slice (some ⟨k.FB, 0, none⟩) k.n k.n, p.l, p.s] 48 (0, 0))
  fc : Facts w k.FB k.n F
  rl : LRow w (k.OB + 1) p.l ls
  rs : OwnL w (k.OB + 1) p.s ss
  ne : ∀ j, p.l.ownBlock = some j → p.s.ownBlock ≠ some j

def Mine (k : K) (p : V) (j : Nat) : Prop := j = k.FB ∨ j = k.OB ∨ p.l.ownBlock = some j ∨ p.s.ownBlock = some j

/-- From w to w' blocks of the trail alone have changed; what it has now is of it, or new. -/
structure Fr (k : K) (p p' : V) (w w' : World) : Prop where
  os : w'.os = w.os
  tape : w'.tape = w.tape
  output : w'.output = w.output
  size : w.heap.size ≤ w'.heap.size
  block : ∀ j, j < w.heap.size → ¬ Mine k p j → w'.heap[j]? = w.heap[j]?
  new : ∀ j, j < w.heap.size → Mine k p' j → Mine k p j

theorem Fr.refl (k : K) (p : V) (w : World) : Fr k p p w w := ⟨rfl, rfl, rfl, Nat.le_refl _, fun _ _ _ => rfl, fun _ _ h => h⟩

theorem Fr.trans {k : K} {p p' p'' : V} {w w' w'' : World} (h : Fr k p p' w w') (g : Fr k p' p'' w' w'') : Fr k p p'' w w'' := by
  refine ⟨g.os.trans h.os, g.tape.trans h.tape, g.output.trans h.output, Nat.le_trans h.size g.size, fun j hj hm => ?_, fun j hj hm => ?_⟩
  · rw [g.block j (Nat.lt_of_lt_of_le hj h.size) (fun c => hm (h.new j hj c)), h.block j hj hm]
  · exact h.new j hj (g.new j (Nat.lt_of_lt_of_le hj h.size) hm)

theorem Fr.grown {k : K} {p : V} {w w' : World} {r : Option Nat} (g : w.grownBy w' r) (hr : ∀ j, r = some j → Mine k p j) : Fr k p p w w' :=
  ⟨g.os, g.tape, g.output, g.size, fun j hj hm => g.block j hj (fun e => hm (hr j e.symm)), fun _ _ h => h⟩

theorem Fr.below {k : K} {p : V} {w w' : World} (b : Below w.heap.size w w') : Fr k p p w w' := Fr.grown (grown_below b) (fun j hj => by cases hj)
theorem Fr.drew (k : K) (p : V) (w : World) : Fr k p p w w.drew := Fr.below (below_drew w)

/-- What is known of the variables and the trail's own fields alone have changed. -/
structure Lo (k : K) (w w' : World) : Prop where
  os : w'.os = w.os
  tape : w'.tape = w.tape
  output : w'.output = w.output
  size : w.heap.size ≤ w'.heap.size
  block : ∀ j, j < w.heap.size → j ≠ k.FB → j ≠ k.OB → w'.heap[j]? = w.heap[j]?

theorem Lo.refl (k : K) (w : World) : Lo k w w := ⟨rfl, rfl, rfl, Nat.le_refl _, fun _ _ _ _ => rfl⟩
theorem Lo.trans {k : K} {w w' w'' : World} (h : Lo k w w') (g : Lo k w' w'') : Lo k w w'' :=
  ⟨g.os.trans h.os, g.tape.trans h.tape, g.output.trans h.output, Nat.le_trans h.size g.size, fun j hj h1 h2 => (g.block j (Nat.lt_of_lt_of_le hj h.size) h1 h2).trans (h.block j hj h1 h2)⟩
theorem Lo.below {k : K} {w w' : World} (b : Below w.heap.size w w') : Lo k w w' := ⟨b.os, b.tape, b.output, b.size, fun j hj _ _ => b.block j hj⟩
theorem Lo.grown {k : K} {w w1 w' : World} {r : Option Nat} (h : Lo k w w1) (g : w1.grownBy w' r) (hr : ∀ j, r = some j → j < w.heap.size → j = k.FB ∨ j = k.OB) : Lo k w w' :=
  ⟨g.os.trans h.os, g.tape.trans h.tape, g.output.trans h.output, Nat.le_trans h.size g.size, fun j hj h1 h2 => (g.block j (Nat.lt_of_lt_of_le hj h.size) (fun c => (hr j c.symm hj).elim h1 h2)).trans (h.block j hj h1 h2)⟩
theorem Lo.fr {k : K} {p p' : V} {w w' : World} (h : Lo k w w') (hl : p'.l.ownBlock = p.l.ownBlock) (hs : p'.s.ownBlock = p.s.ownBlock) : Fr k p p' w w' := by
  refine ⟨h.os, h.tape, h.output, h.size, fun j hj hm => h.block j hj (fun c => hm (.inl c)) (fun c => hm (.inr (.inl c))), fun j _ hm => ?_⟩
  rcases hm with e | e | e | e
  · exact .inl e
  · exact .inr (.inl e)
  · exact .inr (.inr (.inl (hl ▸ e)))
  · exact .inr (.inr (.inr (hs ▸ e)))

section
variable {k : K} {w w' : World} {F : Nat → Fc} {ls ss : List Int} {p : V}

theorem Facts.keep {FB n : Nat} (h : Facts w FB n F) {r : Option Nat} (g : w.grownBy w' r) (hr : ∀ j, r = some j → j ≠ FB) : Facts w' FB n F := by
  obtain ⟨c, h1, h2⟩ := h
  exact ⟨c, by rw [g.block _ (blk_lt h1) (fun e => hr _ e.symm rfl)]; exact h1, h2⟩

theorem OwnL.keep {base : Nat} {v : Value} {xs : List Int} (h : OwnL w base v xs) {r : Option Nat} (g : w.grownBy w' r) (hr : ∀ j, r = some j → v.ownBlock ≠ some j) : OwnL w' base v xs := own_keep h g hr
theorem OwnL.lt {base : Nat} {v : Value} {xs : List Int} (h : OwnL w base v xs) {j : Nat} (hj : v.ownBlock = some j) : base ≤ j ∧ j < w.heap.size := own_lt h hj

theorem Raw.keep (s : Raw k w F ls ss p) {r : Option Nat} (g : w.grownBy w' r) (hr : ∀ j, r = some j → ¬ Mine k p j) : Raw k w' F ls ss p := by
  refine ⟨s.lo, s.lt, s.hn, ?_, s.fc.keep g (fun j hj e => hr j hj (.inl e)), s.rl.keep g (fun j hj e => hr j hj (.inr (.inr (.inl e)))), s.rs.keep g (fun j hj e => hr j hj (.inr (.inr (.inr e)))), s.ne⟩
  rw [g.block _ (blk_lt s.cl) (fun e => hr _ e.symm (.inr (.inl rfl)))]; exact s.cl

theorem Raw.below (s : Raw k w F ls ss p) (b : Below w.heap.size w w') : Raw k w' F ls ss p := s.keep (grown_below b) (fun j hj => by cases hj)
theorem Raw.drew (s : Raw k w F ls ss p) : Raw k w.drew F ls ss p := s.below (below_drew w)

theorem Raw.fb_lt (s : Raw k w F ls ss p) : k.FB < w.heap.size := by obtain ⟨c, h, _⟩ := s.fc; exact blk_lt h

theorem Raw.mine_lt (s : Raw k w F ls ss p) {j : Nat} (h : Mine k p j) : k.B ≤ j ∧ j < w.heap.size := by
  have h1 := s.lo; have h3 := s.lt
  rcases h with e | e | e | e
  · exact ⟨by omega, e ▸ s.fb_lt⟩
  · exact ⟨by omega, e ▸ blk_lt s.cl⟩
  · have := s.rl.lt e; exact ⟨by omega, this.2⟩
  · have := s.rs.lt e; exact ⟨by omega, this.2⟩

theorem Fr.be {p' : V} (s : Raw k w F ls ss p) (f : Fr k p p' w w') (hB : k.B ≤ w.heap.size) : Below k.B w w' :=
  ⟨f.os, f.tape, f.output, f.size, fun j hj => f.block j (by omega) (fun h => by have := s.mine_lt h; omega)⟩

/-- What is known of a variable is written. -/
theorem Facts.put {FB n : Nat} (h : Facts w FB n F) {i : Nat} (hi : i < n) (f : Fc) : Facts (((w.setCell ⟨FB, i * 3, none⟩ (.int .i64 f.v)).setCell ⟨FB, i * 3 + 1, none⟩ (.int .i64 f.g)).setCell ⟨FB, i * 3 + 2, none⟩ (.int .i64 f.r)) FB n (upd F i f) := by
  obtain ⟨c, h1, h2, h3⟩ := h
  refine ⟨_, set_same (set_same (set_same h1 _) _) _, by simpa using h2, fun j hj => ?_⟩
  obtain ⟨q1, q2, q3⟩ := h3 j hj
  simp only [Array.getElem?_setIfInBounds, upd]
  by_cases e : j = i
  · subst e
    have l1 : j * 3 < c.size := by omega
    have l2 : j * 3 + 1 < c.size := by omega
    have l3 : j * 3 + 2 < c.size := by omega
    refine ⟨?_, ?_, ?_⟩ <;> simp [l1, l2, l3]
  · rw [if_neg e]
    refine ⟨?_, ?_, ?_⟩
    · rw [if_neg (by omega), if_neg (by omega), if_neg (by omega)]; exact q1
    · rw [if_neg (by omega), if_neg (by omega), if_neg (by omega)]; exact q2
    · rw [if_neg (by omega), if_neg (by omega), if_neg (by omega)]; exact q3

theorem grown3 (w : World) (b o1 o2 o3 : Nat) (x y z : Value) : w.grownBy (((w.setCell ⟨b, o1, none⟩ x).setCell ⟨b, o2, none⟩ y).setCell ⟨b, o3, none⟩ z) (some b) :=
  grown_two (grown_two (grown_set w ⟨b, o1, none⟩ x) (grown_set _ ⟨b, o2, none⟩ y)) (grown_set _ ⟨b, o3, none⟩ z)

theorem Raw.putf (s : Raw k w F ls ss p) {i : Nat} (hi : i < k.n) (f : Fc) : Raw k (((w.setCell ⟨k.FB, i * 3, none⟩ (.int .i64 f.v)).setCell ⟨k.FB, i * 3 + 1, none⟩ (.int .i64 f.g)).setCell ⟨k.FB, i * 3 + 2, none⟩ (.int .i64 f.r)) (upd F i f) ls ss p := by
  have g := grown3 w k.FB (i * 3) (i * 3 + 1) (i * 3 + 2) (.int .i64 f.v) (.int .i64 f.g) (.int .i64 f.r)
  have hlt := s.lt
  refine ⟨s.lo, s.lt, s.hn, ?_, s.fc.put hi f, s.rl.keep g (fun j hj e => ?_), s.rs.keep g (fun j hj e => ?_), s.ne⟩
  · rw [g.block _ (blk_lt s.cl) (fun e => by have := Option.some.inj e; omega)]; exact s.cl
  · cases hj; have := (s.rl.lt e).1; omega
  · cases hj; have := (s.rs.lt e).1; omega

/-- The literals are others now. -/
theorem Raw.putl {v' : Value} {ls' : List Int} (s : Raw k w F ls ss p) (g : w.grownBy w' p.l.ownBlock) (own : LRow w' (k.OB + 1) v' ls') (nw : Nw w p.l v') :
    w'.heap[k.OB]? = some (.cells #[.slice (some ⟨k.FB, 0, none⟩) k.n k.n, p.l, p.s] 48 (0, 0)) ∧ Raw k (w'.setCell ⟨k.OB, 1, none⟩ v') F ls' ss ⟨v', p.s⟩ ∧ Fr k p ⟨v', p.s⟩ w (w'.setCell ⟨k.OB, 1, none⟩ v') := by
  have h1 := s.lt
  have far : ∀ j, p.l.ownBlock = some j → k.OB < j := fun j e => (s.rl.lt e).1
  have e1 : w'.heap[k.OB]? = w.heap[k.OB]? := g.block _ (blk_lt s.cl) (fun e => by have := far _ e.symm; omega)
  have e4 := e1.trans s.cl
  have g2 := grown_set w' ⟨k.OB, 1, none⟩ v'
  have f1 : Facts w' k.FB k.n F := s.fc.keep g (fun j hj e => by have := far j hj; omega)
  have r1 : OwnL w' (k.OB + 1) p.s ss := s.rs.keep g (fun j hj e => s.ne j hj e)
  refine ⟨e4, ⟨s.lo, s.lt, s.hn, ?_, f1.keep g2 (fun j hj => by cases hj; show k.OB ≠ k.FB; omega), own.keep g2 (fun j hj e => ?_), r1.keep g2 (fun j hj e => ?_), ?_⟩, ?_⟩
  · rw [set_same e4]; rfl
  · cases hj; have := (own.lt e).1; simp at this; omega
  · cases hj; have := (r1.lt e).1; simp at this; omega
  · intro j hj hs
    rcases nw j hj with e | e
    · exact s.ne j e hs
    · have := (s.rs.lt hs).2; omega
  · refine ⟨g2.os.trans g.os, g2.tape.trans g.tape, g2.output.trans g.output, Nat.le_trans g.size g2.size, fun j hj hm => ?_, fun j hj hm => ?_⟩
    · rw [g2.block j (Nat.lt_of_lt_of_le hj g.size) (fun c => hm (.inr (.inl (Option.some.inj c))))]
      exact g.block j hj (fun c => hm (.inr (.inr (.inl c.symm))))
    · rcases hm with e | e | e | e
      · exact .inl e
      · exact .inr (.inl e)
      · rcases nw j e with e | e
        · exact .inr (.inr (.inl e))
        · omega
      · exact .inr (.inr (.inr e))

/-- The starts are others now. -/
theorem Raw.puts {v' : Value} {ss' : List Int} (s : Raw k w F ls ss p) (g : w.grownBy w' p.s.ownBlock) (own : OwnL w' (k.OB + 1) v' ss') (nw : Nw w p.s v') :
    w'.heap[k.OB]? = some (.cells #[.slice (some ⟨k.FB, 0, none⟩) k.n k.n, p.l, p.s] 48 (0, 0)) ∧ Raw k (w'.setCell ⟨k.OB, 2, none⟩ v') F ls ss' ⟨p.l, v'⟩ ∧ Fr k p ⟨p.l, v'⟩ w (w'.setCell ⟨k.OB, 2, none⟩ v') := by
  have h1 := s.lt
  have far : ∀ j, p.s.ownBlock = some j → k.OB < j := fun j e => (s.rs.lt e).1
  have e1 : w'.heap[k.OB]? = w.heap[k.OB]? := g.block _ (blk_lt s.cl) (fun e => by have := far _ e.symm; omega)
  have e4 := e1.trans s.cl
  have g2 := grown_set w' ⟨k.OB, 2, none⟩ v'
  have f1 : Facts w' k.FB k.n F := s.fc.keep g (fun j hj e => by have := far j hj; omega)
  have r1 : LRow w' (k.OB + 1) p.l ls := s.rl.keep g (fun j hj e => s.ne j e hj)
  refine ⟨e4, ⟨s.lo, s.lt, s.hn, ?_, f1.keep g2 (fun j hj => by cases hj; show k.OB ≠ k.FB; omega), r1.keep g2 (fun j hj e => ?_), own.keep g2 (fun j hj e => ?_), ?_⟩, ?_⟩
  · rw [set_same e4]; rfl
  · cases hj; have := (r1.lt e).1; simp at this; omega
  · cases hj; have := (own.lt e).1; simp at this; omega
  · intro j hl hj
    rcases nw j hj with e | e
    · exact s.ne j hl e
    · have := (s.rl.lt hl).2; omega
  · refine ⟨g2.os.trans g.os, g2.tape.trans g.tape, g2.output.trans g.output, Nat.le_trans g.size g2.size, fun j hj hm => ?_, fun j hj hm => ?_⟩
    · rw [g2.block j (Nat.lt_of_lt_of_le hj g.size) (fun c => hm (.inr (.inl (Option.some.inj c))))]
      exact g.block j hj (fun c => hm (.inr (.inr (.inr c.symm))))
    · rcases hm with e | e | e | e
      · exact .inl e
      · exact .inr (.inl e)
      · exact .inr (.inr (.inl e))
      · rcases nw j e with e | e
        · exact .inr (.inr (.inr e))
        · omega

theorem Raw.c0 (s : Raw k w F ls ss p) : w.cell? ⟨k.OB, 0, none⟩ = some (.slice (some ⟨k.FB, 0, none⟩) k.n k.n) := by rw [cell_of s.cl]; rfl
theorem Raw.c1 (s : Raw k w F ls ss p) : w.cell? ⟨k.OB, 1, none⟩ = some p.l := by rw [cell_of s.cl]; rfl
theorem Raw.c2 (s : Raw k w F ls ss p) : w.cell? ⟨k.OB, 2, none⟩ = some p.s := by rw [cell_of s.cl]; rfl
theorem Raw.cf (s : Raw k w F ls ss p) (i : Nat) : w.frozen? ⟨k.OB, i, none⟩ = false := frozen_of s.cl
theorem Raw.fa (s : Raw k w F ls ss p) {i : Nat} (h : i < k.n) : w.cell? ⟨k.FB, i * 3, none⟩ = some (.int .i64 (F i).v) ∧ w.cell? ⟨k.FB, i * 3 + 1, none⟩ = some (.int .i64 (F i).g) ∧ w.cell? ⟨k.FB, i * 3 + 2, none⟩ = some (.int .i64 (F i).r) := by
  obtain ⟨c, h1, h2, h3⟩ := s.fc
  obtain ⟨q1, q2, q3⟩ := h3 i h
  exact ⟨by rw [cell_of h1]; exact q1, by rw [cell_of h1]; exact q2, by rw [cell_of h1]; exact q3⟩
theorem Raw.ff (s : Raw k w F ls ss p) (i : Nat) : w.frozen? ⟨k.FB, i, none⟩ = false := by obtain ⟨c, h1, _⟩ := s.fc; exact frozen_of h1
theorem Raw.ls_shape (s : Raw k w F ls ss p) : ∃ ao cap, p.s = .slice ao ss.length cap := by
  rcases s.rs.2 with ⟨h1, h2⟩ | ⟨b, cap, cur, h1, _⟩
  · exact ⟨none, 0, by rw [h1, h2]⟩
  · exact ⟨_, _, h1⟩
end

end Go.Proofs.Ytimpoagdidnpiaa
