/-
  What is known on the way, in memory.
  Literals that are met.
  Literals that are met, one by one; a literal that is replaced.
-/
import Derived.Test.YtimfjoinjfecjaaGreatG10

namespace Go.Proofs.YtimfjoinjfecjaaGreat
open Go.RowKit
set_option linter.unusedVariables false

structure SK where
  B : Nat
  SB : Nat
  tv : Value
  cv : Value
  lv : Nat

structure SV where
  mv : Value
  ov : Value
  pb : Option Nat

def natI (l : List Nat) : List Int := l.map (fun v : Nat => (v : Int))

structure Sr (k : SK) (w : World) (s : PS) (v : SV) : Prop where
  blk : ∃ cs : Array Value, w.heap[k.SB]? = some (.cells cs 124 (0, 0)) ∧ cs[0]? = some k.tv ∧ cs[1]? = some k.cv ∧ cs[2]? = some (.int .i64 k.lv) ∧ cs[3]? = some (ptrO v.pb) ∧ cs[259]? = some v.mv ∧ cs[260]? = some (.int .i64 s.op) ∧ cs[261]? = some v.ov
  lo : k.B ≤ k.SB
  pg : Pg w v.pb s.mrk
  pl : ∀ b, v.pb = some b → k.SB < b
  me : OwnL w (k.SB + 1) v.mv (natI s.met)
  ot : OwnL w (k.SB + 1) v.ov s.oth
  ap : ∀ j, v.mv.ownBlock = some j → v.ov.ownBlock ≠ some j

def MineS (k : SK) (v : SV) (j : Nat) : Prop := j = k.SB ∨ v.pb = some j ∨ v.mv.ownBlock = some j ∨ v.ov.ownBlock = some j

structure SF (k : SK) (v v' : SV) (w w' : World) : Prop where
  os : w'.os = w.os
  tape : w'.tape = w.tape
  output : w'.output = w.output
  size : w.heap.size ≤ w'.heap.size
  block : ∀ j, j < w.heap.size → ¬ MineS k v j → w'.heap[j]? = w.heap[j]?
  new : ∀ j, j < w.heap.size → MineS k v' j → MineS k v j

theorem SF.refl (k : SK) (v : SV) (w : World) : SF k v v w w := ⟨rfl, rfl, rfl, Nat.le_refl _, fun _ _ _ => rfl, fun _ _ h => h⟩

theorem SF.trans {k : SK} {v v' v'' : SV} {w w' w'' : World} (h : SF k v v' w w') (g : SF k v' v'' w' w'') : SF k v v'' w w'' :=
  ⟨g.os.trans h.os, g.tape.trans h.tape, g.output.trans h.output, Nat.le_trans h.size g.size,
   fun j hj hm => (g.block j (Nat.lt_of_lt_of_le hj h.size) (fun c => hm (h.new j hj c))).trans (h.block j hj hm),
   fun j hj hm => h.new j hj (g.new j (Nat.lt_of_lt_of_le hj h.size) hm)⟩

theorem SF.below {k : SK} {v : SV} {w w' : World} (b : Below w.heap.size w w') : SF k v v w w' := ⟨b.os, b.tape, b.output, b.size, fun j hj _ => b.block j hj, fun _ _ h => h⟩

section
variable {k : SK} {w w' w1 w2 : World} {s : PS} {v v' : SV}

theorem ownL_lt {w : World} {base : Nat} {v : Value} {xs : List Int} (h : OwnL w base v xs) {j : Nat} (hj : v.ownBlock = some j) : base ≤ j ∧ j < w.heap.size ∧ ∃ c, w.heap[j]? = some (.cells c 3 (0, 0)) := by
  rcases h.2 with ⟨rfl, _⟩ | ⟨b, cap, cur, rfl, hb, hg, _⟩
  · simp [Value.ownBlock] at hj
  · simp [Value.ownBlock] at hj; subst hj; exact ⟨hb, blk_lt hg, _, hg⟩

theorem Sr.mine (h : Sr k w s v) {j : Nat} (hm : MineS k v j) : k.SB ≤ j ∧ j < w.heap.size ∧ ∃ c T, w.heap[j]? = some (.cells c T (0, 0)) := by
  rcases hm with rfl | e | e | e
  · obtain ⟨cs, hb, _⟩ := h.blk; exact ⟨Nat.le_refl _, blk_lt hb, _, _, hb⟩
  · have h1 := h.pl j e
    have h2 := h.pg
    rw [e] at h2
    obtain ⟨pc, hb, _⟩ := h2
    exact ⟨by omega, blk_lt hb, _, _, hb⟩
  · obtain ⟨h1, h2, c, h3⟩ := ownL_lt h.me e; exact ⟨by omega, h2, _, _, h3⟩
  · obtain ⟨h1, h2, c, h3⟩ := ownL_lt h.ot e; exact ⟨by omega, h2, _, _, h3⟩

/-- All that is older is as it was. -/
theorem Sr.be (h : Sr k w s v) (f : SF k v v' w w') : Below k.B w w' := by
  refine ⟨f.os, f.tape, f.output, f.size, fun j hj => ?_⟩
  have h1 := h.lo
  obtain ⟨cs, hb, _⟩ := h.blk
  have h2 := blk_lt hb
  exact f.block j (by omega) (fun c => by have := (h.mine c).1; omega)

theorem Sr.ko (h : Sr k w s v) (f : SF k v v' w w') : KeepsOthers w w' := by
  refine ⟨f.size, fun j o hj ho => ?_⟩
  have hlt : j < w.heap.size := blk_lt hj
  rw [f.block j hlt (fun c => ?_)]
  · exact hj
  · obtain ⟨_, _, c, T, e⟩ := h.mine c
    rw [hj] at e
    cases e
    cases ho

theorem own_keepS {base : Nat} {x : Value} {xs : List Int} (h : OwnL w base x xs) (hk : ∀ j, x.ownBlock = some j → w'.heap[j]? = w.heap[j]?) : OwnL w' base x xs := by
  refine ⟨h.1, ?_⟩
  rcases h.2 with h2 | ⟨b, cap, cur, rfl, hb, hg, rest⟩
  · exact .inl h2
  · exact .inr ⟨b, cap, cur, rfl, hb, by rw [hk b rfl]; exact hg, rest⟩

/-- Where none of its blocks has changed all is as it was. -/
theorem Sr.same (h : Sr k w s v) (hk : ∀ j, MineS k v j → w'.heap[j]? = w.heap[j]?) : Sr k w' s v := by
  obtain ⟨cs, hb, rest⟩ := h.blk
  exact ⟨⟨cs, by rw [hk _ (.inl rfl)]; exact hb, rest⟩, h.lo, h.pg.keep (fun b e => hk b (.inr (.inl e))), h.pl, own_keepS h.me (fun j e => hk j (.inr (.inr (.inl e)))), own_keepS h.ot (fun j e => hk j (.inr (.inr (.inr e)))), h.ap⟩

theorem Sr.below (h : Sr k w s v) (b : Below w.heap.size w w') : Sr k w' s v := h.same (fun j hm => b.block j (h.mine hm).2.1)

theorem Sr.c (h : Sr k w s v) : w.cell? ⟨k.SB, 0, none⟩ = some k.tv ∧ w.cell? ⟨k.SB, 1, none⟩ = some k.cv ∧ w.cell? ⟨k.SB, 2, none⟩ = some (.int .i64 k.lv) ∧ w.cell? ⟨k.SB, 3, none⟩ = some (ptrO v.pb) ∧ w.cell? ⟨k.SB, 259, none⟩ = some v.mv ∧ w.cell? ⟨k.SB, 260, none⟩ = some (.int .i64 s.op) ∧ w.cell? ⟨k.SB, 261, none⟩ = some v.ov := by
  obtain ⟨cs, hb, h0, h1, h2, h3, h4, h5, h6⟩ := h.blk
  exact ⟨(cell_of hb).trans h0, (cell_of hb).trans h1, (cell_of hb).trans h2, (cell_of hb).trans h3, (cell_of hb).trans h4, (cell_of hb).trans h5, (cell_of hb).trans h6⟩

theorem Sr.f (h : Sr k w s v) (o : Nat) : w.frozen? ⟨k.SB, o, none⟩ = false := by obtain ⟨cs, hb, _⟩ := h.blk; exact frozen_of hb

theorem Sr.lt (h : Sr k w s v) : k.SB < w.heap.size := (h.mine (.inl rfl)).2.1

/-- A mark is set. -/
theorem Sr.putmk (h : Sr k w s v) {cs cs' : Array Value} {i m : Nat} {pb' : Option Nat} (e : MarkEnd w k.SB 3 124 cs v.pb s.mrk i m pb' cs' w') (hcs : w.heap[k.SB]? = some (.cells cs 124 (0, 0))) :
    Sr k w' { s with mrk := upN s.mrk i m } { v with pb := pb' } ∧ SF k v { v with pb := pb' } w w' := by
  obtain ⟨cs0, hb, h0, h1, h2, h3, h4, h5, h6⟩ := h.blk
  rw [hcs] at hb
  cases hb
  have hlt := h.lt
  have key : ∀ j, (v.mv.ownBlock = some j ∨ v.ov.ownBlock = some j) → w'.heap[j]? = w.heap[j]? := fun j hj => by
    have hj3 : ∃ c, w.heap[j]? = some (.cells c 3 (0, 0)) ∧ k.SB + 1 ≤ j ∧ j < w.heap.size := by
      rcases hj with hj | hj
      · obtain ⟨a, b, c, d⟩ := ownL_lt h.me hj; exact ⟨c, d, a, b⟩
      · obtain ⟨a, b, c, d⟩ := ownL_lt h.ot hj; exact ⟨c, d, a, b⟩
    obtain ⟨c, hc, h7, h8⟩ := hj3
    refine e.block j h8 (by omega) (fun q => ?_)
    have hp := h.pg
    rw [q] at hp
    obtain ⟨pc, hp1, _⟩ := hp
    rw [hc] at hp1
    cases hp1
  refine ⟨⟨⟨cs', e.blk, (e.oth 0 (by decide)).trans h0, (e.oth 1 (by decide)).trans h1, (e.oth 2 (by decide)).trans h2, e.ptr, (e.oth 259 (by decide)).trans h4, (e.oth 260 (by decide)).trans h5, (e.oth 261 (by decide)).trans h6⟩, h.lo, e.pg, ?_, own_keepS h.me (fun j hj => key j (.inl hj)), own_keepS h.ot (fun j hj => key j (.inr hj)), h.ap⟩, ⟨e.os, e.tape, e.output, e.size, fun j hj hm => e.block j hj (fun c => hm (.inl c)) (fun c => hm (.inr (.inl c))), fun j hj hm => ?_⟩⟩
  · intro b hb
    rcases e.nw with q | q
    · exact h.pl b (by rw [← q]; exact hb)
    · simp only at hb; rw [q] at hb; cases hb; exact hlt
  · rcases hm with c | c | c | c
    · exact .inl c
    · rcases e.nw with q | q
      · exact .inr (.inl (by rw [← q]; exact c))
      · simp only at c; rw [q] at c; cases c; omega
    · exact .inr (.inr (.inl c))
    · exact .inr (.inr (.inr c))

theorem set_ne {cs : Array Value} {o o' : Nat} (x : Value) (h : o ≠ o') : (cs.setIfInBounds o x)[o']? = cs[o']? := Array.getElem?_setIfInBounds_ne h
theorem set_eq {cs : Array Value} {o : Nat} {y : Value} (x : Value) (h : cs[o]? = some y) : (cs.setIfInBounds o x)[o]? = some x := by
  have := (Array.getElem?_eq_some_iff.1 h).1
  simp [this]

/-- How many are left. -/
theorem Sr.putop (h : Sr k w s v) (x : Int) : Sr k (w.setCell ⟨k.SB, 260, none⟩ (.int .i64 x)) { s with op := x } v ∧ SF k v v w (w.setCell ⟨k.SB, 260, none⟩ (.int .i64 x)) := by
  obtain ⟨cs, hb, h0, h1, h2, h3, h4, h5, h6⟩ := h.blk
  have ho : ∀ j, j ≠ k.SB → (w.setCell ⟨k.SB, 260, none⟩ (.int .i64 x)).heap[j]? = w.heap[j]? := fun j hj => set_other _ hj
  have gt : ∀ j, MineS k v j → j ≠ k.SB → (w.setCell ⟨k.SB, 260, none⟩ (.int .i64 x)).heap[j]? = w.heap[j]? := fun j _ hj => ho j hj
  refine ⟨⟨⟨_, set_same hb _, (set_ne _ (by decide)).trans h0, (set_ne _ (by decide)).trans h1, (set_ne _ (by decide)).trans h2, (set_ne _ (by decide)).trans h3, (set_ne _ (by decide)).trans h4, set_eq _ h5, (set_ne _ (by decide)).trans h6⟩, h.lo, h.pg.keep (fun b e => ho b (by have := h.pl b e; omega)), h.pl, own_keepS h.me (fun j e => ho j (by have := (ownL_lt h.me e).1; omega)), own_keepS h.ot (fun j e => ho j (by have := (ownL_lt h.ot e).1; omega)), h.ap⟩, ⟨rfl, rfl, rfl, by simp [World.setCell], fun j hj hm => ho j (fun c => hm (.inl c)), fun _ _ hm => hm⟩⟩

/-- A variable more that was met. -/
theorem Sr.putme (h : Sr k w s v) {x : Value} {ms : List Nat} (own : OwnL w1 (k.SB + 1) x (natI ms)) (g : w.grownBy w1 v.mv.ownBlock) (nw : Nw w v.mv x) :
    w1.cell? ⟨k.SB, 259, none⟩ = some v.mv ∧ w1.frozen? ⟨k.SB, 259, none⟩ = false ∧ Sr k (w1.setCell ⟨k.SB, 259, none⟩ x) { s with met := ms } { v with mv := x } ∧ SF k v { v with mv := x } w (w1.setCell ⟨k.SB, 259, none⟩ x) := by
  obtain ⟨cs, hb, h0, h1, h2, h3, h4, h5, h6⟩ := h.blk
  have far : ∀ j, v.mv.ownBlock = some j → k.SB < j := fun j e => (ownL_lt h.me e).1
  have hb1 : w1.heap[k.SB]? = some (.cells cs 124 (0, 0)) := (g.block _ (blk_lt hb) (fun e => by have := far _ e.symm; omega)).trans hb
  have ho : ∀ j, j ≠ k.SB → (w1.setCell ⟨k.SB, 259, none⟩ x).heap[j]? = w1.heap[j]? := fun j hj => set_other _ hj
  have hp : ∀ b, v.pb = some b → w1.heap[b]? = w.heap[b]? := fun b e => by
    have hpg := h.pg
    rw [e] at hpg
    obtain ⟨pc, hp1, _⟩ := hpg
    refine g.block b (blk_lt hp1) (fun c => ?_)
    obtain ⟨_, _, c', hc'⟩ := ownL_lt h.me c.symm
    rw [hp1] at hc'
    cases hc'
  refine ⟨(cell_of hb1).trans h4, frozen_of hb1, ⟨⟨_, set_same hb1 _, (set_ne _ (by decide)).trans h0, (set_ne _ (by decide)).trans h1, (set_ne _ (by decide)).trans h2, (set_ne _ (by decide)).trans h3, set_eq _ h4, (set_ne _ (by decide)).trans h5, (set_ne _ (by decide)).trans h6⟩, h.lo, h.pg.keep (fun b e => (ho b (by have := h.pl b e; omega)).trans (hp b e)), h.pl, own_keepS own (fun j e => ho j (by have := (ownL_lt own e).1; omega)), own_keepS h.ot (fun j e => ?_), ?_⟩, ?_⟩
  · obtain ⟨q1, q2, _⟩ := ownL_lt h.ot e
    exact (ho j (by omega)).trans (g.block j q2 (fun c => h.ap j c.symm e))
  · intro j hj hs
    rcases nw j hj with e | e
    · exact h.ap j e hs
    · have := (ownL_lt h.ot hs).2.1; omega
  · refine ⟨g.os, g.tape, g.output, Nat.le_trans g.size (by simp [World.setCell]), fun j hj hm => ?_, fun j hj hm => ?_⟩
    · exact (ho j (fun c => hm (.inl c))).trans (g.block j hj (fun c => hm (.inr (.inr (.inl c.symm)))))
    · rcases hm with c | c | c | c
      · exact .inl c
      · exact .inr (.inl c)
      · rcases nw j c with e | e
        · exact .inr (.inr (.inl e))
        · omega
      · exact .inr (.inr (.inr c))

/-- One more of the others. -/
theorem Sr.putot (h : Sr k w s v) {x : Value} {os : List Int} (own : OwnL w1 (k.SB + 1) x os) (g : w.grownBy w1 v.ov.ownBlock) (nw : Nw w v.ov x) :
    w1.cell? ⟨k.SB, 261, none⟩ = some v.ov ∧ w1.frozen? ⟨k.SB, 261, none⟩ = false ∧ Sr k (w1.setCell ⟨k.SB, 261, none⟩ x) { s with oth := os } { v with ov := x } ∧ SF k v { v with ov := x } w (w1.setCell ⟨k.SB, 261, none⟩ x) := by
  obtain ⟨cs, hb, h0, h1, h2, h3, h4, h5, h6⟩ := h.blk
  have far : ∀ j, v.ov.ownBlock = some j → k.SB < j := fun j e => (ownL_lt h.ot e).1
  have hb1 : w1.heap[k.SB]? = some (.cells cs 124 (0, 0)) := (g.block _ (blk_lt hb) (fun e => by have := far _ e.symm; omega)).trans hb
  have ho : ∀ j, j ≠ k.SB → (w1.setCell ⟨k.SB, 261, none⟩ x).heap[j]? = w1.heap[j]? := fun j hj => set_other _ hj
  have hp : ∀ b, v.pb = some b → w1.heap[b]? = w.heap[b]? := fun b e => by
    have hpg := h.pg
    rw [e] at hpg
    obtain ⟨pc, hp1, _⟩ := hpg
    refine g.block b (blk_lt hp1) (fun c => ?_)
    obtain ⟨_, _, c', hc'⟩ := ownL_lt h.ot c.symm
    rw [hp1] at hc'
    cases hc'
  refine ⟨(cell_of hb1).trans h6, frozen_of hb1, ⟨⟨_, set_same hb1 _, (set_ne _ (by decide)).trans h0, (set_ne _ (by decide)).trans h1, (set_ne _ (by decide)).trans h2, (set_ne _ (by decide)).trans h3, (set_ne _ (by decide)).trans h4, (set_ne _ (by decide)).trans h5, set_eq _ h6⟩, h.lo, h.pg.keep (fun b e => (ho b (by have := h.pl b e; omega)).trans (hp b e)), h.pl, own_keepS h.me (fun j e => ?_), own_keepS own (fun j e => ho j (by have := (ownL_lt own e).1; omega)), ?_⟩, ?_⟩
  · obtain ⟨q1, q2, _⟩ := ownL_lt h.me e
    exact (ho j (by omega)).trans (g.block j q2 (fun c => h.ap j e c.symm))
  · intro j hj hs
    rcases nw j hs with e | e
    · exact h.ap j hj e
    · have := (ownL_lt h.me hj).2.1; omega
  · refine ⟨g.os, g.tape, g.output, Nat.le_trans g.size (by simp [World.setCell]), fun j hj hm => ?_, fun j hj hm => ?_⟩
    · exact (ho j (fun c => hm (.inl c))).trans (g.block j hj (fun c => hm (.inr (.inr (.inr c.symm)))))
    · rcases hm with c | c | c | c
      · exact .inl c
      · exact .inr (.inl c)
      · exact .inr (.inr (.inl c))
      · rcases nw j c with e | e
        · exact .inr (.inr (.inr e))
        · omega

/-- A trail that is older is as it was. -/
theorem Sr.trl {kt : K} {L : List E} {lev : Nat} {p : V} (h : Sr k w s v) (f : SF k v v' w w') (t : Trl kt w L lev p) (ht : ∀ j, Mine kt p j → j < k.B) : Trl kt w' L lev p := by
  obtain ⟨F, S, r, g, e⟩ := t
  have hb := h.be f
  have hk : ∀ j, Mine kt p j → w'.heap[j]? = w.heap[j]? := fun j hj => hb.block j (ht j hj)
  refine ⟨F, S, ⟨r.lo, r.lt, r.hn, ?_, ?_, ?_, own_keepS r.rs (fun j e => hk j (.inr (.inr (.inr e)))), r.ne⟩, g, e⟩
  · rw [hk _ (.inr (.inl rfl))]; exact r.cl
  · obtain ⟨c, hc, rest⟩ := r.fc
    exact ⟨c, by rw [hk _ (.inl rfl)]; exact hc, rest⟩
  · rcases r.rl with c | ⟨b, cap, cur, e1, e2, e3, rest⟩
    · exact .inl c
    · exact .inr ⟨b, cap, cur, e1, e2, by rw [hk b (.inr (.inr (.inl (by rw [e1]; rfl))))]; exact e3, rest⟩
end

end Go.Proofs.YtimfjoinjfecjaaGreat

namespace Go.Proofs.YtimfjoinjfecjaaGreat
open Go.RowKit
set_option linter.unusedVariables false

/-- What stands behind the way: a trail, clauses, all older than it. -/
structure Cm (k : SK) (w0 : World) (kt : K) (L : List E) (lev : Nat) (p : V) (cls : List (List Int)) : Prop where
  hB : k.B = w0.heap.size
  t : Trl kt w0 L lev p
  tv : k.tv = .pointer (some ⟨kt.OB, 0, none⟩)
  lv : k.lv = lev
  gr : ∃ la n cap, k.cv = .slice la n cap ∧ U.Grid w0 la n cap cls
  hn : kt.n ≤ 4096

structure Rn (k : SK) (w0 : World) (n : Nat) (w : World) (s : PS) (v : SV) : Prop where
  r : Sr k w s v
  b : Below w0.heap.size w0 w
  wf : Wf n s
  m2 : Mk2 s

section
variable {k : SK} {w0 w w1 w' : World} {kt : K} {L : List E} {lev : Nat} {p : V} {cls : List (List Int)} {s s' : PS} {v v' : SV} {n : Nat}

theorem Rn.below (h : Rn k w0 n w s v) (b : Below w.heap.size w w') : Rn k w0 n w' s v := ⟨h.r.below b, Below.next h.b b, h.wf, h.m2⟩

theorem Cm.trl (c : Cm k w0 kt L lev p cls) (h : Rn k w0 n w s v) : Trl kt w L lev p := c.t.below h.b

theorem Cm.cell (c : Cm k w0 kt L lev p cls) (h : Rn k w0 n w s v) : w.cell? ⟨k.SB, 0, none⟩ = some (.pointer (some ⟨kt.OB, 0, none⟩)) ∧ w.cell? ⟨k.SB, 2, none⟩ = some (.int .i64 lev) := by
  have := h.r.c
  rw [← c.tv, ← c.lv]; exact ⟨this.1, this.2.2.1⟩

theorem Rn.next (c : Cm k w0 kt L lev p cls) (h : Rn k w0 n w s v) (r : Sr k w' s' v') (f : SF k v v' w w') (wf : Wf n s') (m2 : Mk2 s') : Rn k w0 n w' s' v' := ⟨r, by
  have := h.r.be f
  rw [c.hB] at this
  exact h.b.trans this, wf, m2⟩

theorem Sr.as (h : Sr k w s v) (e : s = s') : Sr k w s' v := e ▸ h

/-- Behind the mark: a variable more. -/
theorem Sr.app1 (h : Sr k w s v) {x : Value} {u : Nat} (own : OwnL w1 (k.SB + 1) x (natI s.met ++ [(u : Int)])) (g : w.grownBy w1 v.mv.ownBlock) (nw : Nw w v.mv x) :
    ∃ g8 c8, x = .slice (some ⟨g8, 0, none⟩) (s.met.length + 1) c8 ∧ w1.cell? ⟨k.SB, 259, none⟩ = some v.mv ∧ w1.frozen? ⟨k.SB, 259, none⟩ = false ∧ Hid (Sr k (w1.setCell ⟨k.SB, 259, none⟩ x) { s with met := s.met ++ [u] } { v with mv := x }) ∧ Hid (SF k v { v with mv := x } w (w1.setCell ⟨k.SB, 259, none⟩ x)) := by
  have e : natI s.met ++ [(u : Int)] = natI (s.met ++ [u]) := by simp [natI]
  rw [e] at own
  obtain ⟨a, b, c, d⟩ := h.putme own g nw
  have hl : (natI (s.met ++ [u])).length = s.met.length + 1 := by simp [natI]
  obtain ⟨g8, c8, e8, _⟩ := (LRow.of_own own).filled (by omega)
  rw [hl] at e8
  exact ⟨g8, c8, e8, a, b, c, d⟩

theorem Sr.app2 (h : Sr k w s v) {x : Value} {y : Int} (own : OwnL w1 (k.SB + 1) x (s.oth ++ [y])) (g : w.grownBy w1 v.ov.ownBlock) (nw : Nw w v.ov x) :
    ∃ g8 c8, x = .slice (some ⟨g8, 0, none⟩) (s.oth.length + 1) c8 ∧ w1.cell? ⟨k.SB, 261, none⟩ = some v.ov ∧ w1.frozen? ⟨k.SB, 261, none⟩ = false ∧ Hid (Sr k (w1.setCell ⟨k.SB, 261, none⟩ x) { s with oth := s.oth ++ [y] } { v with ov := x }) ∧ Hid (SF k v { v with ov := x } w (w1.setCell ⟨k.SB, 261, none⟩ x)) := by
  obtain ⟨a, b, c, d⟩ := h.putot own g nw
  have hl : (s.oth ++ [y]).length = s.oth.length + 1 := by simp
  obtain ⟨g8, c8, e8, _⟩ := (LRow.of_own own).filled (by omega)
  rw [hl] at e8
  exact ⟨g8, c8, e8, a, b, c, d⟩

theorem Sr.shapes (h : Sr k w s v) : (∃ a c, v.mv = .slice a s.met.length c) ∧ (∃ a c, v.ov = .slice a s.oth.length c) ∧ LRow w (k.SB + 1) v.mv (natI s.met) ∧ LRow w (k.SB + 1) v.ov s.oth ∧ k.SB + 1 ≤ w.heap.size := by
  obtain ⟨a, c, e, _⟩ := (LRow.of_own h.me).shape
  obtain ⟨a', c', e', _⟩ := (LRow.of_own h.ot).shape
  have hl : (natI s.met).length = s.met.length := by simp [natI]
  rw [hl] at e
  exact ⟨⟨a, c, e⟩, ⟨a', c', e'⟩, LRow.of_own h.me, LRow.of_own h.ot, h.lt⟩

def AddEnd (k : SK) (w0 : World) (n : Nat) (w : World) (s' : PS) (v : SV) (w' : World) : Prop := ∃ v', Rn k w0 n w' s' v' ∧ SF k v v' w w'

set_option maxHeartbeats 2000000 in
theorem add_zero (c : Cm k w0 kt L lev p cls) (h : Rn k w0 kt.n w s v) (x : Int) (u : Nat) (hl : levelF L u = 0) :
    Calls Tryz.prog 142 #[.pointer (some ⟨k.SB, 0, none⟩), .int .i64 x, .int .i64 u] w fun e w' => e = .returned (.tuple #[]) ∧ w' = w := by
  have HT := hid (c.trl h)
  obtain ⟨c0, c2⟩ := c.cell h
  have HL := hid hl
  clear hl h c
  go_enter Tryz.func142, Tryz.ntmps142
  go_wp2_with (go_at_call 88; with_reducible (refine (level_is HT.out _ HL.out).mono ?_); rintro e w ⟨rfl, rfl⟩)
  refine bodyPost_ret (results_none rfl _ _ _) rfl ?_
  exact ⟨rfl, rfl⟩

theorem add_wf (h : Rn k w0 n w s v) {x : Int} {u : Nat} (hu : u < n) (h0 : s.mrk u = 0) (hx : 0 ≤ x ∧ x < 2 * (n : Int)) : Wf n (addP L lev s x u) ∧ Mk2 (addP L lev s x u) := by
  refine ⟨(h.wf.add L lev x hu h0 hx).1, ?_⟩
  unfold addP
  split
  · exact h.m2
  · intro i
    simp only [upN]
    split
    · omega
    · exact h.m2 i

set_option maxHeartbeats 4000000 in
theorem add_lev (c : Cm k w0 kt L lev p cls) (h : Rn k w0 kt.n w s v) (x : Int) (u : Nat) (hu : u < kt.n) (hx : 0 ≤ x ∧ x < 2 * (kt.n : Int)) (h0 : s.mrk u = 0) (hl : levelF L u = lev) (hl0 : lev ≠ 0) (hop : -1000000 ≤ s.op) :
    Calls Tryz.prog 142 #[.pointer (some ⟨k.SB, 0, none⟩), .int .i64 x, .int .i64 u] w fun e w' => e = .returned (.tuple #[]) ∧ AddEnd k w0 kt.n w (addP L lev s x u) v w' := by
  have HT := hid (c.trl h)
  obtain ⟨c0, c2⟩ := c.cell h
  have HL := hid hl
  have hln : (lev : Int) ≠ 0 := by omega
  have hlb : ((lev : Int) == 0) = false := by simpa using hln
  have hu4 : u < 4096 := by have := c.hn; omega
  have hml := h.wf.len
  have hn := c.hn
  have hou := h.wf.ou
  have HP : Hid (addP L lev s x u = { mrk := upN s.mrk u 1, met := s.met ++ [u], op := s.op + 1, oth := s.oth }) := hid (by unfold addP; rw [hl, if_neg hln, if_pos rfl, if_pos rfl])
  have HW := hid (add_wf (L := L) (lev := lev) (x := x) h hu h0 hx)
  obtain ⟨cs, hcs, hcs3⟩ : ∃ cs, w.heap[k.SB]? = some (.cells cs 124 (0, 0)) ∧ cs[3]? = some (ptrO v.pb) := by obtain ⟨cs, a, _, _, _, b, _⟩ := h.r.blk; exact ⟨cs, a, b⟩
  have HC := hid hcs
  have HC3 := hid hcs3
  have HR := hid h
  have HM := hid c
  have HPL : Hid (∀ b, v.pb = some b → b ≠ k.SB) := hid (fun b e => by have := h.r.pl b e; omega)
  have H1 : Hid (((1 : Nat) : Int) = 1) := hid rfl
  clear hl h c hcs hcs3 h0 hx
  go_enter Tryz.func142, Tryz.ntmps142
  go_wp2_with (first
    | (go_at_call 88; with_reducible (refine (level_is HT.out _ HL.out).mono ?_); rintro e w ⟨rfl, rfl⟩)
    | (go_at_call 91; with_reducible (refine (set_is HC.out HC3.out HR.out.r.pg HPL.out u hu4 1 H1.out).mono ?_); rintro e w1 ⟨rfl, pb1, cs1, he1⟩; have q1 := hid (HR.out.r.putmk he1.out HC.out); have sh1 := q1.out.1.shapes; obtain ⟨⟨am, cm, em⟩, _, lm, _, hsz⟩ := sh1; have c259 := q1.out.1.c.2.2.2.2.1; have HLm := hid lm; simp only at em c259; rw [em] at c259; clear lm)
    | (at_builtin; refine append_new (w1 := w1) rfl _ _ rfl u rfl (k.SB + 1) v.mv (natI s.met) em.symm HLm.out _ rfl (by simp) (by simp [natI]; omega) hsz ?_; intro v7 w7 own7 g7 new7; have m7 := q1.out.1.app1 own7.out g7.out new7.out.1; obtain ⟨g8, c8, rfl, d1, d2, r8, f8⟩ := m7; simp only at d1; rw [em] at d1; have d3 := r8.out.c.2.2.1; have d4 := r8.out.c.2.2.2.2.2.1; have d5 := r8.out.f 260; rw [HM.out.lv] at d3))
  go_end0
  obtain ⟨r9, f9⟩ := r8.out.putop (s.op + 1)
  have F := (q1.out.2.trans f8.out).trans f9
  refine ⟨rfl, _, Rn.next HM.out HR.out (r9.as HP.out.symm) F HW.out.1 HW.out.2, F⟩

set_option maxHeartbeats 4000000 in
theorem add_oth (c : Cm k w0 kt L lev p cls) (h : Rn k w0 kt.n w s v) (x : Int) (u : Nat) (hu : u < kt.n) (hx : 0 ≤ x ∧ x < 2 * (kt.n : Int)) (h0 : s.mrk u = 0) (ll : Nat) (hl : levelF L u = ll) (hl0 : ll ≠ 0) (hl1 : ll ≠ lev) :
    Calls Tryz.prog 142 #[.pointer (some ⟨k.SB, 0, none⟩), .int .i64 x, .int .i64 u] w fun e w' => e = .returned (.tuple #[]) ∧ AddEnd k w0 kt.n w (addP L lev s x u) v w' := by
  have HT := hid (c.trl h)
  obtain ⟨c0, c2⟩ := c.cell h
  have HL := hid hl
  have hln : (ll : Int) ≠ 0 := by omega
  have hlv : ¬ (ll : Int) = (lev : Int) := by omega
  have hlvb : ((ll : Int) == (lev : Int)) = false := by simpa using hlv
  have hlb : ((ll : Int) == 0) = false := by simpa using hln
  have hu4 : u < 4096 := by have := c.hn; omega
  have hml := h.wf.len
  have hn := c.hn
  have hol := h.wf.ol
  have HP : Hid (addP L lev s x u = { mrk := upN s.mrk u 1, met := s.met ++ [u], op := s.op, oth := s.oth ++ [x] }) := hid (by unfold addP; rw [hl, if_neg hln, if_neg hlv, if_neg hlv])
  have HW := hid (add_wf (L := L) (lev := lev) (x := x) h hu h0 hx)
  obtain ⟨cs, hcs, hcs3⟩ : ∃ cs, w.heap[k.SB]? = some (.cells cs 124 (0, 0)) ∧ cs[3]? = some (ptrO v.pb) := by obtain ⟨cs, a, _, _, _, b, _⟩ := h.r.blk; exact ⟨cs, a, b⟩
  have HC := hid hcs
  have HC3 := hid hcs3
  have HR := hid h
  have HM := hid c
  have HPL : Hid (∀ b, v.pb = some b → b ≠ k.SB) := hid (fun b e => by have := h.r.pl b e; omega)
  have H1 : Hid (((1 : Nat) : Int) = 1) := hid rfl
  clear hl h c hcs hcs3 h0 hx
  go_enter Tryz.func142, Tryz.ntmps142
  go_wp2_with (first
    | (go_at_call 88; with_reducible (refine (level_is HT.out _ HL.out).mono ?_); rintro e w ⟨rfl, rfl⟩)
    | (go_at_call 91; with_reducible (refine (set_is HC.out HC3.out HR.out.r.pg HPL.out u hu4 1 H1.out).mono ?_); rintro e w1 ⟨rfl, pb1, cs1, he1⟩; have q1 := hid (HR.out.r.putmk he1.out HC.out); have sh1 := q1.out.1.shapes; obtain ⟨⟨am, cm, em⟩, _, lm, _, hsz⟩ := sh1; have c259 := q1.out.1.c.2.2.2.2.1; have HLm := hid lm; simp only at em c259; rw [em] at c259; clear lm)
    | (at_builtin; refine append_new (w1 := w1) rfl _ _ rfl u rfl (k.SB + 1) v.mv (natI s.met) em.symm HLm.out _ rfl (by simp) (by simp [natI]; omega) hsz ?_; intro v7 w7 own7 g7 new7; have m7 := q1.out.1.app1 own7.out g7.out new7.out.1; obtain ⟨g8, c8, rfl, d1, d2, r8, f8⟩ := m7; simp only at d1; rw [em] at d1; have d3 := r8.out.c.2.2.1; have d4 := r8.out.c.2.2.2.2.2.2; rw [HM.out.lv] at d3; have sh8 := r8.out.shapes; obtain ⟨_, ⟨ao, co, eo⟩, _, lo, hsz8⟩ := sh8; simp only at eo d4; rw [eo] at d4; have HLo := hid lo; clear lo)
    | (at_builtin; refine append_new (w1 := w7.setCell ⟨k.SB, 259, none⟩ (.slice (some ⟨g8, 0, none⟩) (s.met.length + 1) c8)) rfl _ _ rfl x rfl (k.SB + 1) v.ov s.oth eo.symm HLo.out _ rfl (by simp) (by omega) hsz8 ?_; intro v9 w9 own9 g9 new9; have m9 := r8.out.app2 own9.out g9.out new9.out.1; obtain ⟨g10, c10, rfl, x1, x2, r10, f10⟩ := m9; simp only at x1; rw [eo] at x1))
  go_end0
  have F := (q1.out.2.trans f8.out).trans f10.out
  refine ⟨rfl, _, Rn.next HM.out HR.out (r10.out.as HP.out.symm) F HW.out.1 HW.out.2, F⟩
end

end Go.Proofs.YtimfjoinjfecjaaGreat

namespace Go.Proofs.YtimfjoinjfecjaaGreat
open Go.RowKit
set_option linter.unusedVariables false

section
variable {k : SK} {w0 w w1 w' : World} {kt : K} {L : List E} {lev : Nat} {p : V} {cls : List (List Int)} {s s' : PS} {v v' : SV} {n : Nat}

theorem addA_is (c : Cm k w0 kt L lev p cls) (h : Rn k w0 kt.n w s v) (x : Int) (u : Nat) (hu : u < kt.n) (hx : 0 ≤ x ∧ x < 2 * (kt.n : Int)) (h0 : s.mrk u = 0) (hl : ∃ ll : Nat, levelF L u = ll) (hl0 : lev ≠ 0) (hop : -1000000 ≤ s.op) :
    Calls Tryz.prog 142 #[.pointer (some ⟨k.SB, 0, none⟩), .int .i64 x, .int .i64 u] w fun e w' => e = .returned (.tuple #[]) ∧ ∃ v', Hid (Rn k w0 kt.n w' (addP L lev s x u) v') ∧ Hid (SF k v v' w w') := by
  obtain ⟨ll, hl⟩ := hl
  by_cases h1 : ll = 0
  · subst h1
    refine (add_zero c h x u hl).mono ?_
    rintro e w' ⟨rfl, rfl⟩
    have : addP L lev s x u = s := by unfold addP; rw [if_pos (by simpa using hl)]
    rw [this]
    exact ⟨rfl, v, h, SF.refl _ _ _⟩
  · by_cases h2 : ll = lev
    · subst h2
      refine (add_lev c h x u hu hx h0 hl hl0 hop).mono ?_
      rintro e w' ⟨rfl, v', a, b⟩
      exact ⟨rfl, v', a, b⟩
    · refine (add_oth c h x u hu hx h0 ll hl h1 h2).mono ?_
      rintro e w' ⟨rfl, v', a, b⟩
      exact ⟨rfl, v', a, b⟩

def MeetE (k : SK) (w0 : World) (n : Nat) (w : World) (q : Bool × PS) (v : SV) (e : Ending) (w' : World) : Prop := e = .returned (.bool q.1) ∧ ∃ v', Rn k w0 n w' q.2 v' ∧ SF k v v' w w'

theorem meet_out (c : Cm k w0 kt L lev p cls) (h : Rn k w0 kt.n w s v) (x y : Int) (hx : x ≤ 9223372036854775807) (hv : valueF L x = y) (hy : y ≠ -1) :
    Calls Tryz.prog 119 #[.pointer (some ⟨k.SB, 0, none⟩), .int .i64 x] w fun e w' => e = .returned (.bool false) ∧ Below w.heap.size w w' := by
  have HT := hid (c.trl h)
  obtain ⟨c0, _⟩ := c.cell h
  have HV := hid hv
  have hyb : (y != -1) = true := by simpa using hy
  clear h c hv hy
  go_enter Tryz.func119, Tryz.ntmps119
  go_wp2_with (go_at_call 138; with_reducible (refine (value_is HT.out x hx HV.out).mono ?_); rintro e w1 ⟨rfl, b1⟩)
  go_ret
  exact ⟨rfl, b1.out⟩

theorem Rn.pgc (h : Rn k w0 n w s v) : w.cell? ⟨k.SB, 3, none⟩ = some (ptrO v.pb) := h.r.c.2.2.2.1

theorem meet_mk (c : Cm k w0 kt L lev p cls) (h : Rn k w0 kt.n w s v) (m u : Nat) (hm : m / 2 = u) (hx : (m : Int) ≤ 9223372036854775807) (hv : valueF L m = -1) (hu : u < kt.n) (y : Nat) (hy : s.mrk u = y) (b : Bool) (hb : (y = 1 ∧ b = true) ∨ (y = 2 ∧ b = false)) :
    Calls Tryz.prog 119 #[.pointer (some ⟨k.SB, 0, none⟩), .int .i64 m] w fun e w' => e = .returned (.bool b) ∧ Below w.heap.size w w' := by
  have HT := hid (c.trl h)
  obtain ⟨c0, _⟩ := c.cell h
  have HV := hid hv
  have HM := hid hm
  have HR := hid h
  have hu4 : u < 4096 := by have := c.hn; omega
  have HY : Hid ((s.mrk u : Int) = (y : Int)) := hid (by rw [hy])
  clear h c hv hm hy
  rcases hb with ⟨rfl, rfl⟩ | ⟨rfl, rfl⟩
  · go_enter Tryz.func119, Tryz.ntmps119
    go_wp2_with (first
      | (go_at_call 138; with_reducible (refine (value_is HT.out _ hx HV.out).mono ?_); rintro e w1 ⟨rfl, b1⟩)
      | (go_at_call 24; with_reducible (refine (var_nat _ _ HM.out hx _).mono ?_); rintro e w2 ⟨rfl, b2⟩; have R2 := hid ((HR.out.below b1.out).below b2))
      | (go_at_call 90; with_reducible (refine (of_is R2.out.pgc R2.out.r.pg _ hu4 HY.out).mono ?_); rintro e w3 ⟨rfl, rfl⟩))
    go_ret
    exact ⟨rfl, Below.next b1.out b2⟩
  · go_enter Tryz.func119, Tryz.ntmps119
    go_wp2_with (first
      | (go_at_call 138; with_reducible (refine (value_is HT.out _ hx HV.out).mono ?_); rintro e w1 ⟨rfl, b1⟩)
      | (go_at_call 24; with_reducible (refine (var_nat _ _ HM.out hx _).mono ?_); rintro e w2 ⟨rfl, b2⟩; have R2 := hid ((HR.out.below b1.out).below b2))
      | (go_at_call 90; with_reducible (refine (of_is R2.out.pgc R2.out.r.pg _ hu4 HY.out).mono ?_); rintro e w3 ⟨rfl, rfl⟩))
    go_ret
    exact ⟨rfl, Below.next b1.out b2⟩

theorem meet_add (c : Cm k w0 kt L lev p cls) (h : Rn k w0 kt.n w s v) (m u : Nat) (hm : m / 2 = u) (hx : (m : Int) ≤ 9223372036854775807) (hv : valueF L m = -1) (hu : u < kt.n) (hy : s.mrk u = 0) (hl : ∃ ll : Nat, levelF L u = ll) (hl0 : lev ≠ 0) (hop : -1000000 ≤ s.op) :
    Calls Tryz.prog 119 #[.pointer (some ⟨k.SB, 0, none⟩), .int .i64 m] w fun e w' => e = .returned (.bool true) ∧ AddEnd k w0 kt.n w (addP L lev s m u) v w' := by
  have HT := hid (c.trl h)
  obtain ⟨c0, _⟩ := c.cell h
  have HV := hid hv
  have HM := hid hm
  have HR := hid h
  have HC := hid c
  have HL := hid hl
  have hu4 : u < 4096 := by have := c.hn; omega
  have HY : Hid ((s.mrk u : Int) = 0) := hid (by rw [hy]; rfl)
  have HY0 := hid hy
  have HXB : Hid (0 ≤ (m : Int) ∧ (m : Int) < 2 * (kt.n : Int)) := hid (by omega)
  clear h c hv hm hy hl
  go_enter Tryz.func119, Tryz.ntmps119
  go_wp2_with (first
    | (go_at_call 138; with_reducible (refine (value_is HT.out _ hx HV.out).mono ?_); rintro e w1 ⟨rfl, b1⟩)
    | (go_at_call 24; with_reducible (refine (var_nat _ _ HM.out hx _).mono ?_); rintro e w2 ⟨rfl, b2⟩; have R2 := hid ((HR.out.below b1.out).below b2))
    | (go_at_call 90; with_reducible (refine (of_is R2.out.pgc R2.out.r.pg _ hu4 HY.out).mono ?_); rintro e w3 ⟨rfl, rfl⟩)
    | (go_at_call 142; with_reducible (refine (addA_is HC.out R2.out _ _ hu HXB.out HY0.out HL.out hl0 hop).mono ?_); rintro e w4 ⟨rfl, v4, r4, f4⟩))
  go_ret
  exact ⟨rfl, v4, r4.out, (SF.below (Below.next b1.out b2)).trans f4.out⟩

theorem level_ex {L : List E} {x : Int} (h : valueF L x = -1) : ∃ ll : Nat, levelF L (vl x : Nat) = ll := by
  unfold valueF at h
  by_cases h0 : x < 0
  · rw [if_pos h0] at h; omega
  · rw [if_neg h0] at h
    have hv : ((vl x : Nat) : Int) = x / 2 := by unfold vl; omega
    unfold levelF
    rw [hv]
    cases ha : atF L (x / 2) with
    | none => rw [ha] at h; simp at h
    | some e => exact ⟨e.g, rfl⟩

theorem meetA_is (c : Cm k w0 kt L lev p cls) (h : Rn k w0 kt.n w s v) (x : Int) (hx : x ≤ 9223372036854775807) (hl0 : lev ≠ 0) (hop : -1000000 ≤ s.op) :
    Calls Tryz.prog 119 #[.pointer (some ⟨k.SB, 0, none⟩), .int .i64 x] w fun e w' => MeetE k w0 kt.n w (meetP L lev s x) v e w' := by
  by_cases h1 : valueF L x = -1
  · obtain ⟨_, h0, _⟩ := val_neg (L := L) (x := x) (by omega)
    obtain ⟨m, rfl⟩ := Int.eq_ofNat_of_zero_le h0
    have hu : vl (m : Int) < kt.n := vlA_lt (c.t.lits_lt) h1
    have hvl : m / 2 = vl (m : Int) := by unfold vl; omega
    by_cases h3 : s.mrk (vl (m : Int)) = 1
    · have e1 : meetP L lev s m = (true, s) := by unfold meetP; rw [if_pos h1, if_pos h3]
      rw [e1]
      refine (meet_mk c h m _ hvl hx h1 hu 1 h3 true (.inl ⟨rfl, rfl⟩)).mono fun e w' q => ?_
      exact ⟨q.1, v, h.below q.2, SF.below q.2⟩
    · by_cases h4 : s.mrk (vl (m : Int)) = 2
      · have e1 : meetP L lev s m = (false, s) := by unfold meetP; rw [if_pos h1, if_neg h3, if_pos h4]
        rw [e1]
        refine (meet_mk c h m _ hvl hx h1 hu 2 h4 false (.inr ⟨rfl, rfl⟩)).mono fun e w' q => ?_
        exact ⟨q.1, v, h.below q.2, SF.below q.2⟩
      · have e1 : meetP L lev s m = (true, addP L lev s m (vl (m : Int))) := by unfold meetP; rw [if_pos h1, if_neg h3, if_neg h4]
        have h5 := h.m2 (vl (m : Int))
        rw [e1]
        refine (meet_add c h m _ hvl hx h1 hu (by omega) (level_ex h1) hl0 hop).mono fun e w' q => ?_
        exact ⟨q.1, q.2⟩
  · have e1 : meetP L lev s x = (false, s) := by unfold meetP; rw [if_neg h1]
    rw [e1]
    refine (meet_out c h x _ hx rfl h1).mono fun e w' q => ?_
    exact ⟨q.1, v, h.below q.2, SF.below q.2⟩

/-- For callers. -/
theorem meet_at (c : Cm k w0 kt L lev p cls) (h : Rn k w0 kt.n w s v) (x : Int) (hx : x ≤ 9223372036854775807) (hl0 : lev ≠ 0) (hop : -1000000 ≤ s.op) :
    Calls Tryz.prog 119 #[.pointer (some ⟨k.SB, 0, none⟩), .int .i64 x] w fun e w' => ∃ b s' v', e = .returned (.bool b) ∧ Hid (meetP L lev s x = (b, s')) ∧ Hid (Rn k w0 kt.n w' s' v') ∧ Hid (SF k v v' w w') ∧ Hid (s.op ≤ s'.op) := by
  refine (meetA_is c h x hx hl0 hop).mono fun e w' q => ?_
  obtain ⟨q1, v', q2, q3⟩ := q
  exact ⟨_, _, v', q1, rfl, q2, q3, (h.wf.meet (lev := lev) h.m2 (fun hv => vlA_lt c.t.lits_lt hv)).2.1⟩

theorem has_is (c : Cm k w0 kt L lev p cls) (h : Rn k w0 kt.n w s v) (x : Int) (b : Bool) (hb : decide (0 ≤ x ∧ x < cls.length) = b) :
    Calls Tryz.prog 80 #[.pointer (some ⟨k.SB, 0, none⟩), .int .i64 x] w fun e w' => e = .returned (.bool b) ∧ w' = w := by
  obtain ⟨la, ln, cap, e, gr⟩ := c.gr
  have c1 := h.r.c.2.1
  rw [e, ← gr.1] at c1
  clear h c gr e
  by_cases h0 : 0 ≤ x
  · by_cases h1 : x < cls.length
    · have : b = true := by rw [← hb]; simp; omega
      subst this
      clear hb
      go_enter Tryz.func80, Tryz.ntmps80
      go_wp2
      go_ret
      exact ⟨rfl, rfl⟩
    · have : b = false := by rw [← hb]; simp; omega
      subst this
      clear hb
      go_enter Tryz.func80, Tryz.ntmps80
      go_wp2
      go_ret
      exact ⟨rfl, rfl⟩
  · have : b = false := by rw [← hb]; simp; omega
    subst this
    clear hb
    go_enter Tryz.func80, Tryz.ntmps80
    go_wp2
    go_ret
    exact ⟨rfl, rfl⟩
end

end Go.Proofs.YtimfjoinjfecjaaGreat
