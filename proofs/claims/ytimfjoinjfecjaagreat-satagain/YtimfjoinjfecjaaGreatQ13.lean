/-
  What is known on the way, in memory.
-/
import Derived.Test.YtimfjoinjfecjaaGreatQ12

namespace Go.Proofs.YtimfjoinjfecjaaGreat
open Go.RowKit
set_option linter.unusedVariables false

structure SK where
  B : Nat
  SB : Nat
  tv : Value
  cv : Value
  lv : Nat

structure SV where
  mv : Value
  ov : Value
  pb : Option Nat

def natI (l : List Nat) : List Int := l.map (fun v : Nat => (v : Int))

structure Sr (k : SK) (w : World) (s : PS) (v : SV) : Prop where
  blk : ∃ cs : Array Value, w.heap[k.SB]? = some (.cells cs 124 (0, 0)) ∧ cs[0]? = some k.tv ∧ cs[1]? = some k.cv ∧ cs[2]? = some (.int .i64 k.lv) ∧ cs[3]? = some (ptrO v.pb) ∧ cs[259]? = some v.mv ∧ cs[260]? = some (.int .i64 s.op) ∧ cs[261]? = some v.ov
  lo : k.B ≤ k.SB
  pg : Pg w v.pb s.mrk
  pl : ∀ b, v.pb = some b → k.SB < b
  me : OwnL w (k.SB + 1) v.mv (natI s.met)
  ot : OwnL w (k.SB + 1) v.ov s.oth
  ap : ∀ j, v.mv.ownBlock = some j → v.ov.ownBlock ≠ some j

def MineS (k : SK) (v : SV) (j : Nat) : Prop := j = k.SB ∨ v.pb = some j ∨ v.mv.ownBlock = some j ∨ v.ov.ownBlock = some j

structure SF (k : SK) (v v' : SV) (w w' : World) : Prop where
  os : w'.os = w.os
  tape : w'.tape = w.tape
  output : w'.output = w.output
  size : w.heap.size ≤ w'.heap.size
  block : ∀ j, j < w.heap.size → ¬ MineS k v j → w'.heap[j]? = w.heap[j]?
  new : ∀ j, j < w.heap.size → MineS k v' j → MineS k v j

theorem SF.refl (k : SK) (v : SV) (w : World) : SF k v v w w := ⟨rfl, rfl, rfl, Nat.le_refl _, fun _ _ _ => rfl, fun _ _ h => h⟩

theorem SF.trans {k : SK} {v v' v'' : SV} {w w' w'' : World} (h : SF k v v' w w') (g : SF k v' v'' w' w'') : SF k v v'' w w'' :=
  ⟨g.os.trans h.os, g.tape.trans h.tape, g.output.trans h.output, Nat.le_trans h.size g.size,
   fun j hj hm => (g.block j (Nat.lt_of_lt_of_le hj h.size) (fun c => hm (h.new j hj c))).trans (h.block j hj hm),
   fun j hj hm => h.new j hj (g.new j (Nat.lt_of_lt_of_le hj h.size) hm)⟩

theorem SF.below {k : SK} {v : SV} {w w' : World} (b : Below w.heap.size w w') : SF k v v w w' := ⟨b.os, b.tape, b.output, b.size, fun j hj _ => b.block j hj, fun _ _ h => h⟩

section
variable {k : SK} {w w' w1 w2 : World} {s : PS} {v v' : SV}

theorem ownL_lt {w : World} {base : Nat} {v : Value} {xs : List Int} (h : OwnL w base v xs) {j : Nat} (hj : v.ownBlock = some j) : base ≤ j ∧ j < w.heap.size ∧ ∃ c, w.heap[j]? = some (.cells c 3 (0, 0)) := by
  rcases h.2 with ⟨rfl, _⟩ | ⟨b, cap, cur, rfl, hb, hg, _⟩
  · simp [Value.ownBlock] at hj
  · simp [Value.ownBlock] at hj; subst hj; exact ⟨hb, blk_lt hg, _, hg⟩

theorem Sr.mine (h : Sr k w s v) {j : Nat} (hm : MineS k v j) : k.SB ≤ j ∧ j < w.heap.size ∧ ∃ c T, w.heap[j]? = some (.cells c T (0, 0)) := by
  rcases hm with rfl | e | e | e
  · obtain ⟨cs, hb, _⟩ := h.blk; exact ⟨Nat.le_refl _, blk_lt hb, _, _, hb⟩
  · have h1 := h.pl j e
    have h2 := h.pg
    rw [e] at h2
    obtain ⟨pc, hb, _⟩ := h2
    exact ⟨by omega, blk_lt hb, _, _, hb⟩
  · obtain ⟨h1, h2, c, h3⟩ := ownL_lt h.me e; exact ⟨by omega, h2, _, _, h3⟩
  · obtain ⟨h1, h2, c, h3⟩ := ownL_lt h.ot e; exact ⟨by omega, h2, _, _, h3⟩

/-- All that is older is as it was. -/
theorem Sr.be (h : Sr k w s v) (f : SF k v v' w w') : Below k.B w w' := by
  refine ⟨f.os, f.tape, f.output, f.size, fun j hj => ?_⟩
  have h1 := h.lo
  obtain ⟨cs, hb, _⟩ := h.blk
  have h2 := blk_lt hb
  exact f.block j (by omega) (fun c => by have := (h.mine c).1; omega)

theorem Sr.ko (h : Sr k w s v) (f : SF k v v' w w') : KeepsOthers w w' := by
  refine ⟨f.size, fun j o hj ho => ?_⟩
  have hlt : j < w.heap.size := blk_lt hj
  rw [f.block j hlt (fun c => ?_)]
  · exact hj
  · obtain ⟨_, _, c, T, e⟩ := h.mine c
    rw [hj] at e
    cases e
    cases ho

theorem own_keepS {base : Nat} {x : Value} {xs : List Int} (h : OwnL w base x xs) (hk : ∀ j, x.ownBlock = some j → w'.heap[j]? = w.heap[j]?) : OwnL w' base x xs := by
  refine ⟨h.1, ?_⟩
  rcases h.2 with h2 | ⟨b, cap, cur, rfl, hb, hg, rest⟩
  · exact .inl h2
  · exact .inr ⟨b, cap, cur, rfl, hb, by rw [hk b rfl]; exact hg, rest⟩

/-- Where none of its blocks has changed all is as it was. -/
theorem Sr.same (h : Sr k w s v) (hk : ∀ j, MineS k v j → w'.heap[j]? = w.heap[j]?) : Sr k w' s v := by
  obtain ⟨cs, hb, rest⟩ := h.blk
  exact ⟨⟨cs, by rw [hk _ (.inl rfl)]; exact hb, rest⟩, h.lo, h.pg.keep (fun b e => hk b (.inr (.inl e))), h.pl, own_keepS h.me (fun j e => hk j (.inr (.inr (.inl e)))), own_keepS h.ot (fun j e => hk j (.inr (.inr (.inr e)))), h.ap⟩

theorem Sr.below (h : Sr k w s v) (b : Below w.heap.size w w') : Sr k w' s v := h.same (fun j hm => b.block j (h.mine hm).2.1)

theorem Sr.c (h : Sr k w s v) : w.cell? ⟨k.SB, 0, none⟩ = some k.tv ∧ w.cell? ⟨k.SB, 1, none⟩ = some k.cv ∧ w.cell? ⟨k.SB, 2, none⟩ = some (.int .i64 k.lv) ∧ w.cell? ⟨k.SB, 3, none⟩ = some (ptrO v.pb) ∧ w.cell? ⟨k.SB, 259, none⟩ = some v.mv ∧ w.cell? ⟨k.SB, 260, none⟩ = some (.int .i64 s.op) ∧ w.cell? ⟨k.SB, 261, none⟩ = some v.ov := by
  obtain ⟨cs, hb, h0, h1, h2, h3, h4, h5, h6⟩ := h.blk
  exact ⟨(cell_of hb).trans h0, (cell_of hb).trans h1, (cell_of hb).trans h2, (cell_of hb).trans h3, (cell_of hb).trans h4, (cell_of hb).trans h5, (cell_of hb).trans h6⟩

theorem Sr.f (h : Sr k w s v) (o : Nat) : w.frozen? ⟨k.SB, o, none⟩ = false := by obtain ⟨cs, hb, _⟩ := h.blk; exact frozen_of hb

theorem Sr.lt (h : Sr k w s v) : k.SB < w.heap.size := (h.mine (.inl rfl)).2.1

/-- A mark is set. -/
theorem Sr.putmk (h : Sr k w s v) {cs cs' : Array Value} {i m : Nat} {pb' : Option Nat} (e : MarkEnd w k.SB 3 124 cs v.pb s.mrk i m pb' cs' w') (hcs : w.heap[k.SB]? = some (.cells cs 124 (0, 0))) :
    Sr k w' { s with mrk := upN s.mrk i m } { v with pb := pb' } ∧ SF k v { v with pb := pb' } w w' := by
  obtain ⟨cs0, hb, h0, h1, h2, h3, h4, h5, h6⟩ := h.blk
  rw [hcs] at hb
  cases hb
  have hlt := h.lt
  have key : ∀ j, (v.mv.ownBlock = some j ∨ v.ov.ownBlock = some j) → w'.heap[j]? = w.heap[j]? := fun j hj => by
    have hj3 : ∃ c, w.heap[j]? = some (.cells c 3 (0, 0)) ∧ k.SB + 1 ≤ j ∧ j < w.heap.size := by
      rcases hj with hj | hj
      · obtain ⟨a, b, c, d⟩ := ownL_lt h.me hj; exact ⟨c, d, a, b⟩
      · obtain ⟨a, b, c, d⟩ := ownL_lt h.ot hj; exact ⟨c, d, a, b⟩
    obtain ⟨c, hc, h7, h8⟩ := hj3
    refine e.block j h8 (by omega) (fun q => ?_)
    have hp := h.pg
    rw [q] at hp
    obtain ⟨pc, hp1, _⟩ := hp
    rw [hc] at hp1
    cases hp1
  refine ⟨⟨⟨cs', e.blk, (e.oth 0 (by decide)).trans h0, (e.oth 1 (by decide)).trans h1, (e.oth 2 (by decide)).trans h2, e.ptr, (e.oth 259 (by decide)).trans h4, (e.oth 260 (by decide)).trans h5, (e.oth 261 (by decide)).trans h6⟩, h.lo, e.pg, ?_, own_keepS h.me (fun j hj => key j (.inl hj)), own_keepS h.ot (fun j hj => key j (.inr hj)), h.ap⟩, ⟨e.os, e.tape, e.output, e.size, fun j hj hm => e.block j hj (fun c => hm (.inl c)) (fun c => hm (.inr (.inl c))), fun j hj hm => ?_⟩⟩
  · intro b hb
    rcases e.nw with q | q
    · exact h.pl b (by rw [← q]; exact hb)
    · simp only at hb; rw [q] at hb; cases hb; exact hlt
  · rcases hm with c | c | c | c
    · exact .inl c
    · rcases e.nw with q | q
      · exact .inr (.inl (by rw [← q]; exact c))
      · simp only at c; rw [q] at c; cases c; omega
    · exact .inr (.inr (.inl c))
    · exact .inr (.inr (.inr c))

theorem set_ne {cs : Array Value} {o o' : Nat} (x : Value) (h : o ≠ o') : (cs.setIfInBounds o x)[o']? = cs[o']? := Array.getElem?_setIfInBounds_ne h
theorem set_eq {cs : Array Value} {o : Nat} {y : Value} (x : Value) (h : cs[o]? = some y) : (cs.setIfInBounds o x)[o]? = some x := by
  have := (Array.getElem?_eq_some_iff.1 h).1
  simp [this]

/-- How many are left. -/
theorem Sr.putop (h : Sr k w s v) (x : Int) : Sr k (w.setCell ⟨k.SB, 260, none⟩ (.int .i64 x)) { s with op := x } v ∧ SF k v v w (w.setCell ⟨k.SB, 260, none⟩ (.int .i64 x)) := by
  obtain ⟨cs, hb, h0, h1, h2, h3, h4, h5, h6⟩ := h.blk
  have ho : ∀ j, j ≠ k.SB → (w.setCell ⟨k.SB, 260, none⟩ (.int .i64 x)).heap[j]? = w.heap[j]? := fun j hj => set_other _ hj
  have gt : ∀ j, MineS k v j → j ≠ k.SB → (w.setCell ⟨k.SB, 260, none⟩ (.int .i64 x)).heap[j]? = w.heap[j]? := fun j _ hj => ho j hj
  refine ⟨⟨⟨_, set_same hb _, (set_ne _ (by decide)).trans h0, (set_ne _ (by decide)).trans h1, (set_ne _ (by decide)).trans h2, (set_ne _ (by decide)).trans h3, (set_ne _ (by decide)).trans h4, set_eq _ h5, (set_ne _ (by decide)).trans h6⟩, h.lo, h.pg.keep (fun b e => ho b (by have := h.pl b e; omega)), h.pl, own_keepS h.me (fun j e => ho j (by have := (ownL_lt h.me e).1; omega)), own_keepS h.ot (fun j e => ho j (by have := (ownL_lt h.ot e).1; omega)), h.ap⟩, ⟨rfl, rfl, rfl, by simp [World.setCell], fun j hj hm => ho j (fun c => hm (.inl c)), fun _ _ hm => hm⟩⟩

/-- A variable more that was met. -/
theorem Sr.putme (h : Sr k w s v) {x : Value} {ms : List Nat} (own : OwnL w1 (k.SB + 1) x (natI ms)) (g : w.grownBy w1 v.mv.ownBlock) (nw : Nw w v.mv x) :
    w1.cell? ⟨k.SB, 259, none⟩ = some v.mv ∧ w1.frozen? ⟨k.SB, 259, none⟩ = false ∧ Sr k (w1.setCell ⟨k.SB, 259, none⟩ x) { s with met := ms } { v with mv := x } ∧ SF k v { v with mv := x } w (w1.setCell ⟨k.SB, 259, none⟩ x) := by
  obtain ⟨cs, hb, h0, h1, h2, h3, h4, h5, h6⟩ := h.blk
  have far : ∀ j, v.mv.ownBlock = some j → k.SB < j := fun j e => (ownL_lt h.me e).1
  have hb1 : w1.heap[k.SB]? = some (.cells cs 124 (0, 0)) := (g.block _ (blk_lt hb) (fun e => by have := far _ e.symm; omega)).trans hb
  have ho : ∀ j, j ≠ k.SB → (w1.setCell ⟨k.SB, 259, none⟩ x).heap[j]? = w1.heap[j]? := fun j hj => set_other _ hj
  have hp : ∀ b, v.pb = some b → w1.heap[b]? = w.heap[b]? := fun b e => by
    have hpg := h.pg
    rw [e] at hpg
    obtain ⟨pc, hp1, _⟩ := hpg
    refine g.block b (blk_lt hp1) (fun c => ?_)
    obtain ⟨_, _, c', hc'⟩ := ownL_lt h.me c.symm
    rw [hp1] at hc'
    cases hc'
  refine ⟨(cell_of hb1).trans h4, frozen_of hb1, ⟨⟨_, set_same hb1 _, (set_ne _ (by decide)).trans h0, (set_ne _ (by decide)).trans h1, (set_ne _ (by decide)).trans h2, (set_ne _ (by decide)).trans h3, set_eq _ h4, (set_ne _ (by decide)).trans h5, (set_ne _ (by decide)).trans h6⟩, h.lo, h.pg.keep (fun b e => (ho b (by have := h.pl b e; omega)).trans (hp b e)), h.pl, own_keepS own (fun j e => ho j (by have := (ownL_lt own e).1; omega)), own_keepS h.ot (fun j e => ?_), ?_⟩, ?_⟩
  · obtain ⟨q1, q2, _⟩ := ownL_lt h.ot e
    exact (ho j (by omega)).trans (g.block j q2 (fun c => h.ap j c.symm e))
  · intro j hj hs
    rcases nw j hj with e | e
    · exact h.ap j e hs
    · have := (ownL_lt h.ot hs).2.1; omega
  · refine ⟨g.os, g.tape, g.output, Nat.le_trans g.size (by simp [World.setCell]), fun j hj hm => ?_, fun j hj hm => ?_⟩
    · exact (ho j (fun c => hm (.inl c))).trans (g.block j hj (fun c => hm (.inr (.inr (.inl c.symm)))))
    · rcases hm with c | c | c | c
      · exact .inl c
      · exact .inr (.inl c)
      · rcases nw j c with e | e
        · exact .inr (.inr (.inl e))
        · omega
      · exact .inr (.inr (.inr c))

/-- One more of the others. -/
theorem Sr.putot (h : Sr k w s v) {x : Value} {os : List Int} (own : OwnL w1 (k.SB + 1) x os) (g : w.grownBy w1 v.ov.ownBlock) (nw : Nw w v.ov x) :
    w1.cell? ⟨k.SB, 261, none⟩ = some v.ov ∧ w1.frozen? ⟨k.SB, 261, none⟩ = false ∧ Sr k (w1.setCell ⟨k.SB, 261, none⟩ x) { s with oth := os } { v with ov := x } ∧ SF k v { v with ov := x } w (w1.setCell ⟨k.SB, 261, none⟩ x) := by
  obtain ⟨cs, hb, h0, h1, h2, h3, h4, h5, h6⟩ := h.blk
  have far : ∀ j, v.ov.ownBlock = some j → k.SB < j := fun j e => (ownL_lt h.ot e).1
  have hb1 : w1.heap[k.SB]? = some (.cells cs 124 (0, 0)) := (g.block _ (blk_lt hb) (fun e => by have := far _ e.symm; omega)).trans hb
  have ho : ∀ j, j ≠ k.SB → (w1.setCell ⟨k.SB, 261, none⟩ x).heap[j]? = w1.heap[j]? := fun j hj => set_other _ hj
  have hp : ∀ b, v.pb = some b → w1.heap[b]? = w.heap[b]? := fun b e => by
    have hpg := h.pg
    rw [e] at hpg
    obtain ⟨pc, hp1, _⟩ := hpg
    refine g.block b (blk_lt hp1) (fun c => ?_)
    obtain ⟨_, _, c', hc'⟩ := ownL_lt h.ot c.symm
    rw [hp1] at hc'
    cases hc'
  refine ⟨(cell_of hb1).trans h6, frozen_of hb1, ⟨⟨_, set_same hb1 _, (set_ne _ (by decide)).trans h0, (set_ne _ (by decide)).trans h1, (set_ne _ (by decide)).trans h2, (set_ne _ (by decide)).trans h3, (set_ne _ (by decide)).trans h4, (set_ne _ (by decide)).trans h5, set_eq _ h6⟩, h.lo, h.pg.keep (fun b e => (ho b (by have := h.pl b e; omega)).trans (hp b e)), h.pl, own_keepS h.me (fun j e => ?_), own_keepS own (fun j e => ho j (by have := (ownL_lt own e).1; omega)), ?_⟩, ?_⟩
  · obtain ⟨q1, q2, _⟩ := ownL_lt h.me e
    exact (ho j (by omega)).trans (g.block j q2 (fun c => h.ap j e c.symm))
  · intro j hj hs
    rcases nw j hs with e | e
    · exact h.ap j hj e
    · have := (ownL_lt h.me hj).2.1; omega
  · refine ⟨g.os, g.tape, g.output, Nat.le_trans g.size (by simp [World.setCell]), fun j hj hm => ?_, fun j hj hm => ?_⟩
    · exact (ho j (fun c => hm (.inl c))).trans (g.block j hj (fun c => hm (.inr (.inr (.inr c.symm)))))
    · rcases hm with c | c | c | c
      · exact .inl c
      · exact .inr (.inl c)
      · exact .inr (.inr (.inl c))
      · rcases nw j c with e | e
        · exact .inr (.inr (.inr e))
        · omega

/-- A trail that is older is as it was. -/
theorem Sr.trl {kt : K} {L : List E} {lev : Nat} {p : V} (h : Sr k w s v) (f : SF k v v' w w') (t : Trl kt w L lev p) (ht : ∀ j, Mine kt p j → j < k.B) : Trl kt w' L lev p := by
  obtain ⟨F, S, r, g, e⟩ := t
  have hb := h.be f
  have hk : ∀ j, Mine kt p j → w'.heap[j]? = w.heap[j]? := fun j hj => hb.block j (ht j hj)
  refine ⟨F, S, ⟨r.lo, r.lt, r.hn, ?_, ?_, ?_, own_keepS r.rs (fun j e => hk j (.inr (.inr (.inr e)))), r.ne⟩, g, e⟩
  · rw [hk _ (.inr (.inl rfl))]; exact r.cl
  · obtain ⟨c, hc, rest⟩ := r.fc
    exact ⟨c, by rw [hk _ (.inl rfl)]; exact hc, rest⟩
  · rcases r.rl with c | ⟨b, cap, cur, e1, e2, e3, rest⟩
    · exact .inl c
    · exact .inr ⟨b, cap, cur, e1, e2, by rw [hk b (.inr (.inr (.inl (by rw [e1]; rfl))))]; exact e3, rest⟩
end

end Go.Proofs.YtimfjoinjfecjaaGreat
