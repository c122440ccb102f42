/-
  An order in memory: activities, those that wait, and their places.
-/
import Derived.Test.YtbddhjohlpblaaaProg
import Derived.Test.YtbddhjohlpblaaaMath
import Derived.WalkKit
import Derived.Deep.RegionWith
import Derived.BigQuiet
import Derived.LoopTactic
import Derived.Laws.AppendOwnNone
import Derived.Laws.OwnMore
import Derived.Laws.MakeOwn
import Derived.Laws.CopyOwn
import Derived.OwnWalk
namespace Go.Proofs.Ytbddhjohlpblaaa
open Go.RowKit
set_option linter.unusedVariables false

theorem hid {p : Prop} (h : p) : Hid p := h

theorem Try.info3 : (Try.prog.info? 3).map (fun i => (i.zero, i.size, i.bytes)) = some (some (.int .i64 0), 1, 8) := by kernel_rfl

theorem Below.next {w w1 w2 : World} (h : Below w.heap.size w w1) (k : Below w1.heap.size w1 w2) : Below w.heap.size w w2 :=
  h.trans (k.mono h.size)

theorem cell_lt {w : World} {p : Addr} {v : Value} (h : w.cell? p = some v) : p.block < w.heap.size := by
  by_cases hp : p.block < w.heap.size
  · exact hp
  · exfalso
    have e : w.heap[p.block]? = none := by simp; omega
    simp [World.cell?, e] at h

/-! ### Blocks -/
theorem grown_set (w : World) (a : Addr) (v : Value) : w.grownBy (w.setCell a v) (some a.block) :=
  ⟨rfl, rfl, rfl, by simp [World.setCell], fun k _ hne => Below.heap_setCell _ _ _ _ (fun e => hne (by rw [e]))⟩

theorem grown_new (w : World) (o : Obj) (r : Option Nat) : w.grownBy (w.alloc o) r := World.grownBy_alloc w o r

theorem grown_two {a b c : World} {r : Option Nat} (h : a.grownBy b r) (g : b.grownBy c r) : a.grownBy c r :=
  ⟨g.os.trans h.os, g.tape.trans h.tape, g.output.trans h.output, Nat.le_trans h.size g.size, fun k hk hn => (g.block k (Nat.lt_of_lt_of_le hk h.size) hn).trans (h.block k hk hn)⟩

theorem below_grown {w w' : World} {B : Nat} {r : Option Nat} (g : w.grownBy w' r) (hr : ∀ j, r = some j → B ≤ j) (hB : B ≤ w.heap.size) : Below B w w' :=
  ⟨g.os, g.tape, g.output, g.size, fun k hk => g.block k (by omega) (fun e => by have := hr k e.symm; omega)⟩

theorem grown_below {w w' : World} (b : Below w.heap.size w w') : w.grownBy w' none := ⟨b.os, b.tape, b.output, b.size, fun j hj _ => b.block j hj⟩

theorem blk_lt {w : World} {b : Nat} {o : Obj} (h : w.heap[b]? = some o) : b < w.heap.size := (Array.getElem?_eq_some_iff.1 h).1

theorem set_same {w : World} {b o : Nat} {c : Array Value} {T : TypeId} {fr : Nat × Nat} (h : w.heap[b]? = some (.cells c T fr)) (v : Value) : (w.setCell ⟨b, o, none⟩ v).heap[b]? = some (.cells (c.setIfInBounds o v) T fr) := by
  simp [World.setCell, Array.getElem?_modify, h]

theorem set_other {w : World} {a : Addr} {b : Nat} (v : Value) (h : b ≠ a.block) : (w.setCell a v).heap[b]? = w.heap[b]? := Below.heap_setCell _ _ _ _ h

theorem new_same (w : World) (o : Obj) : (w.alloc o).heap[w.heap.size]? = some o := by
  show (w.heap.push _)[w.heap.size]? = _; simp

theorem cell_of {w : World} {b o : Nat} {c : Array Value} {T : TypeId} {fr : Nat × Nat} (h : w.heap[b]? = some (.cells c T fr)) : w.cell? ⟨b, o, none⟩ = c[o]? := by simp [World.cell?, h]
theorem frozen_of {w : World} {b o : Nat} {c : Array Value} {T : TypeId} (h : w.heap[b]? = some (.cells c T (0, 0))) : w.frozen? ⟨b, o, none⟩ = false := by simp [World.frozen?, h]

theorem own_keep {w w' : World} {base : Nat} {E : TypeId} {sz : Nat} {v : Value} {n : Nat} {xs : List Value} {r : Option Nat} (h : w.ownsRow base E sz v n xs) (g : w.grownBy w' r)
    (hr : ∀ j, r = some j → v.ownBlock ≠ some j) : w'.ownsRow base E sz v n xs := by
  refine ⟨h.1, ?_⟩
  rcases h.2 with h2 | ⟨b, cap, cur, rfl, hb, hg, rest⟩
  · exact .inl h2
  · refine .inr ⟨b, cap, cur, rfl, hb, ?_, rest⟩
    rw [g.block b (blk_lt hg) (fun e => hr b e.symm rfl)]
    exact hg

theorem own_lt {w : World} {base : Nat} {E : TypeId} {sz : Nat} {v : Value} {n : Nat} {xs : List Value} (h : w.ownsRow base E sz v n xs) {j : Nat} (hj : v.ownBlock = some j) : base ≤ j ∧ j < w.heap.size := by
  rcases h.2 with ⟨rfl, _⟩ | ⟨b, cap, cur, rfl, hb, hg, _⟩
  · simp [Value.ownBlock] at hj
  · simp [Value.ownBlock] at hj; subst hj; exact ⟨hb, blk_lt hg⟩

theorem own_set {w : World} {base g n cap i : Nat} {E : TypeId} {xs : List Value} (h : w.ownsRow base E 1 (.slice (some ⟨g, 0, none⟩) n cap) n xs) (hi : i < n) (v : Value) : (w.setCell ⟨g, i, none⟩ v).ownsRow base E 1 (.slice (some ⟨g, 0, none⟩) n cap) n (xs.set i v) := by
  refine ⟨by rw [List.length_set]; exact h.1, ?_⟩
  rcases h.2 with ⟨e, _⟩ | ⟨b, c, cur, e, hb, hg, h1, h2, h3, h4⟩
  · cases e
  · cases e
    refine .inr ⟨g, cap, cur.setIfInBounds i v, rfl, hb, set_same hg v, h1, h2, by simpa using h3, ?_⟩
    rw [← h4]
    simp [List.take_set]

theorem own_cut {w : World} {base g n cap m : Nat} {E : TypeId} {xs : List Value} (h : w.ownsRow base E 1 (.slice (some ⟨g, 0, none⟩) n cap) n xs) (hm : m ≤ n) : w.ownsRow base E 1 (.slice (some ⟨g, 0, none⟩) m cap) m (xs.take m) := by
  have hl := h.1
  refine ⟨by rw [List.length_take]; omega, ?_⟩
  rcases h.2 with ⟨e, _⟩ | ⟨b, c, cur, e, hb, hg, h1, h2, h3, h4⟩
  · cases e
  · cases e
    refine .inr ⟨g, cap, cur, rfl, hb, hg, by omega, h2, h3, ?_⟩
    rw [← h4, List.take_take]
    congr 1
    omega

theorem own_cell {w : World} {base g n cap i : Nat} {E : TypeId} {xs : List Value} {v : Value} (h : w.ownsRow base E 1 (.slice (some ⟨g, 0, none⟩) n cap) n xs) (hi : i < n) (hv : xs[i]? = some v) : w.cell? ⟨g, i, none⟩ = some v := by
  rcases h.2 with ⟨e, _⟩ | ⟨b, c, cur, e, hb, hg, h1, h2, h3, h4⟩
  · cases e
  · cases e
    rw [cell_of hg, ← hv, ← h4]
    simp [hi]

theorem own_frozen {w : World} {base g n cap i : Nat} {E : TypeId} {xs : List Value} (h : w.ownsRow base E 1 (.slice (some ⟨g, 0, none⟩) n cap) n xs) : w.frozen? ⟨g, i, none⟩ = false := by
  rcases h.2 with ⟨e, _⟩ | ⟨b, c, cur, e, hb, hg, h1, h2, h3, h4⟩
  · cases e
  · cases e; exact frozen_of hg

theorem ints_one (xs : List Int) : ∀ v ∈ xs.map (Value.int .i64), v.oneCell' = true := by
  intro v hv
  obtain ⟨x, _, rfl⟩ := List.mem_map.1 hv
  rfl

/-! ### An order -/
structure K where
  B : Nat
  AB : Nat
  PB : Nat
  OB : Nat
  n : Nat

structure Raw (k : K) (w : World) (A hs P : List Int) (wv : Value) : Prop where
  lo1 : k.B ≤ k.AB
  lo2 : k.B ≤ k.PB
  ne : k.AB ≠ k.PB
  lt1 : k.AB < k.OB
  lt2 : k.PB < k.OB
  hn : k.n ≤ 1048576
  la : A.length = k.n
  lp : P.length = k.n
  cl : w.heap[k.OB]? = some (.cells #[.slice (some ⟨k.AB, 0, none⟩) k.n k.n, wv, .slice (some ⟨k.PB, 0, none⟩) k.n k.n] 46 (0, 0))
  ac : w.heap[k.AB]? = some (.cells (A.map (Value.int .i64)).toArray 3 (0, 0))
  pl : w.heap[k.PB]? = some (.cells (P.map (Value.int .i64)).toArray 3 (0, 0))
  wt : w.ownsRow (k.OB + 1) 3 1 wv hs.length (hs.map (Value.int .i64))

def Mine (k : K) (wv : Value) (j : Nat) : Prop := j = k.AB ∨ j = k.PB ∨ j = k.OB ∨ wv.ownBlock = some j

/-- From w to w' blocks of the order alone have changed; what it has now is of it, or new. -/
structure Fr (k : K) (wv wv' : Value) (w w' : World) : Prop where
  os : w'.os = w.os
  tape : w'.tape = w.tape
  output : w'.output = w.output
  size : w.heap.size ≤ w'.heap.size
  block : ∀ j, j < w.heap.size → ¬ Mine k wv j → w'.heap[j]? = w.heap[j]?
  new : ∀ j, wv'.ownBlock = some j → wv.ownBlock = some j ∨ w.heap.size ≤ j

theorem Fr.refl (k : K) (wv : Value) (w : World) : Fr k wv wv w w := ⟨rfl, rfl, rfl, Nat.le_refl _, fun _ _ _ => rfl, fun _ h => .inl h⟩

theorem Fr.trans {k : K} {v v' v'' : Value} {w w' w'' : World} (h : Fr k v v' w w') (g : Fr k v' v'' w' w'') : Fr k v v'' w w'' := by
  refine ⟨g.os.trans h.os, g.tape.trans h.tape, g.output.trans h.output, Nat.le_trans h.size g.size, fun j hj hm => ?_, fun j hj => ?_⟩
  · rw [g.block j (Nat.lt_of_lt_of_le hj h.size), h.block j hj hm]
    rintro (e | e | e | e)
    · exact hm (.inl e)
    · exact hm (.inr (.inl e))
    · exact hm (.inr (.inr (.inl e)))
    · rcases h.new j e with e | e
      · exact hm (.inr (.inr (.inr e)))
      · omega
  · rcases g.new j hj with e | e
    · exact h.new j e
    · have := h.size; exact .inr (by omega)

theorem Fr.grown {k : K} {v : Value} {w w' : World} {r : Option Nat} (g : w.grownBy w' r) (hr : ∀ j, r = some j → Mine k v j) : Fr k v v w w' :=
  ⟨g.os, g.tape, g.output, g.size, fun j hj hm => g.block j hj (fun e => hm (hr j e.symm)), fun _ h => .inl h⟩

theorem Fr.below {k : K} {v : Value} {w w' : World} (b : Below w.heap.size w w') : Fr k v v w w' := Fr.grown (grown_below b) (fun j hj => by cases hj)

theorem below_drew (w : World) : Below w.heap.size w w.drew := ⟨rfl, rfl, rfl, Nat.le_refl _, fun _ _ => rfl⟩
theorem Fr.drew (k : K) (v : Value) (w : World) : Fr k v v w w.drew := Fr.below (below_drew w)

section
variable {k : K} {w w' : World} {A hs P : List Int} {wv : Value}

theorem Raw.keep (s : Raw k w A hs P wv) {r : Option Nat} (g : w.grownBy w' r) (hr : ∀ j, r = some j → ¬ Mine k wv j) : Raw k w' A hs P wv := by
  refine ⟨s.lo1, s.lo2, s.ne, s.lt1, s.lt2, s.hn, s.la, s.lp, ?_, ?_, ?_, own_keep s.wt g fun j hj e => hr j hj (.inr (.inr (.inr e)))⟩
  · rw [g.block _ (blk_lt s.cl) (fun e => hr _ e.symm (.inr (.inr (.inl rfl))))]; exact s.cl
  · rw [g.block _ (blk_lt s.ac) (fun e => hr _ e.symm (.inl rfl))]; exact s.ac
  · rw [g.block _ (blk_lt s.pl) (fun e => hr _ e.symm (.inr (.inl rfl)))]; exact s.pl

theorem Raw.below (s : Raw k w A hs P wv) (b : Below w.heap.size w w') : Raw k w' A hs P wv := s.keep (grown_below b) (fun j hj => by cases hj)
theorem Raw.drew (s : Raw k w A hs P wv) : Raw k w.drew A hs P wv := s.below (below_drew w)

theorem Raw.mine_lt (s : Raw k w A hs P wv) {j : Nat} (h : Mine k wv j) : k.B ≤ j ∧ j < w.heap.size := by
  have h1 := s.lo1; have h2 := s.lo2; have h3 := s.lt1
  rcases h with e | e | e | e
  · exact ⟨by omega, e ▸ blk_lt s.ac⟩
  · exact ⟨by omega, e ▸ blk_lt s.pl⟩
  · exact ⟨by omega, e ▸ blk_lt s.cl⟩
  · have := own_lt s.wt e; exact ⟨by omega, this.2⟩

theorem Raw.own_gt (s : Raw k w A hs P wv) {j : Nat} (h : wv.ownBlock = some j) : k.OB < j := (own_lt s.wt h).1

theorem Fr.be {wv' : Value} (s : Raw k w A hs P wv) (f : Fr k wv wv' w w') (hB : k.B ≤ w.heap.size) : Below k.B w w' :=
  ⟨f.os, f.tape, f.output, f.size, fun j hj => f.block j (by omega) (fun h => by have := s.mine_lt h; omega)⟩

/-- An activity is written. -/
theorem Raw.puta (s : Raw k w A hs P wv) (i : Nat) (x : Int) : Raw k (w.setCell ⟨k.AB, i, none⟩ (.int .i64 x)) (A.set i x) hs P wv := by
  have h1 := s.lt1; have h2 := s.ne
  refine ⟨s.lo1, s.lo2, s.ne, s.lt1, s.lt2, s.hn, by rw [List.length_set]; exact s.la, s.lp, ?_, ?_, ?_, own_keep s.wt (grown_set w _ _) fun j hj e => ?_⟩
  · rw [set_other _ (by show _ ≠ k.AB; omega)]; exact s.cl
  · rw [set_same s.ac]; simp [List.map_set]
  · rw [set_other _ (by show _ ≠ k.AB; omega)]; exact s.pl
  · cases hj; have := s.own_gt e; simp at this; omega

/-- A place is written. -/
theorem Raw.putp (s : Raw k w A hs P wv) (i : Nat) (x : Int) : Raw k (w.setCell ⟨k.PB, i, none⟩ (.int .i64 x)) A hs (P.set i x) wv := by
  have h1 := s.lt2; have h2 := s.ne
  refine ⟨s.lo1, s.lo2, s.ne, s.lt1, s.lt2, s.hn, s.la, by rw [List.length_set]; exact s.lp, ?_, ?_, ?_, own_keep s.wt (grown_set w _ _) fun j hj e => ?_⟩
  · rw [set_other _ (by show _ ≠ k.PB; omega)]; exact s.cl
  · rw [set_other _ (by show _ ≠ k.PB; omega)]; exact s.ac
  · rw [set_same s.pl]; simp [List.map_set]
  · cases hj; have := s.own_gt e; simp at this; omega

/-- One that waits is written. -/
theorem Raw.putw {g m cap : Nat} (s : Raw k w A hs P (.slice (some ⟨g, 0, none⟩) m cap)) (hm : m = hs.length) (i : Nat) (hi : i < m) (x : Int) : Raw k (w.setCell ⟨g, i, none⟩ (.int .i64 x)) A (hs.set i x) P (.slice (some ⟨g, 0, none⟩) m cap) := by
  have h1 := s.lt1; have h2 := s.lt2
  have h3 : k.OB < g := s.own_gt rfl
  subst hm
  refine ⟨s.lo1, s.lo2, s.ne, s.lt1, s.lt2, s.hn, s.la, s.lp, ?_, ?_, ?_, ?_⟩
  · rw [set_other _ (by show _ ≠ g; omega)]; exact s.cl
  · rw [set_other _ (by show _ ≠ g; omega)]; exact s.ac
  · rw [set_other _ (by show _ ≠ g; omega)]; exact s.pl
  · rw [List.length_set, List.map_set]; exact own_set s.wt hi _

/-- Those that wait are others now. -/
theorem Raw.putv {wv' : Value} {hs' : List Int} (s : Raw k w A hs P wv) (g : w.grownBy w' wv.ownBlock) (own : w'.ownsRow (k.OB + 1) 3 1 wv' hs'.length (hs'.map (Value.int .i64))) :
    w'.heap[k.OB]? = some (.cells #[.slice (some ⟨k.AB, 0, none⟩) k.n k.n, wv, .slice (some ⟨k.PB, 0, none⟩) k.n k.n] 46 (0, 0)) ∧ Raw k (w'.setCell ⟨k.OB, 1, none⟩ wv') A hs' P wv' := by
  have h1 := s.lt1; have h2 := s.lt2
  have e1 : w'.heap[k.OB]? = w.heap[k.OB]? := g.block _ (blk_lt s.cl) (fun e => by have := s.own_gt e.symm; omega)
  have e2 : w'.heap[k.AB]? = w.heap[k.AB]? := g.block _ (blk_lt s.ac) (fun e => by have := s.own_gt e.symm; omega)
  have e3 : w'.heap[k.PB]? = w.heap[k.PB]? := g.block _ (blk_lt s.pl) (fun e => by have := s.own_gt e.symm; omega)
  have e4 := e1.trans s.cl
  refine ⟨e4, s.lo1, s.lo2, s.ne, s.lt1, s.lt2, s.hn, s.la, s.lp, ?_, ?_, ?_, own_keep own (grown_set w' _ _) fun j hj e => ?_⟩
  · rw [set_same e4]; rfl
  · rw [set_other _ (by show _ ≠ k.OB; omega), e2]; exact s.ac
  · rw [set_other _ (by show _ ≠ k.OB; omega), e3]; exact s.pl
  · cases hj; have := (own_lt own e).1; simp at this; omega

theorem Raw.c0 (s : Raw k w A hs P wv) : w.cell? ⟨k.OB, 0, none⟩ = some (.slice (some ⟨k.AB, 0, none⟩) k.n k.n) := by rw [cell_of s.cl]; rfl
theorem Raw.c1 (s : Raw k w A hs P wv) : w.cell? ⟨k.OB, 1, none⟩ = some wv := by rw [cell_of s.cl]; rfl
theorem Raw.c2 (s : Raw k w A hs P wv) : w.cell? ⟨k.OB, 2, none⟩ = some (.slice (some ⟨k.PB, 0, none⟩) k.n k.n) := by rw [cell_of s.cl]; rfl
theorem Raw.cf (s : Raw k w A hs P wv) (i : Nat) : w.frozen? ⟨k.OB, i, none⟩ = false := frozen_of s.cl
theorem Raw.ca (s : Raw k w A hs P wv) {i : Nat} (h : i < k.n) : w.cell? ⟨k.AB, i, none⟩ = some (.int .i64 (fn A i)) := by
  rw [cell_of s.ac]; simp [fn_at (l := A) (k := i) (by rw [s.la]; exact h)]
theorem Raw.caf (s : Raw k w A hs P wv) (i : Nat) : w.frozen? ⟨k.AB, i, none⟩ = false := frozen_of s.ac
theorem Raw.cp (s : Raw k w A hs P wv) {i : Nat} (h : i < k.n) : w.cell? ⟨k.PB, i, none⟩ = some (.int .i64 (fn P i)) := by
  rw [cell_of s.pl]; simp [fn_at (l := P) (k := i) (by rw [s.lp]; exact h)]
theorem Raw.cpf (s : Raw k w A hs P wv) (i : Nat) : w.frozen? ⟨k.PB, i, none⟩ = false := frozen_of s.pl
theorem Raw.shape (s : Raw k w A hs P wv) : ∃ ao cap, wv = .slice ao hs.length cap := by
  rcases s.wt.2 with ⟨rfl, h⟩ | ⟨b, cap, cur, rfl, _⟩
  · exact ⟨none, 0, by rw [h]⟩
  · exact ⟨_, _, rfl⟩
theorem Raw.filled (s : Raw k w A hs P wv) (h : 0 < hs.length) : ∃ g cap, wv = .slice (some ⟨g, 0, none⟩) hs.length cap := by
  rcases s.wt.2 with ⟨rfl, h⟩ | ⟨b, cap, cur, rfl, _⟩
  · omega
  · exact ⟨_, _, rfl⟩
theorem Raw.ch {g m cap : Nat} (s : Raw k w A hs P (.slice (some ⟨g, 0, none⟩) m cap)) {i : Nat} (hm : m = hs.length) (hi : i < m) : w.cell? ⟨g, i, none⟩ = some (.int .i64 (fn hs i)) := by
  subst hm
  exact own_cell s.wt hi (by simp [fn_at hi])
theorem Raw.chf {g m cap : Nat} (s : Raw k w A hs P (.slice (some ⟨g, 0, none⟩) m cap)) (hm : m = hs.length) (i : Nat) : w.frozen? ⟨g, i, none⟩ = false := by
  subst hm
  exact own_frozen s.wt
theorem Raw.len (s : Raw k w A hs P wv) {ao : Option Addr} {m cap : Nat} (h : wv = .slice ao m cap) : m = hs.length := by
  obtain ⟨a', c', e⟩ := s.shape
  rw [h] at e; cases e; rfl
end

end Go.Proofs.Ytbddhjohlpblaaa
