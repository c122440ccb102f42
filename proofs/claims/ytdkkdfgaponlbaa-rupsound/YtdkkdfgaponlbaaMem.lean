/-
  What lies in memory while it is found out what follows: the facts of literals (a list and a map), how many literals of each clause may hold, the uses, what holds.
-/
import Derived.Test.YtdkkdfgaponlbaaSorted
import Derived.Test.YtdkkdfgaponlbaaGrid
import Derived.Test.YtdkkdfgaponlbaaUnit
import Derived.Maps.OwnSet
namespace Go.Proofs.Ytdkkdfgaponlbaa
open Go.RowKit Go.Maps
set_option linter.unusedVariables false

theorem hid {p : Prop} (h : p) : Hid p := h

/-! ### Blocks -/
theorem grown_set (w : World) (a : Addr) (v : Value) : w.grownBy (w.setCell a v) (some a.block) :=
  ⟨rfl, rfl, rfl, by simp [World.setCell], fun k _ hne => Below.heap_setCell _ _ _ _ (fun e => hne (by rw [e]))⟩

theorem grown_new (w : World) (o : Obj) (r : Option Nat) : w.grownBy (w.alloc o) r := World.grownBy_alloc w o r

theorem grown_two {a b c : World} {r : Option Nat} (h : a.grownBy b r) (g : b.grownBy c r) : a.grownBy c r :=
  ⟨g.os.trans h.os, g.tape.trans h.tape, g.output.trans h.output, Nat.le_trans h.size g.size, fun k hk hn => (g.block k (Nat.lt_of_lt_of_le hk h.size) hn).trans (h.block k hk hn)⟩

theorem below_grown {w w' : World} {B : Nat} {r : Option Nat} (g : w.grownBy w' r) (hr : ∀ j, r = some j → B ≤ j) (hB : B ≤ w.heap.size) : Below B w w' :=
  ⟨g.os, g.tape, g.output, g.size, fun k hk => g.block k (by omega) (fun e => by have := hr k e.symm; omega)⟩

theorem blk_lt {w : World} {b : Nat} {o : Obj} (h : w.heap[b]? = some o) : b < w.heap.size := (Array.getElem?_eq_some_iff.1 h).1

theorem blk_ne {w : World} {b b' : Nat} {c c' : Array Value} {T T' : TypeId} {fr fr' : Nat × Nat} (h : w.heap[b]? = some (.cells c T fr)) (h' : w.heap[b']? = some (.cells c' T' fr')) (hT : T ≠ T') : b ≠ b' := by
  rintro rfl
  rw [h] at h'
  simp only [Option.some.injEq, Obj.cells.injEq] at h'
  exact hT h'.2.1

theorem set_same {w : World} {b o : Nat} {c : Array Value} {T : TypeId} {fr : Nat × Nat} (h : w.heap[b]? = some (.cells c T fr)) (v : Value) : (w.setCell ⟨b, o, none⟩ v).heap[b]? = some (.cells (c.setIfInBounds o v) T fr) := by
  simp [World.setCell, Array.getElem?_modify, h]

theorem new_same (w : World) (o : Obj) : (w.alloc o).heap[w.heap.size]? = some o := by
  show (w.heap.push _)[w.heap.size]? = _; simp

theorem cell_of {w : World} {b o : Nat} {c : Array Value} {T : TypeId} {fr : Nat × Nat} (h : w.heap[b]? = some (.cells c T fr)) : w.cell? ⟨b, o, none⟩ = c[o]? := by simp [World.cell?, h]
theorem frozen_of {w : World} {b o : Nat} {c : Array Value} {T : TypeId} (h : w.heap[b]? = some (.cells c T (0, 0))) : w.frozen? ⟨b, o, none⟩ = false := by simp [World.frozen?, h]

theorem own_keep {w w' : World} {base : Nat} {E : TypeId} {sz : Nat} {v : Value} {n : Nat} {xs : List Value} {r : Option Nat} (h : w.ownsRow base E sz v n xs) (g : w.grownBy w' r)
    (hr : ∀ j, r = some j → j < base ∨ ∀ c T fr, w.heap[j]? = some (.cells c T fr) → T ≠ E) : w'.ownsRow base E sz v n xs := by
  refine ⟨h.1, ?_⟩
  rcases h.2 with h2 | ⟨b, cap, cur, rfl, hb, hg, rest⟩
  · exact .inl h2
  · refine .inr ⟨b, cap, cur, rfl, hb, ?_, rest⟩
    rw [g.block b (blk_lt hg) ?_]
    · exact hg
    · intro e
      rcases hr b e.symm with h3 | h3
      · omega
      · exact h3 _ _ _ hg rfl

/-! ### What is known of literals -/
structure Fa where
  h : Bool
  s : Int
  f : Int

def Fa.no : Fa := ⟨false, 0, 0⟩
def factV (a : Fa) : List Value := [.bool a.h, .int .i64 a.s, .int .i64 a.f]
def upd (F : Int → Fa) (x : Int) (a : Fa) : Int → Fa := fun y => if y = x then a else F y

theorem upd_same (F : Int → Fa) (x : Int) (a : Fa) : upd F x a x = a := by simp [upd]
theorem upd_ne (F : Int → Fa) {x y : Int} (a : Fa) (h : y ≠ x) : upd F x a y = F y := by simp [upd, h]

structure K where
  w0 : World
  C : Nat
  OB : Nat
  NB : Nat
  MB : Nat
  N : Nat
  la : Option Addr
  n : Nat
  cap : Nat
  Ks : List Int

def ptrElem : Value → Option (DataW (Option Addr) × List MemPlace)
  | .pointer p => some (.held p, [])
  | _ => none

structure Facts (k : K) (w : World) (F : Int → Fa) (M : Int → Option Nat) (ks : List Int) : Prop where
  near : ∃ arr, w.heap[k.NB]? = some (.cells arr 72 (0, 0)) ∧ ∀ x : Nat, x < k.N → ∀ i, i < 3 → arr[x * 3 + i]? = (factV (F x))[i]?
  map : ∃ D, w.ownsMap Try.prog 3 ptrElem k.MB ks.length D ∧ ∀ x : Int, D.atKey (.int .i64 x) (.held none) = .held ((M x).map fun b => ⟨b, 0, none⟩)
  far : ∀ x b, M x = some b → k.NB < b ∧ (k.N : Int) ≤ x ∧ w.heap[b]? = some (.cells (factV (F x)).toArray 72 (0, 0))
  inj : ∀ x y b, M x = some b → M y = some b → x = y
  zero : ∀ x, (k.N : Int) ≤ x → M x = none → F x = Fa.no
  nod : ks.Nodup
  sub : ∀ x ∈ ks, x ∈ k.Ks
  all : ∀ x ∈ ks, ∃ b, M x = some b

theorem Facts.same {k : K} {w w' : World} {F : Int → Fa} {M : Int → Option Nat} {ks : List Int} (h : Facts k w F M ks) (e1 : w'.heap[k.NB]? = w.heap[k.NB]?) (e2 : w'.heap[k.MB]? = w.heap[k.MB]?)
    (e3 : ∀ x b, M x = some b → w'.heap[b]? = w.heap[b]?) : Facts k w' F M ks := by
  refine ⟨?_, ?_, ?_, h.inj, h.zero, h.nod, h.sub, h.all⟩
  · rw [e1]; exact h.near
  · obtain ⟨D, ⟨es, clock, hb, r⟩, hd⟩ := h.map
    exact ⟨D, ⟨es, clock, e2.trans hb, r⟩, hd⟩
  · intro x b hx
    obtain ⟨h1, h2, h3⟩ := h.far x b hx
    exact ⟨h1, h2, (e3 x b hx).trans h3⟩

theorem Facts.mlt {k : K} {w : World} {F : Int → Fa} {M : Int → Option Nat} {ks : List Int} (h : Facts k w F M ks) : k.MB < w.heap.size := by
  obtain ⟨D, ho, _⟩ := h.map; exact ho.lt

/-- Another kind of block is written. -/
theorem Facts.past {k : K} {w w' : World} {F : Int → Fa} {M : Int → Option Nat} {ks : List Int} {r : Option Nat} (h : Facts k w F M ks) (g : w.grownBy w' r)
    (hr : ∀ j, r = some j → ∃ c T fr, w.heap[j]? = some (.cells c T fr) ∧ T ≠ 72) : Facts k w' F M ks := by
  refine h.same ?_ ?_ ?_
  · obtain ⟨arr, h1, _⟩ := h.near
    refine g.block _ (blk_lt h1) fun e => ?_
    obtain ⟨c, T, fr, h2, h3⟩ := hr _ e.symm
    exact blk_ne h2 h1 h3 rfl
  · refine g.block _ h.mlt fun e => ?_
    obtain ⟨c, T, fr, h2, h3⟩ := hr _ e.symm
    obtain ⟨D, ⟨es, clock, hb, _⟩, _⟩ := h.map
    rw [hb] at h2; simp at h2
  · intro x b hx
    obtain ⟨_, _, h1⟩ := h.far x b hx
    refine g.block _ (blk_lt h1) fun e => ?_
    obtain ⟨c, T, fr, h2, h3⟩ := hr _ e.symm
    exact blk_ne h2 h1 h3 rfl

/-- Where the fact of literal x lies. -/
def At (k : K) (M : Int → Option Nat) (x : Int) (b o : Nat) : Prop := (x < k.N ∧ b = k.NB ∧ o = x.toNat * 3) ∨ ((k.N : Int) ≤ x ∧ M x = some b ∧ o = 0)

theorem Facts.cellsAt {k : K} {w : World} {F : Int → Fa} {M : Int → Option Nat} {ks : List Int} {x : Int} {b o : Nat} (h : Facts k w F M ks) (a : At k M x b o) (h0 : 0 ≤ x) :
    (∃ arr, w.heap[b]? = some (.cells arr 72 (0, 0)) ∧ ∀ i, i < 3 → arr[o + i]? = (factV (F x))[i]?) := by
  rcases a with ⟨hx, rfl, rfl⟩ | ⟨hx, hm, rfl⟩
  · obtain ⟨arr, h1, h2⟩ := h.near
    refine ⟨arr, h1, fun i hi => ?_⟩
    have := h2 x.toNat (by omega) i hi
    rw [this, show ((x.toNat : Nat) : Int) = x by omega]
  · obtain ⟨_, _, h1⟩ := h.far x b hm
    refine ⟨_, h1, fun i hi => by simp⟩

theorem Facts.c0 {k : K} {w : World} {F : Int → Fa} {M : Int → Option Nat} {ks : List Int} {x : Int} {b o : Nat} (h : Facts k w F M ks) (a : At k M x b o) (h0 : 0 ≤ x) : w.cell? ⟨b, o, none⟩ = some (.bool (F x).h) := by
  obtain ⟨arr, h1, h2⟩ := h.cellsAt a h0
  rw [cell_of h1]; exact h2 0 (by omega)
theorem Facts.c1 {k : K} {w : World} {F : Int → Fa} {M : Int → Option Nat} {ks : List Int} {x : Int} {b o : Nat} (h : Facts k w F M ks) (a : At k M x b o) (h0 : 0 ≤ x) : w.cell? ⟨b, o + 1, none⟩ = some (.int .i64 (F x).s) := by
  obtain ⟨arr, h1, h2⟩ := h.cellsAt a h0
  rw [cell_of h1]; exact h2 1 (by omega)
theorem Facts.c2 {k : K} {w : World} {F : Int → Fa} {M : Int → Option Nat} {ks : List Int} {x : Int} {b o : Nat} (h : Facts k w F M ks) (a : At k M x b o) (h0 : 0 ≤ x) : w.cell? ⟨b, o + 2, none⟩ = some (.int .i64 (F x).f) := by
  obtain ⟨arr, h1, h2⟩ := h.cellsAt a h0
  rw [cell_of h1]; exact h2 2 (by omega)
theorem Facts.fr {k : K} {w : World} {F : Int → Fa} {M : Int → Option Nat} {ks : List Int} {x : Int} {b o : Nat} (h : Facts k w F M ks) (a : At k M x b o) (h0 : 0 ≤ x) (i : Nat) : w.frozen? ⟨b, i, none⟩ = false := by
  obtain ⟨arr, h1, h2⟩ := h.cellsAt a h0
  exact frozen_of h1

/-- One field of the fact of x is written. -/
theorem Facts.put {k : K} {w : World} {F : Int → Fa} {M : Int → Option Nat} {ks : List Int} {x : Int} {b o : Nat} (h : Facts k w F M ks) (a : At k M x b o) (h0 : 0 ≤ x) (j : Nat) (hj : j < 3) (v : Value) (f : Fa)
    (hf : factV f = (factV (F x)).set j v) : Facts k (w.setCell ⟨b, o + j, none⟩ v) (upd F x f) M ks := by
  have hfi : ∀ i, i < 3 → (factV f)[i]? = if i = j then some v else (factV (F x))[i]? := by
    intro i hi
    rw [hf, List.getElem?_set]
    by_cases e : i = j
    · subst e; simp [factV]; omega
    · rw [if_neg (fun q => e q.symm), if_neg e]
  rcases a with ⟨hx, rfl, rfl⟩ | ⟨hx, hm, rfl⟩
  · obtain ⟨arr, h1, h2⟩ := h.near
    have hs : x.toNat * 3 + j < arr.size := by
      have := h2 x.toNat (by omega) j hj
      have h3 : (factV (F (x.toNat : Int)))[j]? ≠ none := by simp [factV]; omega
      rw [← this] at h3
      exact Classical.byContradiction fun c => h3 (Array.getElem?_eq_none (by omega))
    refine ⟨⟨_, set_same h1 v, fun y hy i hi => ?_⟩, ?_, ?_, h.inj, ?_, h.nod, h.sub, h.all⟩
    · rw [Array.getElem?_setIfInBounds]
      by_cases e : (y : Int) = x
      · have ey : y = x.toNat := by omega
        subst ey
        rw [show ((x.toNat : Nat) : Int) = x by omega, upd_same, hfi i hi]
        by_cases e2 : i = j
        · subst e2; rw [if_pos rfl, if_pos hs, if_pos rfl]
        · rw [if_neg (by omega), if_neg e2]
          have := h2 x.toNat (by omega) i hi
          rw [show ((x.toNat : Nat) : Int) = x by omega] at this
          exact this
      · rw [if_neg (by omega), upd_ne _ _ e]; exact h2 y hy i hi
    · obtain ⟨D, ⟨es, clock, hb, r⟩, hd⟩ := h.map
      refine ⟨D, ⟨es, clock, ?_, r⟩, hd⟩
      rw [Below.heap_setCell _ _ _ _ (fun e => by rw [e] at hb; rw [hb] at h1; simp at h1)]; exact hb
    · intro y b' hy
      obtain ⟨q1, q2, q3⟩ := h.far y b' hy
      refine ⟨q1, q2, ?_⟩
      rw [Below.heap_setCell _ _ _ _ (show b' ≠ k.NB by omega), upd_ne _ _ (by omega)]; exact q3
    · intro y hy hn
      rw [upd_ne _ _ (by omega)]; exact h.zero y hy hn
  · obtain ⟨q1, q2, q3⟩ := h.far x b hm
    refine ⟨?_, ?_, ?_, h.inj, ?_, h.nod, h.sub, h.all⟩
    · obtain ⟨arr, h1, h2⟩ := h.near
      refine ⟨arr, ?_, fun y hy i hi => ?_⟩
      · rw [Below.heap_setCell _ _ _ _ (show k.NB ≠ b by omega)]; exact h1
      · rw [upd_ne _ _ (by omega)]; exact h2 y hy i hi
    · obtain ⟨D, ⟨es, clock, hb, r⟩, hd⟩ := h.map
      refine ⟨D, ⟨es, clock, ?_, r⟩, hd⟩
      rw [Below.heap_setCell _ _ _ _ (fun e => by rw [e] at hb; rw [hb] at q3; simp at q3)]; exact hb
    · intro y b' hy
      obtain ⟨p1, p2, p3⟩ := h.far y b' hy
      refine ⟨p1, p2, ?_⟩
      by_cases e : y = x
      · subst e
        rw [hm] at hy; cases hy
        rw [set_same q3, upd_same, hf]
        simp
      · have hne : b' ≠ b := fun e2 => e (h.inj y x b (e2 ▸ hy) hm)
        rw [Below.heap_setCell _ _ _ _ hne, upd_ne _ _ e]; exact p3
    · intro y hy hn
      rw [upd_ne _ _ (fun e => by rw [e, hm] at hn; cases hn)]; exact h.zero y hy hn

/-! ### The whole -/
def useV (u : Int × Int) : List Value := [.int .i64 u.1, .int .i64 u.2]

structure KOk (k : K) : Prop where
  hC : k.w0.heap.size ≤ k.C
  hO : k.w0.heap.size ≤ k.OB
  hN : k.w0.heap.size ≤ k.NB
  hM : k.w0.heap.size ≤ k.MB
  near : k.N ≤ 1000000
  keys : k.Ks.length ≤ 1000000
  many : k.n ≤ 1000000
  Kn : ∀ x ∈ k.Ks, 0 ≤ x ∧ x ≤ 9223372036854775807

structure St (k : K) (w : World) (F : Int → Fa) (M : Int → Option Nat) (ks : List Int) (op : List Int) (us : List (Int × Int)) (uv : Value) (H : List Int) (hv : Value) : Prop where
  ok : KOk k
  fa : Facts k w F M ks
  cl : w.heap[k.C]? = some (.cells #[.slice k.la k.n k.cap, .slice (some ⟨k.OB, 0, none⟩) k.n k.n, uv, .slice (some ⟨k.NB, 0, none⟩) k.N k.N, .map (some k.MB), hv] 57 (0, 0))
  op : w.heap[k.OB]? = some (.cells (op.map (Value.int .i64)).toArray 3 (0, 0))
  us : w.ownsRow k.w0.heap.size 74 2 uv us.length (us.flatMap useV)
  he : w.ownsRow (k.OB + 1) 3 1 hv H.length (H.map (Value.int .i64))
  be : Below k.w0.heap.size k.w0 w

section
variable {k : K} {w w' : World} {F F' : Int → Fa} {M M' : Int → Option Nat} {ks ks' : List Int} {op : List Int} {us : List (Int × Int)} {uv : Value} {H : List Int} {hv : Value}

/-- The facts have turned, and a block of theirs alone. -/
theorem St.facts {j : Nat} (s : St k w F M ks op us uv H hv) (g : w.grownBy w' (some j)) (hj : ∀ c T fr, w.heap[j]? = some (.cells c T fr) → T = 72) (hB : k.w0.heap.size ≤ j) (fa : Facts k w' F' M' ks') : St k w' F' M' ks' op us uv H hv := by
  refine ⟨s.ok, fa, ?_, ?_, own_keep s.us g ?_, own_keep s.he g ?_, s.be.trans (below_grown g (fun i hi => by cases hi; exact hB) s.be.size)⟩
  · rw [g.block _ (blk_lt s.cl) (fun e => by cases e; have := hj _ _ _ s.cl; simp at this)]; exact s.cl
  · rw [g.block _ (blk_lt s.op) (fun e => by cases e; have := hj _ _ _ s.op; simp at this)]; exact s.op
  · intro i hi; cases hi; exact .inr fun c T fr h => by rw [hj c T fr h]; decide
  · intro i hi; cases hi; exact .inr fun c T fr h => by rw [hj c T fr h]; decide

theorem St.fput {x : Int} {b o : Nat} (s : St k w F M ks op us uv H hv) (a : At k M x b o) (h0 : 0 ≤ x) (j : Nat) (hj : j < 3) (v : Value) (f : Fa) (hf : factV f = (factV (F x)).set j v) :
    St k (w.setCell ⟨b, o + j, none⟩ v) (upd F x f) M ks op us uv H hv := by
  obtain ⟨arr, h1, _⟩ := s.fa.cellsAt a h0
  refine s.facts (j := b) (grown_set w _ v) (fun c T fr h => by rw [h1] at h; simp only [Option.some.injEq, Obj.cells.injEq] at h; exact h.2.1.symm) ?_ (s.fa.put a h0 j hj v f hf)
  rcases a with ⟨_, rfl, _⟩ | ⟨_, hm, _⟩
  · exact s.ok.hN
  · have := (s.fa.far x b hm).1; have := s.ok.hN; omega

theorem St.puth {x : Int} {b o : Nat} (s : St k w F M ks op us uv H hv) (a : At k M x b o) (h0 : 0 ≤ x) (t : Bool) : St k (w.setCell ⟨b, o, none⟩ (.bool t)) (upd F x { F x with h := t }) M ks op us uv H hv :=
  s.fput a h0 0 (by omega) _ _ rfl
theorem St.puts {x : Int} {b o : Nat} (s : St k w F M ks op us uv H hv) (a : At k M x b o) (h0 : 0 ≤ x) (t : Int) : St k (w.setCell ⟨b, o + 1, none⟩ (.int .i64 t)) (upd F x { F x with s := t }) M ks op us uv H hv :=
  s.fput a h0 1 (by omega) _ _ rfl
theorem St.putf {x : Int} {b o : Nat} (s : St k w F M ks op us uv H hv) (a : At k M x b o) (h0 : 0 ≤ x) (t : Int) : St k (w.setCell ⟨b, o + 2, none⟩ (.int .i64 t)) (upd F x { F x with f := t }) M ks op us uv H hv :=
  s.fput a h0 2 (by omega) _ _ rfl

/-- How many literals of clause i may hold is written. -/
theorem St.putop (s : St k w F M ks op us uv H hv) (i : Nat) (t : Int) : St k (w.setCell ⟨k.OB, i, none⟩ (.int .i64 t)) F M ks (op.set i t) us uv H hv := by
  have g := grown_set w ⟨k.OB, i, none⟩ (.int .i64 t)
  refine ⟨s.ok, s.fa.past g fun j hj => ?_, ?_, ?_, own_keep s.us g ?_, own_keep s.he g ?_, s.be.trans (below_grown g (fun i hi => by cases hi; exact s.ok.hO) s.be.size)⟩
  · cases hj; exact ⟨_, _, _, s.op, by decide⟩
  · rw [g.block _ (blk_lt s.cl) (fun e => blk_ne s.cl s.op (by decide) (Option.some.inj e))]; exact s.cl
  · rw [set_same s.op]; simp [List.map_set]
  · intro j hj; cases hj; exact .inr fun c T fr h => by rw [s.op] at h; simp only [Option.some.injEq, Obj.cells.injEq] at h; rw [← h.2.1]; decide
  · intro j hj; cases hj; exact .inl (Nat.lt_succ_self _)

/-- The list of uses has grown, and is written down. -/
theorem St.putus {uv' : Value} {us' : List (Int × Int)} (s : St k w F M ks op us uv H hv) (g : w.grownBy w' uv.ownBlock) (own : w'.ownsRow k.w0.heap.size 74 2 uv' us'.length (us'.flatMap useV)) :
    w'.heap[k.C]? = some (.cells #[.slice k.la k.n k.cap, .slice (some ⟨k.OB, 0, none⟩) k.n k.n, uv, .slice (some ⟨k.NB, 0, none⟩) k.N k.N, .map (some k.MB), hv] 57 (0, 0)) ∧
    St k (w'.setCell ⟨k.C, 2, none⟩ uv') F M ks op us' uv' H hv := by
  have hb : ∀ j, uv.ownBlock = some j → k.w0.heap.size ≤ j ∧ ∃ c fr, w.heap[j]? = some (.cells c 74 fr) := by
    intro j hj
    rcases s.us.2 with ⟨rfl, _⟩ | ⟨b, cap, cur, rfl, hb, hg, _⟩
    · simp [Value.ownBlock] at hj
    · simp [Value.ownBlock] at hj; subst hj; exact ⟨hb, _, _, hg⟩
  have e1 : w'.heap[k.C]? = some (.cells #[.slice k.la k.n k.cap, .slice (some ⟨k.OB, 0, none⟩) k.n k.n, uv, .slice (some ⟨k.NB, 0, none⟩) k.N k.N, .map (some k.MB), hv] 57 (0, 0)) := by
    rw [g.block _ (blk_lt s.cl) (fun e => by obtain ⟨_, c, fr, h⟩ := hb _ e.symm; exact blk_ne s.cl h (by decide) rfl)]; exact s.cl
  have e2 : w'.heap[k.OB]? = some (.cells (op.map (Value.int .i64)).toArray 3 (0, 0)) := by
    rw [g.block _ (blk_lt s.op) (fun e => by obtain ⟨_, c, fr, h⟩ := hb _ e.symm; exact blk_ne s.op h (by decide) rfl)]; exact s.op
  have g2 := grown_set w' ⟨k.C, 2, none⟩ uv'
  have be1 : Below k.w0.heap.size k.w0 w' := s.be.trans (below_grown g (fun i hi => (hb i hi).1) s.be.size)
  have he1 : w'.ownsRow (k.OB + 1) 3 1 hv H.length (H.map (Value.int .i64)) := own_keep s.he g fun j hj => .inr fun c T fr h => by
    obtain ⟨_, c', fr', h2⟩ := hb j hj; rw [h2] at h; simp only [Option.some.injEq, Obj.cells.injEq] at h; rw [← h.2.1]; decide
  have fa1 : Facts k w' F M ks := s.fa.past g fun j hj => by obtain ⟨_, c', fr', h2⟩ := hb j hj; exact ⟨_, _, _, h2, by decide⟩
  refine ⟨e1, s.ok, fa1.past g2 fun j hj => ?_, ?_, ?_, own_keep own g2 ?_, own_keep he1 g2 ?_, be1.trans (below_grown g2 (fun i hi => by cases hi; exact s.ok.hC) be1.size)⟩
  · cases hj; exact ⟨_, _, _, e1, by decide⟩
  · rw [set_same e1]; rfl
  · rw [g2.block _ (blk_lt e2) (fun e => blk_ne e2 e1 (by decide) (Option.some.inj e))]; exact e2
  · intro j hj; cases hj; exact .inr fun c T fr h => by rw [e1] at h; simp only [Option.some.injEq, Obj.cells.injEq] at h; rw [← h.2.1]; decide
  · intro j hj; cases hj; exact .inr fun c T fr h => by rw [e1] at h; simp only [Option.some.injEq, Obj.cells.injEq] at h; rw [← h.2.1]; decide

/-- The list of what holds has grown, and is written down. -/
theorem St.puthe {hv' : Value} {H' : List Int} (s : St k w F M ks op us uv H hv) (g : w.grownBy w' hv.ownBlock) (own : w'.ownsRow (k.OB + 1) 3 1 hv' H'.length (H'.map (Value.int .i64))) :
    w'.heap[k.C]? = some (.cells #[.slice k.la k.n k.cap, .slice (some ⟨k.OB, 0, none⟩) k.n k.n, uv, .slice (some ⟨k.NB, 0, none⟩) k.N k.N, .map (some k.MB), hv] 57 (0, 0)) ∧
    St k (w'.setCell ⟨k.C, 5, none⟩ hv') F M ks op us uv H' hv' := by
  have hb : ∀ j, hv.ownBlock = some j → k.OB + 1 ≤ j ∧ ∃ c fr, w.heap[j]? = some (.cells c 3 fr) := by
    intro j hj
    rcases s.he.2 with ⟨rfl, _⟩ | ⟨b, cap, cur, rfl, hb, hg, _⟩
    · simp [Value.ownBlock] at hj
    · simp [Value.ownBlock] at hj; subst hj; exact ⟨hb, _, _, hg⟩
  have e1 : w'.heap[k.C]? = some (.cells #[.slice k.la k.n k.cap, .slice (some ⟨k.OB, 0, none⟩) k.n k.n, uv, .slice (some ⟨k.NB, 0, none⟩) k.N k.N, .map (some k.MB), hv] 57 (0, 0)) := by
    rw [g.block _ (blk_lt s.cl) (fun e => by obtain ⟨_, c, fr, h⟩ := hb _ e.symm; exact blk_ne s.cl h (by decide) rfl)]; exact s.cl
  have e2 : w'.heap[k.OB]? = some (.cells (op.map (Value.int .i64)).toArray 3 (0, 0)) := by
    rw [g.block _ (blk_lt s.op) (fun e => by have := (hb _ e.symm).1; omega)]; exact s.op
  have g2 := grown_set w' ⟨k.C, 5, none⟩ hv'
  have be1 : Below k.w0.heap.size k.w0 w' := s.be.trans (below_grown g (fun i hi => by have := (hb i hi).1; have := s.ok.hO; omega) s.be.size)
  have us1 : w'.ownsRow k.w0.heap.size 74 2 uv us.length (us.flatMap useV) := own_keep s.us g fun j hj => .inr fun c T fr h => by
    obtain ⟨_, c', fr', h2⟩ := hb j hj; rw [h2] at h; simp only [Option.some.injEq, Obj.cells.injEq] at h; rw [← h.2.1]; decide
  have fa1 : Facts k w' F M ks := s.fa.past g fun j hj => by obtain ⟨_, c', fr', h2⟩ := hb j hj; exact ⟨_, _, _, h2, by decide⟩
  refine ⟨e1, s.ok, fa1.past g2 fun j hj => ?_, ?_, ?_, own_keep us1 g2 ?_, own_keep own g2 ?_, be1.trans (below_grown g2 (fun i hi => by cases hi; exact s.ok.hC) be1.size)⟩
  · cases hj; exact ⟨_, _, _, e1, by decide⟩
  · rw [set_same e1]; rfl
  · rw [g2.block _ (blk_lt e2) (fun e => blk_ne e2 e1 (by decide) (Option.some.inj e))]; exact e2
  · intro j hj; cases hj; exact .inr fun c T fr h => by rw [e1] at h; simp only [Option.some.injEq, Obj.cells.injEq] at h; rw [← h.2.1]; decide
  · intro j hj; cases hj; exact .inr fun c T fr h => by rw [e1] at h; simp only [Option.some.injEq, Obj.cells.injEq] at h; rw [← h.2.1]; decide

/-- New blocks. -/
theorem St.grown (s : St k w F M ks op us uv H hv) (g : w.grownBy w' none) : St k w' F M ks op us uv H hv := by
  refine ⟨s.ok, s.fa.past g (fun j hj => by cases hj), ?_, ?_, own_keep s.us g (fun j hj => by cases hj), own_keep s.he g (fun j hj => by cases hj), s.be.trans (below_grown g (fun j hj => by cases hj) s.be.size)⟩
  · rw [g.block _ (blk_lt s.cl) (by simp)]; exact s.cl
  · rw [g.block _ (blk_lt s.op) (by simp)]; exact s.op

theorem St.below (s : St k w F M ks op us uv H hv) (b : Below w.heap.size w w') : St k w' F M ks op us uv H hv :=
  s.grown ⟨b.os, b.tape, b.output, b.size, fun j hj _ => b.block j hj⟩

theorem St.drew (s : St k w F M ks op us uv H hv) : St k w.drew F M ks op us uv H hv := s.grown ⟨rfl, rfl, rfl, Nat.le_refl _, fun _ _ _ => rfl⟩

theorem St.c0 (s : St k w F M ks op us uv H hv) : w.cell? ⟨k.C, 0, none⟩ = some (.slice k.la k.n k.cap) := by rw [cell_of s.cl]; rfl
theorem St.c1 (s : St k w F M ks op us uv H hv) : w.cell? ⟨k.C, 1, none⟩ = some (.slice (some ⟨k.OB, 0, none⟩) k.n k.n) := by rw [cell_of s.cl]; rfl
theorem St.c2 (s : St k w F M ks op us uv H hv) : w.cell? ⟨k.C, 2, none⟩ = some uv := by rw [cell_of s.cl]; rfl
theorem St.c3 (s : St k w F M ks op us uv H hv) : w.cell? ⟨k.C, 3, none⟩ = some (.slice (some ⟨k.NB, 0, none⟩) k.N k.N) := by rw [cell_of s.cl]; rfl
theorem St.c4 (s : St k w F M ks op us uv H hv) : w.cell? ⟨k.C, 4, none⟩ = some (.map (some k.MB)) := by rw [cell_of s.cl]; rfl
theorem St.c5 (s : St k w F M ks op us uv H hv) : w.cell? ⟨k.C, 5, none⟩ = some hv := by rw [cell_of s.cl]; rfl
theorem St.cfr (s : St k w F M ks op us uv H hv) (i : Nat) : w.frozen? ⟨k.C, i, none⟩ = false := frozen_of s.cl
theorem St.opc (s : St k w F M ks op us uv H hv) {i : Nat} {t : Int} (h : op[i]? = some t) : w.cell? ⟨k.OB, i, none⟩ = some (.int .i64 t) := by rw [cell_of s.op]; simp [h]
theorem St.opf (s : St k w F M ks op us uv H hv) (i : Nat) : w.frozen? ⟨k.OB, i, none⟩ = false := frozen_of s.op
end

theorem len_sub : ∀ {a b : List Int}, a.Nodup → (∀ x ∈ a, x ∈ b) → a.length ≤ b.length := by
  intro a
  induction a with
  | nil => intro b _ _; simp
  | cons x a ih =>
    intro b hn hs
    rw [List.nodup_cons] at hn
    have hx : x ∈ b := hs x (by simp)
    have := ih (b := b.erase x) hn.2 (fun y hy => by
      have hne : y ≠ x := fun e => hn.1 (e ▸ hy)
      exact (List.mem_erase_of_ne hne).2 (hs y (by simp [hy])))
    rw [List.length_erase_of_mem hx] at this
    have := List.length_pos_of_mem hx
    simp only [List.length_cons]; omega

end Go.Proofs.Ytdkkdfgaponlbaa
