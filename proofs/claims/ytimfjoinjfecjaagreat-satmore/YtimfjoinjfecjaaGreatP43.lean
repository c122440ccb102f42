/-
  Which clauses are kept (stage 13): Math, Mem, Looks, Better, Closure, Sort, Keep.
-/
import Derived.WalkKit
import Derived.Deep.RegionWith
import Derived.Deep.RegionHeld3
import Derived.Deep.Cut
import Derived.Deep.CutRange
import Derived.BigQuiet
import Derived.LoopTactic
import Derived.Laws.AppendOwnNone
import Derived.Laws.OwnMore
import Derived.Laws.MakeOwn
import Derived.Laws.CopyOwn
import Derived.OwnWalk
import Derived.Handy
import Derived.Deep.OwnRows
import Derived.Sort.Grow
import Derived.Test.YtimfjoinjfecjaaGreatP14

namespace Go.Proofs.YtimfjoinjfecjaaGreat.Kn
set_option linter.unusedVariables false

/-- What is known of a clause: its size, its levels, how much it was met. -/
structure Dd where
  s : Int
  g : Int
  a : Int

def cmpI (a b : Int) : Int := if a < b then -1 else if b < a then 1 else 0
def orI (a b : Int) : Int := if a ≠ 0 then a else b
def cmpD (x y : Dd) : Int := orI (cmpI x.g y.g) (orI (cmpI y.a x.a) (cmpI x.s y.s))

theorem cmpI_neg {a b : Int} : cmpI a b < 0 ↔ a < b := by
  unfold cmpI
  by_cases h : a < b
  · rw [if_pos h]; simp [h]
  · rw [if_neg h]
    by_cases h2 : b < a
    · rw [if_pos h2]; simp; omega
    · rw [if_neg h2]; simp; omega
theorem cmpI_zero {a b : Int} : cmpI a b = 0 ↔ a = b := by
  unfold cmpI
  by_cases h : a < b
  · rw [if_pos h]; simp; omega
  · rw [if_neg h]
    by_cases h2 : b < a
    · rw [if_pos h2]; simp; omega
    · rw [if_neg h2]; simp; omega
theorem orI_neg {a b : Int} : orI a b < 0 ↔ a < 0 ∨ (a = 0 ∧ b < 0) := by
  unfold orI
  by_cases h : a = 0
  · rw [if_neg (by simpa using h)]; omega
  · rw [if_pos h]; omega
theorem orI_zero {a b : Int} : orI a b = 0 ↔ a = 0 ∧ b = 0 := by
  unfold orI
  by_cases h : a = 0
  · rw [if_neg (by simpa using h)]; omega
  · rw [if_pos h]; omega
def btr (x y : Dd) : Bool := decide (x.g < y.g ∨ (x.g = y.g ∧ (y.a < x.a ∨ (y.a = x.a ∧ x.s < y.s))))
def sure (d : Dd) : Bool := decide (d.g ≤ 2 ∨ d.s ≤ 2)

theorem cmpD_neg (x y : Dd) : cmpD x y < 0 ↔ btr x y = true := by
  unfold cmpD btr
  rw [orI_neg, orI_neg, cmpI_neg, cmpI_neg, cmpI_neg, cmpI_zero, cmpI_zero, decide_eq_true_eq]
theorem cmpD_zero (x y : Dd) : cmpD x y = 0 ↔ x.g = y.g ∧ y.a = x.a ∧ x.s = y.s := by
  unfold cmpD
  rw [orI_zero, orI_zero, cmpI_zero, cmpI_zero, cmpI_zero]
/-- Which of two places is ahead. -/
def ahd (D : Nat → Dd) (i k : Nat) : Bool := btr (D i) (D k) || (decide (i < k) && !btr (D k) (D i))
def ahdC (D : Nat → Dd) (i k : Nat) : Int := orI (cmpD (D i) (D k)) (cmpI (i : Int) (k : Int))

section
variable {D : Nat → Dd} {i j k n : Nat}

theorem ahd_iff : ahd D i k = true ↔ (D i).g < (D k).g ∨ ((D i).g = (D k).g ∧ ((D k).a < (D i).a ∨ ((D k).a = (D i).a ∧ ((D i).s < (D k).s ∨ ((D i).s = (D k).s ∧ i < k))))) := by
  unfold ahd btr
  simp only [Bool.or_eq_true, decide_eq_true_eq, Bool.and_eq_true, Bool.not_eq_true', decide_eq_false_iff_not]
  omega
theorem ahdC_neg : ahdC D i k < 0 ↔ ahd D i k = true := by
  unfold ahdC
  rw [orI_neg, cmpD_neg, cmpD_zero, cmpI_neg, ahd_iff]
  unfold btr
  simp only [decide_eq_true_eq]
  omega
theorem ahd_irr : ahd D i i = false := by
  rw [Bool.eq_false_iff, ne_eq, ahd_iff]; omega
theorem ahd_asym (h : ahd D i k = true) : ahd D k i = false := by
  rw [Bool.eq_false_iff, ne_eq, ahd_iff]; rw [ahd_iff] at h; omega
theorem ahd_trans (h : ahd D i j = true) (g : ahd D j k = true) : ahd D i k = true := by
  rw [ahd_iff] at h g ⊢; omega
theorem ahd_tot (h : i ≠ k) : ahd D i k = true ∨ ahd D k i = true := by
  rw [ahd_iff, ahd_iff]; omega
end

/-- The places of the others. -/
def oth (n : Nat) (D : Nat → Dd) : List Nat := (List.range n).filter (fun i => !sure (D i))
def half (n : Nat) (D : Nat → Dd) : Nat := ((oth n D).length + 1) / 2
/-- How many of the first m places are others that are ahead of i. -/
def rnk (m : Nat) (D : Nat → Dd) (i : Nat) : Nat := ((oth m D).filter (fun k => ahd D k i)).length
def keepF (n : Nat) (D : Nat → Dd) (i : Nat) : Bool := sure (D i) || decide (rnk n D i < half n D)

section
variable {D : Nat → Dd} {i j k n : Nat} {es : List Nat}

theorem oth_sure (h : sure (D n) = true) : oth (n + 1) D = oth n D := by
  unfold oth; rw [List.range_succ, List.filter_append]; simp [h]
theorem oth_more (h : sure (D n) = false) : oth (n + 1) D = oth n D ++ [n] := by
  unfold oth; rw [List.range_succ, List.filter_append]; simp [h]
theorem oth_mem : i ∈ oth n D ↔ i < n ∧ sure (D i) = false := by
  unfold oth; rw [List.mem_filter, List.mem_range]; simp
theorem oth_len : (oth n D).length ≤ n := by
  unfold oth
  have := List.length_filter_le (fun i => !sure (D i)) (List.range n)
  rwa [List.length_range] at this
theorem oth_nodup : (oth n D).Nodup := List.Pairwise.filter _ List.nodup_range
/-- In a row that is in order, one is ahead by its place. -/
theorem rnk_at (hp : es.Perm (oth n D)) (ho : es.Pairwise (fun x y => ahd D x y = true)) (hj : es[j]? = some i) : rnk n D i = j := by
  have e : rnk n D i = (es.filter (fun k => ahd D k i)).length := by
    unfold rnk
    exact ((hp.filter _).length_eq).symm
  obtain ⟨hl, hi⟩ := List.getElem?_eq_some_iff.1 hj
  have hs : es = es.take j ++ es.drop j := (List.take_append_drop j es).symm
  have hd : es.drop j = i :: es.drop (j + 1) := by rw [List.drop_eq_getElem_cons hl, hi]
  rw [hs, List.pairwise_append] at ho
  obtain ⟨_, ho2, ho3⟩ := ho
  rw [hd] at ho2 ho3
  rw [e, hs, List.filter_append, List.length_append, hd]
  have f1 : (es.take j).filter (fun k => ahd D k i) = es.take j := List.filter_eq_self.2 fun x hx => ho3 x hx i (by simp)
  have f2 : (i :: es.drop (j + 1)).filter (fun k => ahd D k i) = [] := List.filter_eq_nil_iff.2 fun x hx => by
    rw [List.mem_cons] at hx
    rcases hx with rfl | hx
    · rw [ahd_irr]; simp
    · rw [ahd_asym ((List.pairwise_cons.1 ho2).1 x hx)]; simp
  rw [f1, f2, List.length_take]
  simp; omega

theorem keep_take (hp : es.Perm (oth n D)) (ho : es.Pairwise (fun x y => ahd D x y = true)) (hi : i < n) : keepF n D i = true ↔ (sure (D i) = true ∨ i ∈ es.take (half n D)) := by
  unfold keepF
  rw [Bool.or_eq_true, decide_eq_true_eq]
  cases hs : sure (D i) with
  | true => simp
  | false =>
    have hm : i ∈ es := hp.mem_iff.2 (oth_mem.2 ⟨hi, hs⟩)
    obtain ⟨j, hl, hj⟩ := List.getElem_of_mem hm
    have hj' : es[j]? = some i := by rw [List.getElem?_eq_getElem hl, hj]
    rw [rnk_at hp ho hj']
    simp only [Bool.false_eq_true, false_or]
    constructor
    · intro h
      have : (es.take (half n D))[j]? = some i := by rw [List.getElem?_take_of_lt h, hj']
      exact List.mem_of_getElem? this
    · intro h
      obtain ⟨k, hk⟩ := List.mem_iff_getElem?.1 h
      have hkl : k < half n D := by
        have := (List.getElem?_eq_some_iff.1 hk).1
        rw [List.length_take] at this; omega
      rw [List.getElem?_take_of_lt hkl] at hk
      have := rnk_at hp ho hk
      rw [rnk_at hp ho hj'] at this
      omega

end

end Go.Proofs.YtimfjoinjfecjaaGreat.Kn

namespace Go.Proofs.YtimfjoinjfecjaaGreat.Kn
open Go.RowKit Go.Sort
set_option linter.unusedVariables false

theorem hid {p : Prop} (h : p) : Hid p := h
theorem Tryz.info3 : (Tryz.prog.info? 3).map (fun i => (i.zero, i.size, i.bytes)) = some (some (.int .i64 0), 1, 8) := by kernel_rfl
theorem Below.next {w w1 w2 : World} (h : Below w.heap.size w w1) (k : Below w1.heap.size w1 w2) : Below w.heap.size w w2 :=
  h.trans (k.mono h.size)
theorem cell_lt {w : World} {p : Addr} {v : Value} (h : w.cell? p = some v) : p.block < w.heap.size := by
  by_cases hp : p.block < w.heap.size
  · exact hp
  · exfalso
    have e : w.heap[p.block]? = none := by simp; omega
    simp [World.cell?, e] at h
theorem grown_set (w : World) (a : Addr) (v : Value) : w.grownBy (w.setCell a v) (some a.block) :=
  ⟨rfl, rfl, rfl, by simp [World.setCell], fun k _ hne => Below.heap_setCell _ _ _ _ (fun e => hne (by rw [e]))⟩
theorem grown_new (w : World) (o : Obj) (r : Option Nat) : w.grownBy (w.alloc o) r := World.grownBy_alloc w o r
theorem grown_two {a b c : World} {r : Option Nat} (h : a.grownBy b r) (g : b.grownBy c r) : a.grownBy c r :=
  ⟨g.os.trans h.os, g.tape.trans h.tape, g.output.trans h.output, Nat.le_trans h.size g.size, fun k hk hn => (g.block k (Nat.lt_of_lt_of_le hk h.size) hn).trans (h.block k hk hn)⟩
theorem below_grown {w w' : World} {B : Nat} {r : Option Nat} (g : w.grownBy w' r) (hr : ∀ j, r = some j → B ≤ j) (hB : B ≤ w.heap.size) : Below B w w' :=
  ⟨g.os, g.tape, g.output, g.size, fun k hk => g.block k (by omega) (fun e => by have := hr k e.symm; omega)⟩
theorem grown_below {w w' : World} (b : Below w.heap.size w w') : w.grownBy w' none := ⟨b.os, b.tape, b.output, b.size, fun j hj _ => b.block j hj⟩
theorem blk_lt {w : World} {b : Nat} {o : Obj} (h : w.heap[b]? = some o) : b < w.heap.size := (Array.getElem?_eq_some_iff.1 h).1
theorem set_same {w : World} {b o : Nat} {c : Array Value} {T : TypeId} {fr : Nat × Nat} (h : w.heap[b]? = some (.cells c T fr)) (v : Value) : (w.setCell ⟨b, o, none⟩ v).heap[b]? = some (.cells (c.setIfInBounds o v) T fr) := by
  simp [World.setCell, Array.getElem?_modify, h]
theorem set_other {w : World} {a : Addr} {b : Nat} (v : Value) (h : b ≠ a.block) : (w.setCell a v).heap[b]? = w.heap[b]? := Below.heap_setCell _ _ _ _ h
theorem new_same (w : World) (o : Obj) : (w.alloc o).heap[w.heap.size]? = some o := by
  show (w.heap.push _)[w.heap.size]? = _; simp
theorem cell_of {w : World} {b o : Nat} {c : Array Value} {T : TypeId} {fr : Nat × Nat} (h : w.heap[b]? = some (.cells c T fr)) : w.cell? ⟨b, o, none⟩ = c[o]? := by simp [World.cell?, h]
theorem frozen_of {w : World} {b o : Nat} {c : Array Value} {T : TypeId} (h : w.heap[b]? = some (.cells c T (0, 0))) : w.frozen? ⟨b, o, none⟩ = false := by simp [World.frozen?, h]
theorem own_keep {w w' : World} {base : Nat} {E : TypeId} {sz : Nat} {v : Value} {n : Nat} {xs : List Value} {r : Option Nat} (h : w.ownsRow base E sz v n xs) (g : w.grownBy w' r)
    (hr : ∀ j, r = some j → v.ownBlock ≠ some j) : w'.ownsRow base E sz v n xs := by
  refine ⟨h.1, ?_⟩
  rcases h.2 with h2 | ⟨b, cap, cur, rfl, hb, hg, rest⟩
  · exact .inl h2
  · refine .inr ⟨b, cap, cur, rfl, hb, ?_, rest⟩
    rw [g.block b (blk_lt hg) (fun e => hr b e.symm rfl)]
    exact hg
theorem own_lt {w : World} {base : Nat} {E : TypeId} {sz : Nat} {v : Value} {n : Nat} {xs : List Value} (h : w.ownsRow base E sz v n xs) {j : Nat} (hj : v.ownBlock = some j) : base ≤ j ∧ j < w.heap.size := by
  rcases h.2 with ⟨rfl, _⟩ | ⟨b, cap, cur, rfl, hb, hg, _⟩
  · simp [Value.ownBlock] at hj
  · simp [Value.ownBlock] at hj; subst hj; exact ⟨hb, blk_lt hg⟩
theorem ints_one (xs : List Int) : ∀ v ∈ xs.map (Value.int .i64), v.oneCell' = true := by
  intro v hv
  obtain ⟨x, _, rfl⟩ := List.mem_map.1 hv
  rfl
theorem add_at {b off j : Nat} : (⟨b, off, none⟩ : Addr).add j = ⟨b, off + j, none⟩ := by
  by_cases h : j = 0
  · subst h; rfl
  · simp [Addr.add, h]
theorem below_drew (w : World) : Below w.heap.size w w.drew := ⟨rfl, rfl, rfl, Nat.le_refl _, fun _ _ => rfl⟩
theorem drewN_any (B : Nat) (w : World) (m : Nat) : Below B w (w.drewN m) := ⟨rfl, rfl, rfl, Nat.le_refl _, fun _ _ => rfl⟩

/-- So many draws, and blocks more behind all. -/
def Gr (w w' : World) : Prop := ∃ q os, w' = grow (w.drewN q) os

theorem Gr.refl (w : World) : Gr w w := ⟨0, #[], by rw [grow_empty]; rfl⟩
theorem Gr.trans {a b c : World} (h : Gr a b) (k : Gr b c) : Gr a c := by
  obtain ⟨q, os, rfl⟩ := h
  obtain ⟨q', os', rfl⟩ := k
  refine ⟨q + q', os ++ os', ?_⟩
  show grow (grow ((a.drewN q).drewN q') os) os' = _
  rw [grow_grow, World.drewN_drewN]
theorem Gr.alloc (w : World) (o : Obj) : Gr w (w.alloc o) := ⟨0, #[o], by rw [alloc_eq_grow]; rfl⟩
theorem Gr.drew (w : World) : Gr w w.drew := ⟨1, #[], by rw [grow_empty]; rfl⟩
theorem Gr.below {w w' : World} (h : Gr w w') : Below w.heap.size w w' := by
  obtain ⟨q, os, rfl⟩ := h
  exact ⟨rfl, rfl, rfl, by rw [size_grow]; exact Nat.le_add_right _ _, fun j hj => heap_grow_old (w.drewN q) os hj⟩


/-! ### Truths -/
/-- Block g is a row of truths. -/
def MB (w : World) (g : Nat) (bs : List Bool) : Prop := w.heap[g]? = some (.cells (bs.map Value.bool).toArray 4 (0, 0))

theorem MB.lt {w : World} {g : Nat} {bs : List Bool} (h : MB w g bs) : g < w.heap.size := (Array.getElem?_eq_some_iff.1 h).1
theorem MB.cell {w : World} {g q : Nat} {bs : List Bool} (h : MB w g bs) (hq : q < bs.length) : w.cell? ⟨g, q, none⟩ = some (.bool (bs.getD q false)) := by
  unfold MB at h; simp [World.cell?, h, hq]
theorem MB.fr {w : World} {g : Nat} {bs : List Bool} (h : MB w g bs) (i : Nat) : w.frozen? ⟨g, i, none⟩ = false := by unfold MB at h; simp [World.frozen?, h]
theorem MB.same {w w' : World} {g : Nat} {bs : List Bool} (h : MB w g bs) (e : w'.heap[g]? = w.heap[g]?) : MB w' g bs := by
  unfold MB; rw [e]; exact h
theorem MB.set {w : World} {g q : Nat} {bs : List Bool} (h : MB w g bs) (b : Bool) : MB (w.setCell ⟨g, q, none⟩ (.bool b)) g (bs.set q b) := by
  unfold MB at h ⊢; simp [World.setCell, Array.getElem?_modify, h, List.map_set]
theorem made_bools (n : Nat) : madeCells #[Value.bool false] n = ((List.replicate n false).map Value.bool).toArray := by
  apply Array.ext
  · simp [madeCells]
  · intro i h1 h2
    simp [madeCells, Nat.mod_one]
theorem MB.made (w : World) (n : Nat) : MB (w.alloc (.cells (madeCells #[.bool false] n) 4)) w.heap.size (List.replicate n false) := by
  unfold MB; rw [made_bools]; show (w.heap.push _)[w.heap.size]? = _; simp
/-- Block g holds n truths. -/
def Bls (w : World) (g n : Nat) (B : Nat → Bool) : Prop := ∀ j, j < n → w.cell? ⟨g, j, none⟩ = some (.bool (B j))
theorem Bls.below {w w' : World} {g n : Nat} {B : Nat → Bool} (h : Bls w g n B) (b : Below w.heap.size w w') : Bls w' g n B := fun j hj => (b.cell (cell_lt (h j hj))).trans (h j hj)
theorem Bls.of {w : World} {g n : Nat} {B C : Nat → Bool} (h : Bls w g n B) (e : ∀ j, j < n → B j = C j) : Bls w g n C := fun j hj => by rw [h j hj, e j hj]
theorem MB.bools {w : World} {g n : Nat} {bs : List Bool} (h : MB w g bs) (hn : bs.length = n) : Bls w g n (fun i => bs.getD i false) := fun j hj => h.cell (by omega)

/-- Which of n marks are set. -/
def Marks (w : World) (g n : Nat) (S : Nat → Prop) : Prop := ∃ bs : List Bool, MB w g bs ∧ bs.length = n ∧ ∀ i, i < n → (bs.getD i false = true ↔ S i)

theorem Marks.lt {w : World} {g n : Nat} {S : Nat → Prop} (h : Marks w g n S) : g < w.heap.size := by obtain ⟨bs, h, _⟩ := h; exact h.lt
theorem Marks.at {w : World} {g n q : Nat} {S : Nat → Prop} (h : Marks w g n S) (hq : q < n) : ∃ b : Bool, w.cell? ⟨g, q, none⟩ = some (.bool b) ∧ Hid (b = true ↔ S q) ∧ w.frozen? ⟨g, q, none⟩ = false := by
  obtain ⟨bs, h, hl, hs⟩ := h
  exact ⟨_, h.cell (by omega), hs q hq, h.fr q⟩
theorem Marks.same {w w' : World} {g n : Nat} {S : Nat → Prop} (h : Marks w g n S) (e : w'.heap[g]? = w.heap[g]?) : Marks w' g n S := by
  obtain ⟨bs, h, r⟩ := h; exact ⟨bs, h.same e, r⟩
theorem Marks.keep {w w' : World} {g n : Nat} {S : Nat → Prop} (h : Marks w g n S) (hb : Below w.heap.size w w') : Marks w' g n S := h.same (hb.block _ h.lt)
theorem Marks.iff {w : World} {g n : Nat} {S S' : Nat → Prop} (h : Marks w g n S) (e : ∀ i, i < n → (S i ↔ S' i)) : Marks w g n S' := by
  obtain ⟨bs, h, hl, hs⟩ := h; exact ⟨bs, h, hl, fun i hi => (hs i hi).trans (e i hi)⟩
theorem Marks.set {w : World} {g n q : Nat} {S : Nat → Prop} (h : Marks w g n S) : Marks (w.setCell ⟨g, q, none⟩ (.bool true)) g n (fun i => S i ∨ i = q) := by
  obtain ⟨bs, h, hl, hs⟩ := h
  refine ⟨bs.set q true, h.set true, by rw [List.length_set]; exact hl, fun i hi => ?_⟩
  by_cases e : i = q
  · subst e; simp [hl, hi]
  · have := hs i hi
    simp only [List.getD_eq_getElem?_getD] at this ⊢
    rw [List.getElem?_set_ne (by omega), this]
    simp [e]
theorem Marks.made (w : World) (n : Nat) : Marks (w.alloc (.cells (madeCells #[.bool false] n) 4)) w.heap.size n (fun _ => False) :=
  ⟨_, MB.made w n, by simp, fun i hi => by simp [hi]⟩

theorem Marks.put {w : World} {g n q : Nat} {S : Nat → Prop} (h : Marks w g n S) (b : Bool) : Marks (w.setCell ⟨g, q, none⟩ (.bool b)) g n (fun i => if i = q then b = true else S i) := by
  obtain ⟨bs, h, hl, hs⟩ := h
  refine ⟨bs.set q b, h.set b, by rw [List.length_set]; exact hl, fun i hi => ?_⟩
  by_cases e : i = q
  · subst e; simp [hl, hi]
  · have := hs i hi
    simp only [List.getD_eq_getElem?_getD] at this ⊢
    rw [List.getElem?_set_ne (by omega), this]
    simp [e]

theorem Marks.bools {w : World} {g n : Nat} {S : Nat → Prop} {B : Nat → Bool} (h : Marks w g n S) (hS : ∀ i, i < n → (S i ↔ B i = true)) : Bls w g n B := by
  obtain ⟨bs, h, hl, hs⟩ := h
  refine (h.bools hl).of fun j hj => ?_
  rw [Bool.eq_iff_iff]; exact (hs j hj).trans (hS j hj)

/-! ### Numbers -/
def Fit (xs : List Int) : Prop := ∀ x ∈ xs, -9223372036854775808 ≤ x ∧ x ≤ 9223372036854775807

/-- The first n cells behind the address are the numbers xs. -/
def Row (w : World) (ao : Option Addr) (n cap : Nat) (xs : List Int) : Prop :=
  xs.length = n ∧ n ≤ cap ∧ cap ≤ maxLen ∧ (ao = none → cap = 0) ∧ Fit xs ∧ (0 < n → ∃ b off, ao = some ⟨b, off, none⟩ ∧ ∀ j, j < n → w.cell? ⟨b, off + j, none⟩ = some (.int .i64 (xs.getD j 0)))

theorem Row.max {w : World} {ao : Option Addr} {n cap : Nat} {xs : List Int} (h : Row w ao n cap xs) : n ≤ 9223372036854775807 := by
  have := h.2.1; have h2 := h.2.2.1; unfold maxLen at h2; omega

theorem Row.at {w : World} {ao : Option Addr} {n cap : Nat} {xs : List Int} (h : Row w ao n cap xs) {k : Nat} (hk : k < n) :
    ∃ b off y, ao = some ⟨b, off, none⟩ ∧ w.cell? ⟨b, off + k, none⟩ = some (.int .i64 y) ∧ Hid (xs[k]? = some y) ∧ -9223372036854775808 ≤ y ∧ y ≤ 9223372036854775807 := by
  obtain ⟨b, off, e, hc⟩ := h.2.2.2.2.2 (by omega)
  have hl : k < xs.length := by rw [h.1]; exact hk
  have hy : xs[k]? = some (xs.getD k 0) := by simp [hl]
  exact ⟨b, off, xs.getD k 0, e, hc k hk, hy, h.2.2.2.2.1 _ (List.mem_of_getElem? hy)⟩

theorem Row.keep {w w' : World} {ao : Option Addr} {n cap : Nat} {xs : List Int} (h : Row w ao n cap xs) (b : Below w.heap.size w w') : Row w' ao n cap xs := by
  refine ⟨h.1, h.2.1, h.2.2.1, h.2.2.2.1, h.2.2.2.2.1, fun h0 => ?_⟩
  obtain ⟨k, off, e, hc⟩ := h.2.2.2.2.2 h0
  refine ⟨k, off, e, fun j hj => ?_⟩
  rw [b.cell (cell_lt (hc j hj))]
  exact hc j hj


theorem row_cells {w : World} {ao : Option Addr} {n cap : Nat} {xs : List Int} (h : Row w ao n cap xs) (h0 : 0 < n) :
    ∃ ad, ao = some ad ∧ ∀ j v, (xs.map (Value.int .i64))[j]? = some v → w.cell? (ad.add j) = some v := by
  obtain ⟨b, off, e, hc⟩ := h.2.2.2.2.2 h0
  refine ⟨_, e, fun j v hv => ?_⟩
  have hj : j < xs.length := by
    have := (List.getElem?_eq_some_iff.1 hv).1; simpa using this
  have := hc j (by rw [← h.1]; exact hj)
  rw [List.getElem?_map, List.getElem?_eq_getElem hj] at hv
  simp at hv
  rw [show xs.getD j 0 = xs[j] by simp [hj], hv] at this
  by_cases h0 : j = 0
  · subst h0; simpa [Addr.add] using this
  · simpa [Addr.add, h0] using this


/-- The value is a slice of the call's own, at a row from block B on, and holds xs. -/
def OwnI (w : World) (B : Nat) (v : Value) (xs : List Int) : Prop := w.ownsRow B 3 1 v xs.length (xs.map (Value.int .i64)) ∧ Fit xs

theorem OwnI.nil (w : World) (B : Nat) : OwnI w B (.slice none 0 0) [] := ⟨World.ownsRow_nil _ _ _ _, fun x hx => by simp at hx⟩

theorem OwnI.row {w : World} {B : Nat} {v : Value} {xs : List Int} (h : OwnI w B v xs) : ∃ ao c, v = .slice ao xs.length c ∧ Row w ao xs.length c xs := by
  rcases h.1.2 with ⟨rfl, hn⟩ | ⟨g, cap, cur, rfl, hb, hg, hl, hm, hs, ht⟩
  · refine ⟨none, 0, by rw [hn], rfl, by omega, by unfold maxLen; omega, fun _ => rfl, h.2, fun h0 => by omega⟩
  · refine ⟨_, cap, rfl, rfl, hl, hm, fun e => by simp at e, h.2, fun _ => ⟨g, 0, rfl, fun j hj => ?_⟩⟩
    rw [Nat.zero_add, h.1.cellAt j (by omega)]
    simp [hj]

theorem OwnI.shape {w : World} {B : Nat} {v : Value} {xs : List Int} (h : OwnI w B v xs) : ∃ ao n c, v = .slice ao n c ∧ Hid (Row w ao n c xs) := by
  obtain ⟨ao, c, e, r⟩ := h.row
  exact ⟨ao, _, c, e, r⟩

theorem Row.take {w : World} {ao : Option Addr} {n c j : Nat} {xs : List Int} (h : Row w ao n c xs) (hj : j ≤ n) : Row w ao j c (xs.take j) := by
  refine ⟨by rw [List.length_take, h.1]; omega, by have := h.2.1; omega, h.2.2.1, h.2.2.2.1, fun x hx => h.2.2.2.2.1 x (List.mem_of_mem_take hx), fun h0 => ?_⟩
  obtain ⟨b, o, e, hc⟩ := h.2.2.2.2.2 (by omega)
  refine ⟨b, o, e, fun i hi => ?_⟩
  rw [hc i (by omega)]
  simp [hi]

theorem Row.drop {w : World} {ao bo : Option Addr} {n c j n' c' : Nat} {xs : List Int} (h : Row w ao n c xs) (hj : j ≤ n) (hn : n' = n - j) (hcc : c' = c - j) (h0 : bo = none → c' = 0) (hb : ∀ b o, ao = some ⟨b, o, none⟩ → 0 < n' → bo = some ⟨b, o + j, none⟩) :
    Row w bo n' c' (xs.drop j) := by
  subst hn hcc
  refine ⟨by rw [List.length_drop, h.1], by have := h.2.1; omega, by have := h.2.2.1; omega, h0, fun x hx => h.2.2.2.2.1 x (List.mem_of_mem_drop hx), fun hp => ?_⟩
  obtain ⟨b, o, e, hc⟩ := h.2.2.2.2.2 (by omega)
  refine ⟨b, o + j, hb b o e hp, fun i hi => ?_⟩
  rw [Nat.add_assoc, hc (j + i) (by omega)]
  simp [List.getElem?_drop]

theorem OwnI.alloc {w : World} {B : Nat} {v : Value} {xs : List Int} (h : OwnI w B v xs) (o : Obj) : OwnI (w.alloc o) B v xs := ⟨h.1.alloc o, h.2⟩

theorem fit_append {xs ys : List Int} (h : Fit xs) (g : Fit ys) : Fit (xs ++ ys) := fun x hx => (List.mem_append.1 hx).elim (h x) (g x)

theorem append_ints {w : World} {ops : Array Oper} {rest : List Oper} {o : Oper} {a : Act} {Q : Exit → Act → World → Prop} (hgd : o.guard = none) (s x : Operand)
    (ho : o.op = .call { callee := .builtin .append, args := #[s, x], argTypes := #[42, 42] }) (B : Nat) (v : Value) (xs ys : List Int) (hs : a.eval s = v) (own : OwnI w B v xs)
    (ao : Option Addr) (m c : Nat) (hx : a.eval x = .slice ao m c) (row : Row w ao m c ys) (hbd : xs.length + m ≤ 1000000) (hB : B ≤ w.heap.size)
    (h : ∀ v' w', Hid (OwnI w' B v' (xs ++ ys)) → Hid (Below B w w') → wpList Tryz.prog ops Q rest (a.put o.dst v') w') : wpList Tryz.prog ops Q (o :: rest) a w := by
  obtain ⟨i0, hi, hz0, hz1, hz2⟩ := info_parts Tryz.info3
  have hbel : ∀ {w'}, w.grownBy w' v.ownBlock → Below B w w' := fun hg => (Below.refl B w).grown hg hB fun k hk => (own.1.lt k hk).1
  by_cases h0 : m = 0
  · have e : ys = [] := List.eq_nil_of_length_eq_zero (row.1.trans h0)
    subst e h0
    cases ao with
    | none =>
      have ec := row.2.2.2.1 rfl
      subst ec
      refine wpList_append_own_none hgd s x 42 ho B 3 i0 1 Tryz.underlying42 hi v xs.length _ hs own.1 hx ?_
      exact h v w (show OwnI w B v (xs ++ []) by rw [List.append_nil]; exact own) (Below.refl _ _)
    | some ad =>
      refine wpList_append_own (P := Tryz.prog) (w := w) hgd s x 42 ho B 3 i0 (.int .i64 0) 1 8 Tryz.underlying42 hi hz0 hz1 hz2 rfl (by decide) v xs.length _ hs own.1 ad 0 c [] hx rfl (fun j u hj => by simp at hj) (fun u hu => by simp at hu) (by unfold maxLen; omega) (by omega) hB ?_
      intro v' w' h1 h2 _
      refine h v' w' (show OwnI w' B v' (xs ++ []) from ?_) (hbel h2)
      rw [List.append_nil]
      exact ⟨by simpa using h1, own.2⟩
  · obtain ⟨ad, rfl, hc⟩ := row_cells row (by omega)
    refine wpList_append_own (P := Tryz.prog) (w := w) hgd s x 42 ho B 3 i0 (.int .i64 0) 1 8 Tryz.underlying42 hi hz0 hz1 hz2 rfl (by decide) v xs.length _ hs own.1 ad m c (ys.map (Value.int .i64)) hx (by rw [List.length_map, row.1, Nat.mul_one]) hc (ints_one ys) (by unfold maxLen; omega) (by omega) hB ?_
    intro v' w' h1 h2 _
    refine h v' w' (show OwnI w' B v' (xs ++ ys) from ⟨?_, fit_append own.2 row.2.2.2.2.1⟩) (hbel h2)
    rw [List.length_append, row.1, List.map_append]
    exact h1

/-- A new block of one number. -/
theorem row_one (w : World) (y : Int) (h0 : -9223372036854775808 ≤ y) (h1 : y ≤ 9223372036854775807) : Row (w.alloc (.cells #[.int .i64 y] 3)) (some ⟨w.heap.size, 0, none⟩) 1 1 [y] := by
  refine ⟨rfl, Nat.le_refl _, by unfold maxLen; omega, fun h => by simp at h, fun x hx => by rw [List.mem_singleton] at hx; subst hx; exact ⟨h0, h1⟩, fun _ => ⟨_, _, rfl, fun j hj => ?_⟩⟩
  obtain rfl : j = 0 := by omega
  simp

theorem Row.more {w w' : World} {ao : Option Addr} {n cap B : Nat} {xs : List Int} (h : Row w ao n cap xs) (b : Below B w w') (hB : w.heap.size ≤ B) : Row w' ao n cap xs := h.keep (b.mono hB)



/-! ### Clauses -/
/-- The clauses that a list holds. -/
def Deeds (w : World) (ao : Option Addr) (n : Nat) (D : Nat → Dd) : Prop :=
  0 < n → ∃ b off, ao = some ⟨b, off, none⟩ ∧ ∀ j, j < n → w.cell? ⟨b, off + j * 3, none⟩ = some (.int .i64 (D j).s) ∧ w.cell? ⟨b, off + j * 3 + 1, none⟩ = some (.int .i64 (D j).g) ∧ w.cell? ⟨b, off + j * 3 + 2, none⟩ = some (.int .i64 (D j).a)

theorem Deeds.below {w w' : World} {ao : Option Addr} {n : Nat} {D : Nat → Dd} (h : Deeds w ao n D) (b : Below w.heap.size w w') : Deeds w' ao n D := by
  intro h0
  obtain ⟨g, off, e, hc⟩ := h h0
  refine ⟨g, off, e, fun j hj => ?_⟩
  obtain ⟨r0, r1, r2⟩ := hc j hj
  exact ⟨(b.cell (cell_lt r0)).trans r0, (b.cell (cell_lt r1)).trans r1, (b.cell (cell_lt r2)).trans r2⟩

theorem Deeds.at {w : World} {ao : Option Addr} {n : Nat} {D : Nat → Dd} (h : Deeds w ao n D) {j : Nat} (hj : j < n) : ∃ b off, ao = some ⟨b, off, none⟩ ∧ w.cell? ⟨b, off + j * 3, none⟩ = some (.int .i64 (D j).s) ∧ w.cell? ⟨b, off + j * 3 + 1, none⟩ = some (.int .i64 (D j).g) ∧ w.cell? ⟨b, off + j * 3 + 2, none⟩ = some (.int .i64 (D j).a) := by
  obtain ⟨b, off, e, hc⟩ := h (by omega)
  exact ⟨b, off, e, hc j hj⟩

end Go.Proofs.YtimfjoinjfecjaaGreat.Kn

namespace Go.Proofs.YtimfjoinjfecjaaGreat.Kn
open Go.RowKit Go.Sort
set_option linter.unusedVariables false

theorem isNaN_is (x : Int) (w : World) : Calls Tryz.prog 144 #[.int .i64 x] w fun e w' => e = .returned (.bool false) ∧ w' = w := by
  have hx : (x != x) = false := by simp
  go_enter Tryz.func144, Tryz.ntmps144
  go_wp2
  go_ret
  exact ⟨rfl, rfl⟩

theorem compare_is (a b : Int) (w : World) {y : Int} (hy : cmpI a b = y) : Calls Tryz.prog 124 #[.int .i64 a, .int .i64 b] w fun e w' => e = .returned (.int .i64 y) ∧ w' = w := by
  subst hy
  by_cases h1 : a < b
  · have e1 : cmpI a b = -1 := by unfold cmpI; rw [if_pos h1]
    rw [e1]
    go_enter Tryz.func124, Tryz.ntmps124
    go_wp2_with (go_at_call 144; with_reducible (refine (isNaN_is _ _).mono ?_); rintro e w ⟨rfl, rfl⟩)
    go_ret
    exact ⟨rfl, rfl⟩
  · by_cases h2 : b < a
    · have e1 : cmpI a b = 1 := by unfold cmpI; rw [if_neg h1, if_pos h2]
      rw [e1]
      go_enter Tryz.func124, Tryz.ntmps124
      go_wp2_with (go_at_call 144; with_reducible (refine (isNaN_is _ _).mono ?_); rintro e w ⟨rfl, rfl⟩)
      go_ret
      exact ⟨rfl, rfl⟩
    · have e1 : cmpI a b = 0 := by unfold cmpI; rw [if_neg h1, if_neg h2]
      rw [e1]
      go_enter Tryz.func124, Tryz.ntmps124
      go_wp2_with (go_at_call 144; with_reducible (refine (isNaN_is _ _).mono ?_); rintro e w ⟨rfl, rfl⟩)
      go_ret
      exact ⟨rfl, rfl⟩

theorem orI_nz {a b : Int} (h : a ≠ 0) : orI a b = a := by unfold orI; rw [if_pos h]
theorem orI_z {b : Int} : orI 0 b = b := by unfold orI; rw [if_neg (by simp)]

theorem or2_is (a b : Int) (g : Nat) (w : World) (h0 : w.cell? ⟨g, 0, none⟩ = some (.int .i64 a)) (h1 : w.cell? ⟨g, 1, none⟩ = some (.int .i64 b)) {y : Int} (hy : orI a b = y) :
    Calls Tryz.prog 123 #[.slice (some ⟨g, 0, none⟩) 2 2] w fun e w' => e = .returned (.int .i64 y) ∧ w' = w := by
  subst hy
  by_cases ha : a = 0
  · subst ha
    rw [orI_z]
    by_cases hb : b = 0
    · subst hb
      go_enter Tryz.func123, Tryz.ntmps123
      go_wp2
      refine wp_loop_rounds 3 ?_
      rw [rounds_succ]
      go_wp2
      rw [rounds_succ]
      go_wp2
      rw [rounds_succ]
      go_wp2
      go_ret
      exact ⟨rfl, rfl⟩
    · have hbn : (b != 0) = true := by simpa using hb
      go_enter Tryz.func123, Tryz.ntmps123
      go_wp2
      refine wp_loop_rounds 3 ?_
      rw [rounds_succ]
      go_wp2
      rw [rounds_succ]
      go_wp2
      go_ret
      exact ⟨rfl, rfl⟩
  · rw [orI_nz ha]
    have han : (a != 0) = true := by simpa using ha
    go_enter Tryz.func123, Tryz.ntmps123
    go_wp2
    refine wp_loop_rounds 3 ?_
    rw [rounds_succ]
    go_wp2
    go_ret
    exact ⟨rfl, rfl⟩

theorem or3_is (a b c : Int) (g : Nat) (w : World) (h0 : w.cell? ⟨g, 0, none⟩ = some (.int .i64 a)) (h1 : w.cell? ⟨g, 1, none⟩ = some (.int .i64 b)) (h2 : w.cell? ⟨g, 2, none⟩ = some (.int .i64 c)) {y : Int} (hy : orI a (orI b c) = y) :
    Calls Tryz.prog 123 #[.slice (some ⟨g, 0, none⟩) 3 3] w fun e w' => e = .returned (.int .i64 y) ∧ w' = w := by
  subst hy
  by_cases ha : a = 0
  · subst ha
    rw [orI_z]
    by_cases hb : b = 0
    · subst hb
      rw [orI_z]
      by_cases hc : c = 0
      · subst hc
        go_enter Tryz.func123, Tryz.ntmps123
        go_wp2
        refine wp_loop_rounds 4 ?_
        rw [rounds_succ]
        go_wp2
        rw [rounds_succ]
        go_wp2
        rw [rounds_succ]
        go_wp2
        rw [rounds_succ]
        go_wp2
        go_ret
        exact ⟨rfl, rfl⟩
      · have hcn : (c != 0) = true := by simpa using hc
        go_enter Tryz.func123, Tryz.ntmps123
        go_wp2
        refine wp_loop_rounds 4 ?_
        rw [rounds_succ]
        go_wp2
        rw [rounds_succ]
        go_wp2
        rw [rounds_succ]
        go_wp2
        go_ret
        exact ⟨rfl, rfl⟩
    · rw [orI_nz hb]
      have hbn : (b != 0) = true := by simpa using hb
      go_enter Tryz.func123, Tryz.ntmps123
      go_wp2
      refine wp_loop_rounds 4 ?_
      rw [rounds_succ]
      go_wp2
      rw [rounds_succ]
      go_wp2
      go_ret
      exact ⟨rfl, rfl⟩
  · rw [orI_nz ha]
    have han : (a != 0) = true := by simpa using ha
    go_enter Tryz.func123, Tryz.ntmps123
    go_wp2
    refine wp_loop_rounds 4 ?_
    rw [rounds_succ]
    go_wp2
    go_ret
    exact ⟨rfl, rfl⟩

theorem two_new (W : World) (a b : Int) : (W.alloc (.cells #[.int .i64 a, .int .i64 b] 3)).cell? ⟨W.heap.size, 0, none⟩ = some (.int .i64 a) ∧ (W.alloc (.cells #[.int .i64 a, .int .i64 b] 3)).cell? ⟨W.heap.size, 1, none⟩ = some (.int .i64 b) := by
  have h := new_same W (.cells #[.int .i64 a, .int .i64 b] 3)
  exact ⟨(cell_of h).trans rfl, (cell_of h).trans rfl⟩
theorem three_new (W : World) (a b c : Int) : (W.alloc (.cells #[.int .i64 a, .int .i64 b, .int .i64 c] 3)).cell? ⟨W.heap.size, 0, none⟩ = some (.int .i64 a) ∧ (W.alloc (.cells #[.int .i64 a, .int .i64 b, .int .i64 c] 3)).cell? ⟨W.heap.size, 1, none⟩ = some (.int .i64 b) ∧ (W.alloc (.cells #[.int .i64 a, .int .i64 b, .int .i64 c] 3)).cell? ⟨W.heap.size, 2, none⟩ = some (.int .i64 c) := by
  have h := new_same W (.cells #[.int .i64 a, .int .i64 b, .int .i64 c] 3)
  exact ⟨(cell_of h).trans rfl, (cell_of h).trans rfl, (cell_of h).trans rfl⟩

theorem size_two (w : World) (o1 o2 : Obj) : ((w.alloc o1).alloc o2).heap.size = w.heap.size + 1 + 1 := by
  show ((w.heap.push o1).push o2).size = _
  rw [Array.size_push, Array.size_push]
theorem or3_here (w : World) (o1 o2 : Obj) {c1 c2 c3 r : Int} (hy : orI c1 (orI c2 c3) = r) :
    Calls Tryz.prog 123 #[.slice (some ⟨w.heap.size + 1 + 1, 0, none⟩) 3 3] (((w.alloc o1).alloc o2).alloc (.cells #[.int .i64 c1, .int .i64 c2, .int .i64 c3] 3)).drew fun e w' => e = .returned (.int .i64 r) ∧ w' = (((w.alloc o1).alloc o2).alloc (.cells #[.int .i64 c1, .int .i64 c2, .int .i64 c3] 3)).drew := by
  have h := three_new ((w.alloc o1).alloc o2) c1 c2 c3
  rw [size_two] at h
  exact or3_is c1 c2 c3 _ (((w.alloc o1).alloc o2).alloc (.cells #[.int .i64 c1, .int .i64 c2, .int .i64 c3] 3)).drew h.1 h.2.1 h.2.2 hy

set_option maxHeartbeats 2000000 in
theorem cmpD_is (x y : Dd) (w : World) {r : Int} (hr : cmpD x y = r) : Calls Tryz.prog 130 #[.agg #[.int .i64 x.s, .int .i64 x.g, .int .i64 x.a], .agg #[.int .i64 y.s, .int .i64 y.g, .int .i64 y.a]] w fun e w' => e = .returned (.int .i64 r) ∧ Hid (Gr w w') := by
  obtain ⟨xs, xg, xa⟩ := x
  obtain ⟨ys, yg, ya⟩ := y
  obtain ⟨c1, h1⟩ : ∃ c1, cmpI xg yg = c1 := ⟨_, rfl⟩
  obtain ⟨c2, h2⟩ : ∃ c2, cmpI ya xa = c2 := ⟨_, rfl⟩
  obtain ⟨c3, h3⟩ : ∃ c3, cmpI xs ys = c3 := ⟨_, rfl⟩
  have HO : Hid (orI c1 (orI c2 c3) = r) := hid (by rw [← h1, ← h2, ← h3]; exact hr)
  have H1 := hid h1
  have H2 := hid h2
  have H3 := hid h3
  clear h1 h2 h3 hr
  go_enter Tryz.func130, Tryz.ntmps130
  go_upto_region 1 with fail
  go_region_held3 (fun W => W.cell? ⟨w.heap.size, 0, none⟩ = some (.int .i64 xs) ∧ W.cell? ⟨w.heap.size, 1, none⟩ = some (.int .i64 xg) ∧ W.cell? ⟨w.heap.size, 2, none⟩ = some (.int .i64 xa) ∧ W.cell? ⟨w.heap.size + 1, 0, none⟩ = some (.int .i64 ys) ∧ W.cell? ⟨w.heap.size + 1, 1, none⟩ = some (.int .i64 yg) ∧ W.cell? ⟨w.heap.size + 1, 2, none⟩ = some (.int .i64 ya)) (go_keep) (first
    | (go_at_call 124; with_reducible (refine (compare_is _ _ _ H1.out).mono ?_); rintro e w9 ⟨rfl, rfl⟩)
    | (go_at_call 124; with_reducible (refine (compare_is _ _ _ H2.out).mono ?_); rintro e w9 ⟨rfl, rfl⟩)
    | (go_at_call 124; with_reducible (refine (compare_is _ _ _ H3.out).mono ?_); rintro e w9 ⟨rfl, rfl⟩)
    | (go_at_call 123; with_reducible (refine (or3_here w _ _ HO.out).mono ?_); rintro e w9 ⟨rfl, rfl⟩))
  all_goals go_wp2_with fail
  all_goals go_ret
  all_goals exact ⟨rfl, hid ((Gr.alloc _ _).trans ((Gr.alloc _ _).trans ((Gr.alloc _ _).trans (Gr.drew _))))⟩

end Go.Proofs.YtimfjoinjfecjaaGreat.Kn

namespace Go.Proofs.YtimfjoinjfecjaaGreat.Kn
open Go.RowKit Go.Sort
set_option linter.unusedVariables false



end Go.Proofs.YtimfjoinjfecjaaGreat.Kn

namespace Go.Proofs.YtimfjoinjfecjaaGreat.Kn
open Go.RowKit Go.Sort
set_option linter.unusedVariables false



section
variable {w w' : World} {ao : Option Addr} {n cap BX : Nat} {D : Nat → Dd}

theorem two_at (W : World) (a b : Int) {y : Int} (hy : orI a b = y) : Calls Tryz.prog 123 #[.slice (some ⟨W.heap.size, 0, none⟩) 2 2] (W.alloc (.cells #[.int .i64 a, .int .i64 b] 3)) fun e w' => e = .returned (.int .i64 y) ∧ w' = W.alloc (.cells #[.int .i64 a, .int .i64 b] 3) :=
  or2_is a b _ _ (two_new W a b).1 (two_new W a b).2 hy

theorem gr_cell {a : Addr} {v : Value} (g : Gr w w') (h : w.cell? a = some v) : w'.cell? a = some v := (g.below.cell (cell_lt h)).trans h

set_option maxHeartbeats 2000000 in
theorem closure_is (h : Deeds w ao n D) (hbx : w.cell? ⟨BX, 0, none⟩ = some (.slice ao n cap)) (x y : Nat) (hx : x < n) (hy : y < n) (hn : n ≤ 10000) :
    Calls Tryz.prog 129 #[.int .i64 x, .int .i64 y, .pointer (some ⟨BX, 0, none⟩)] w fun e w' => e = .returned (.int .i64 (ahdC D x y)) ∧ Gr w w' := by
  obtain ⟨b, off, rfl, x0, x1, x2⟩ := h.at hx
  obtain ⟨b', off', e', y0, y1, y2⟩ := h.at hy
  cases e'
  obtain ⟨dx, ex⟩ : ∃ d, D x = d := ⟨_, rfl⟩
  obtain ⟨dy, ey⟩ : ∃ d, D y = d := ⟨_, rfl⟩
  rw [ex] at x0 x1 x2
  rw [ey] at y0 y1 y2
  obtain ⟨c1, h1⟩ : ∃ c1, cmpD dx dy = c1 := ⟨_, rfl⟩
  obtain ⟨c2, h2⟩ : ∃ c2, cmpI (x : Int) (y : Int) = c2 := ⟨_, rfl⟩
  obtain ⟨o, ho⟩ : ∃ o, orI c1 c2 = o := ⟨_, rfl⟩
  have HF : Hid (ahdC D x y = o) := hid (by unfold ahdC; rw [ex, ey, h1, h2, ho])
  have H1 := hid h1
  have H2 := hid h2
  have HO := hid ho
  clear h ex ey h1 h2 ho
  have K : Hid (∀ w2, Gr w w2 → w2.cell? ⟨BX, 0, none⟩ = some (.slice (some ⟨b, off, none⟩) n cap) ∧ w2.cell? ⟨b, off + x * 3, none⟩ = some (.int .i64 dx.s) ∧ w2.cell? ⟨b, off + x * 3 + 1, none⟩ = some (.int .i64 dx.g) ∧ w2.cell? ⟨b, off + x * 3 + 2, none⟩ = some (.int .i64 dx.a) ∧ w2.cell? ⟨b, off + y * 3, none⟩ = some (.int .i64 dy.s) ∧ w2.cell? ⟨b, off + y * 3 + 1, none⟩ = some (.int .i64 dy.g) ∧ w2.cell? ⟨b, off + y * 3 + 2, none⟩ = some (.int .i64 dy.a)) :=
    hid (fun w2 g => ⟨gr_cell g hbx, gr_cell g x0, gr_cell g x1, gr_cell g x2, gr_cell g y0, gr_cell g y1, gr_cell g y2⟩)
  have hxn : (x : Int) < (n : Int) := by omega
  have hyn : (y : Int) < (n : Int) := by omega
  go_enter Tryz.func129, Tryz.ntmps129
  go_upto_region 1 with fail
  go_region_held3 (fun W => W.cell? ⟨BX, 0, none⟩ = some (.slice (some ⟨b, off, none⟩) n cap) ∧ W.cell? ⟨b, off + x * 3, none⟩ = some (.int .i64 dx.s) ∧ W.cell? ⟨b, off + x * 3 + 1, none⟩ = some (.int .i64 dx.g) ∧ W.cell? ⟨b, off + x * 3 + 2, none⟩ = some (.int .i64 dx.a) ∧ W.cell? ⟨b, off + y * 3, none⟩ = some (.int .i64 dy.s) ∧ W.cell? ⟨b, off + y * 3 + 1, none⟩ = some (.int .i64 dy.g) ∧ W.cell? ⟨b, off + y * 3 + 2, none⟩ = some (.int .i64 dy.a)) (first | exact K.out _ (Gr.drew w) | exact K.out _ G2.out | exact K.out _ (G2.out.trans (Gr.alloc _ _))) (first
    | (go_at_call 130; with_reducible (refine (cmpD_is dx dy _ H1.out).mono ?_); rintro e w2 ⟨rfl, b2⟩; have G2 := hid ((Gr.drew w).trans b2.out))
    | (go_at_call 124; with_reducible (refine (compare_is _ _ _ H2.out).mono ?_); rintro e w9 ⟨rfl, rfl⟩)
    | (go_at_call 123; with_reducible (refine (two_at _ c1 c2 HO.out).mono ?_); rintro e w9 ⟨rfl, rfl⟩))
  all_goals go_wp2_with fail
  all_goals go_ret
  all_goals exact ⟨by rw [HF.out]; rfl, G2.out.trans (Gr.alloc _ _)⟩

end

end Go.Proofs.YtimfjoinjfecjaaGreat.Kn

namespace Go.Proofs.YtimfjoinjfecjaaGreat.Kn
open Go.RowKit Go.Sort
set_option linter.unusedVariables false

def encL {m : Nat} (x : Fin (m + 1)) : Value := .int .i64 (x.1 : Int)
def cfL {m : Nat} (D : Nat → Dd) (x y : Fin (m + 1)) : Int := ahdC D x.1 y.1

section
variable {m : Nat} {D : Nat → Dd}

theorem ltL {x y : Fin (m + 1)} : ltOf (cfL D) x y = ahd D x.1 y.1 := by
  rw [Bool.eq_iff_iff]
  unfold ltOf cfL
  rw [decide_eq_true_eq, ahdC_neg]

theorem ahd_weak {i j k : Nat} (h : ahd D i j = false) (g : ahd D j k = false) : ahd D i k = false := by
  cases h3 : ahd D i k with
  | false => rfl
  | true =>
    by_cases e : j = k
    · subst e; rw [h] at h3; exact h3.symm
    · rcases ahd_tot (D := D) e with q | q
      · rw [q] at g; exact g
      · rw [ahd_trans h3 q] at h; exact h

theorem swoL : SWO (ltOf (cfL (m := m) D)) := by
  refine ⟨fun x => ?_, fun x y z h1 h2 => ?_, fun x y z h1 h2 => ?_⟩
  · rw [ltL]; exact ahd_irr
  · rw [ltL] at h1 h2 ⊢; exact ahd_trans h1 h2
  · rw [ltL] at h1 h2 ⊢; exact ahd_weak h1 h2

theorem totL (x y : Fin (m + 1)) (h1 : ltOf (cfL D) x y = false) (h2 : ltOf (cfL D) y x = false) : x = y := by
  rw [ltL] at h1 h2
  by_cases e : x.1 = y.1
  · exact Fin.ext e
  · rcases ahd_tot (D := D) e with q | q
    · rw [h1] at q; simp at q
    · rw [h2] at q; simp at q

theorem liftF (os : List Nat) (h : ∀ x ∈ os, x < m + 1) : ∃ ds : List (Fin (m + 1)), ds.map (fun x => x.1) = os := by
  induction os with
  | nil => exact ⟨[], rfl⟩
  | cons x os ih =>
    obtain ⟨ds, e⟩ := ih (fun y hy => h y (by simp [hy]))
    exact ⟨⟨x, h x (by simp)⟩ :: ds, by simp [e]⟩

theorem sortedF (ds : List (Fin (m + 1))) (hn : (ds.map (fun x => x.1)).Nodup) : ((ds.mergeSort fun x y => !(ltOf (cfL D)) y x).map (fun x => x.1)).Perm (ds.map (fun x => x.1)) ∧ ((ds.mergeSort fun x y => !(ltOf (cfL D)) y x).map (fun x => x.1)).Pairwise (fun x y => ahd D x y = true) := by
  have hp := (List.mergeSort_perm ds (fun x y => !(ltOf (cfL D)) y x)).map (fun x : Fin (m + 1) => x.1)
  refine ⟨hp, ?_⟩
  have hn2 : ((ds.mergeSort fun x y => !(ltOf (cfL D)) y x).map (fun x => x.1)).Pairwise (fun x y => x ≠ y) := hp.symm.nodup hn
  have h := List.pairwise_mergeSort (le := fun x y : Fin (m + 1) => !(ltOf (cfL D)) y x) (fun a b c h1 h2 => ?_) (fun a b => ?_) ds
  · have h' : ((ds.mergeSort fun x y => !(ltOf (cfL D)) y x).map (fun x => x.1)).Pairwise (fun x y => ahd D y x = false) := by
      rw [List.pairwise_map]
      refine h.imp_of_mem fun {a b} _ _ hab => ?_
      rw [← ltL]; simpa using hab
    refine (h'.and hn2).imp_of_mem fun {a b} _ _ hab => ?_
    rcases ahd_tot (D := D) hab.2 with q | q
    · exact q
    · have := hab.1; rw [q] at this; simp at this
  · rw [ltL] at h1 h2 ⊢
    have h1' : ahd D b.1 a.1 = false := by simpa using h1
    have h2' : ahd D c.1 b.1 = false := by simpa using h2
    rw [ahd_weak h2' h1']; rfl
  · rw [ltL, ltL]
    cases h3 : ahd D b.1 a.1 with
    | false => simp
    | true => rw [ahd_asym h3]; simp
end

/-! ### The row that is sorted -/
theorem sort_grown {α : Type} [Inhabited α] (enc : α → Value) (w : World) (blk off m : Nat) (dk : Array α) (os : Array Obj) : w.grownBy (sortWorld enc w blk off m dk os) (some blk) := by
  refine ⟨rfl, rfl, rfl, ?_, fun j hj hne => ?_⟩
  · unfold sortWorld
    rw [size_grow, size_putRow]
    exact Nat.le_add_right _ _
  · unfold sortWorld
    have h1 : j < (putRow enc (Sort.ahead w m) blk off dk).heap.size := by rw [size_putRow]; exact hj
    rw [heap_grow_old _ _ h1]
    have hne' : ¬ blk = j := fun c => hne (by rw [c])
    simp only [putRow, mapBlock, Array.getElem?_modify, if_neg hne']
    rfl

theorem sort_cell {α : Type} [Inhabited α] (enc : α → Value) (w : World) (blk m : Nat) (d0 dk : Array α) (os : Array Obj) (hb : blk < w.heap.size) (h0 : Holds enc w blk 0 d0) (hs : dk.size = d0.size) (j : Nat) (hj : j < dk.size) :
    (sortWorld enc w blk 0 m dk os).cell? ⟨blk, j, none⟩ = some (enc dk[j]!) := by
  have hsz : blk < (putRow enc (Sort.ahead w m) blk 0 dk).heap.size := by rw [size_putRow]; exact hb
  unfold sortWorld
  rw [cell?_grow _ _ _ hsz]
  have := cell?_putRow enc (Sort.ahead w m) blk 0 d0 dk h0 hs j hj
  rwa [Nat.zero_add] at this

section
variable {w w' : World} {ao : Option Addr} {n cap BX g : Nat} {D : Nat → Dd}

theorem Deeds.grown (h : Deeds w ao n D) (gr : w.grownBy w' (some g)) (hg : ∀ ad, ao = some ad → ad.block ≠ g) : Deeds w' ao n D := by
  intro h0
  obtain ⟨b, off, e, hc⟩ := h h0
  have hne : b ≠ g := hg _ e
  have same : ∀ {o : Nat} {v : Value}, w.cell? ⟨b, o, none⟩ = some v → w'.cell? ⟨b, o, none⟩ = some v := fun {o v} hv => by
    rw [World.cell?_of_block (a := ⟨b, o, none⟩) (gr.block b (cell_lt hv) (fun c => hne (Option.some.inj c)))]
    exact hv
  refine ⟨b, off, e, fun j hj => ?_⟩
  obtain ⟨r0, r1, r2⟩ := hc j hj
  exact ⟨same r0, same r1, same r2⟩

theorem cmp_lays {m : Nat} (h : Deeds w ao (m + 1) D) (hbx : w.cell? ⟨BX, 0, none⟩ = some (.slice ao (m + 1) cap)) (hn : m + 1 ≤ 10000) (h1 : g ≠ BX) (h2 : ∀ ad, ao = some ad → ad.block ≠ g) (off size : Nat) : CmpLays1 Tryz.prog 129 #[.pointer (some ⟨BX, 0, none⟩)] encL (cfL (m := m) D) g off size w := by
  intro q os dk _ x y
  have gr := sort_grown encL w g off q dk os
  have hb : (sortWorld encL w g off q dk os).cell? ⟨BX, 0, none⟩ = some (.slice ao (m + 1) cap) := by
    rw [World.cell?_of_block (a := ⟨BX, 0, none⟩) (gr.block BX (cell_lt hbx) (fun c => h1 (Option.some.inj c).symm))]
    exact hbx
  exact closure_is (h.grown gr h2) hb x.1 y.1 x.2 y.2 hn

theorem sortFunc_is {m c : Nat} (h : Deeds w ao (m + 1) D) (hbx : w.cell? ⟨BX, 0, none⟩ = some (.slice ao (m + 1) cap)) (hn : m + 1 ≤ 10000) (h1 : g ≠ BX) (h2 : ∀ ad, ao = some ad → ad.block ≠ g) {cur : Array Value} (hg : w.heap[g]? = some (.cells cur 3 (0, 0))) (xs : List Nat) (hc : ∀ (j y : Nat), xs[j]? = some y → w.cell? ⟨g, j, none⟩ = some (.int .i64 (y : Int))) (hb : ∀ y ∈ xs, y < m + 1) (hd : xs.Nodup) (hl : xs.length ≤ 10000) :
    Calls Tryz.prog 121 #[.slice (some ⟨g, 0, none⟩) xs.length c, .func (.func 129) #[] #[.pointer (some ⟨BX, 0, none⟩)]] w fun e w' => e = .returned (.tuple #[]) ∧ ∃ es : List Nat, Hid (es.Perm xs ∧ es.Pairwise (fun x y => ahd D x y = true)) ∧ Hid (w.grownBy w' (some g)) ∧ Hid (∀ (j y : Nat), es[j]? = some y → w'.cell? ⟨g, j, none⟩ = some (.int .i64 (y : Int))) := by
  obtain ⟨ds, hds⟩ := liftF xs hb
  have hlen : ds.toArray.size = xs.length := by rw [← hds]; simp
  have hH : Holds encL w g 0 ds.toArray := fun j hj => by
    have hj' : j < ds.length := by simpa using hj
    refine ⟨?_, frozen_of hg⟩
    have e : ds.toArray[j]! = ds[j] := by simp [hj']
    rw [e, Nat.zero_add]
    exact hc j ds[j].1 (by rw [← hds]; simp [hj'])
  have key := Tryz.slices_SortFunc_total encL (fun x => rfl) (cfL (m := m) D) swoL 129 #[.pointer (some ⟨BX, 0, none⟩)] g 0 c ds.toArray w (enters_of Tryz.func129 (by kernel_rfl) rfl) (cmp_lays h hbx hn h1 h2 _ _) hH (blk_lt hg) (by rw [hlen]; omega) totL
  rw [hlen] at key
  refine key.mono fun e w' hq => ?_
  obtain ⟨he, q, os, rfl⟩ := hq
  obtain ⟨f1, f2⟩ := sortedF (D := D) ds (by rw [hds]; exact hd)
  rw [hds] at f1
  have hsz : ((ds.mergeSort fun x y => !(ltOf (cfL D)) y x).toArray).size = ds.toArray.size := by simp [List.length_mergeSort]
  refine ⟨he, _, ⟨f1, f2⟩, sort_grown _ _ _ _ _ _ _, hid ?_⟩
  intro j y hj
  have hl := (List.getElem?_eq_some_iff.1 hj).1
  rw [List.length_map] at hl
  have := sort_cell encL w g q ds.toArray (ds.mergeSort fun x y => !(ltOf (cfL D)) y x).toArray os (blk_lt hg) hH hsz j (by simpa using hl)
  rw [this]
  rw [List.getElem?_map, List.getElem?_eq_getElem hl] at hj
  simp only [Option.map_some, Option.some.injEq] at hj
  have e : ((ds.mergeSort fun x y => !(ltOf (cfL D)) y x).toArray)[j]! = (ds.mergeSort fun x y => !(ltOf (cfL D)) y x)[j] := by rw [getElem!_pos _ j (by simpa using hl)]; rfl
  rw [e, ← hj]
  rfl
end

end Go.Proofs.YtimfjoinjfecjaaGreat.Kn

namespace Go.Proofs.YtimfjoinjfecjaaGreat.Kn
open Go.RowKit Go.Sort
set_option linter.unusedVariables false

theorem Tryz.info4 : (Tryz.prog.info? 4).map (fun i => (i.zero, i.size, i.bytes)) = some (some (.bool false), 1, 1) := by kernel_rfl

def ofN (xs : List Nat) : List Int := xs.map (fun x : Nat => (x : Int))

/-- Where Keep stands: the list's box, the marks, the places of the others. -/
structure Kp (w : World) (ao : Option Addr) (n cap : Nat) (wr : World) (S : Nat → Prop) (v : Value) (xs : List Int) : Prop where
  bel : Below w.heap.size w wr
  bx : wr.cell? ⟨w.heap.size, 0, none⟩ = some (.slice ao n cap)
  mrk : Marks wr (w.heap.size + 1) n S
  ow : OwnI wr (w.heap.size + 2) v xs

section
variable {w wr w' : World} {ao : Option Addr} {n cap : Nat} {D : Nat → Dd} {S S' : Nat → Prop} {v v' : Value} {xs xs' : List Int}

theorem Kp.size (h : Kp w ao n cap wr S v xs) : w.heap.size + 2 ≤ wr.heap.size := h.mrk.lt

theorem Kp.iff (h : Kp w ao n cap wr S v xs) (e : ∀ i, i < n → (S i ↔ S' i)) : Kp w ao n cap wr S' v xs := ⟨h.bel, h.bx, h.mrk.iff e, h.ow⟩

theorem Kp.alloc (h : Kp w ao n cap wr S v xs) (o : Obj) : Kp w ao n cap (wr.alloc o) S v xs := by
  have b : Below wr.heap.size wr (wr.alloc o) := (Below.refl _ _).alloc (Nat.le_refl _) o
  exact ⟨Below.next h.bel b, (b.cell (cell_lt h.bx)).trans h.bx, h.mrk.keep b, h.ow.alloc o⟩

theorem Kp.own (h : Kp w ao n cap wr S v xs) (b : Below (w.heap.size + 2) wr w') (o : OwnI w' (w.heap.size + 2) v' xs') : Kp w ao n cap w' S v' xs' := by
  have hs := h.size
  refine ⟨h.bel.trans (b.mono (by omega)), ?_, h.mrk.same (b.block _ (by omega)), o⟩
  rw [World.cell?_of_block (a := ⟨w.heap.size, 0, none⟩) (b.block w.heap.size (by omega))]
  exact h.bx

theorem Kp.set (h : Kp w ao n cap wr S v xs) (q : Nat) : Kp w ao n cap (wr.setCell ⟨w.heap.size + 1, q, none⟩ (.bool true)) (fun i => S i ∨ i = q) v xs := by
  have hs := h.size
  have g := grown_set wr ⟨w.heap.size + 1, q, none⟩ (.bool true)
  refine ⟨?_, ?_, h.mrk.set, own_keep h.ow.1 g (fun j e => ?_), h.ow.2⟩
  · refine ⟨h.bel.os, h.bel.tape, h.bel.output, Nat.le_trans h.bel.size g.size, fun k hk => ?_⟩
    rw [g.block k (by omega) (fun e => by have := Option.some.inj e; simp at this; omega)]
    exact h.bel.block k hk
  · rw [World.cell?_of_block (a := ⟨w.heap.size, 0, none⟩) (g.block w.heap.size (by omega) (fun e => by have := Option.some.inj e; simp at this))]
    exact h.bx
  · cases e
    intro c
    have := (own_lt h.ow.1 c).1
    simp at this
end

section
variable {w wr w' : World} {ao : Option Addr} {n cap k : Nat} {D : Nat → Dd} {S S' : Nat → Prop} {v v' : Value} {xs xs' : List Int}

theorem ofN_append (xs : List Nat) (y : Nat) : ofN (xs ++ [y]) = ofN xs ++ [(y : Int)] := by unfold ofN; simp

theorem row_behind (w : World) (o : Obj) (y : Int) (h0 : -9223372036854775808 ≤ y) (h1 : y ≤ 9223372036854775807) : Row ((w.alloc o).alloc (.cells #[.int .i64 y] 3)) (some ⟨w.heap.size + 1, 0, none⟩) 1 1 [y] := by
  have h := row_one (w.alloc o) y h0 h1
  have e : (w.alloc o).heap.size = w.heap.size + 1 := by show (w.heap.push _).size = _; rw [Array.size_push]
  rwa [e] at h

theorem two_more {B : Nat} (h : B ≤ w.heap.size) (o o' : Obj) : B ≤ ((w.alloc o).alloc o').heap.size ∧ Below B w ((w.alloc o).alloc o') := by
  have e : (w.alloc o).heap.size = w.heap.size + 1 := by show (w.heap.push _).size = _; rw [Array.size_push]
  have e2 : ((w.alloc o).alloc o').heap.size = (w.alloc o).heap.size + 1 := by show ((w.alloc o).heap.push _).size = _; rw [Array.size_push]
  exact ⟨by omega, ((Below.refl _ _).alloc h _).alloc (by omega) _⟩

/-- The state behind so many of the first loop's rounds. -/
def First (w : World) (ao : Option Addr) (n cap : Nat) (D : Nat → Dd) (k : Nat) (wr : World) (v : Value) : Prop := Kp w ao n cap wr (fun j => j < k ∧ sure (D j) = true) v (ofN (oth k D))

theorem First.start (h : Below w.heap.size w w') : First w ao n cap D 0 (((w.alloc (.cells #[.slice ao n cap] 57)).alloc (.cells (madeCells #[.bool false] n) 4))) (.slice none 0 0) := by
  have e : (w.alloc (.cells #[.slice ao n cap] 57)).heap.size = w.heap.size + 1 := by show (w.heap.push _).size = _; rw [Array.size_push]
  have m := Marks.made (w.alloc (.cells #[.slice ao n cap] 57)) n
  rw [e] at m
  have b1 : Below w.heap.size w (w.alloc (.cells #[.slice ao n cap] 57)) := (Below.refl _ _).alloc (Nat.le_refl _) _
  have b2 : Below (w.alloc (.cells #[.slice ao n cap] 57)).heap.size (w.alloc (.cells #[.slice ao n cap] 57)) ((w.alloc (.cells #[.slice ao n cap] 57)).alloc (.cells (madeCells #[.bool false] n) 4)) := (Below.refl _ _).alloc (Nat.le_refl _) _
  have c : (w.alloc (.cells #[.slice ao n cap] 57)).cell? ⟨w.heap.size, 0, none⟩ = some (.slice ao n cap) := (cell_of (new_same w _)).trans rfl
  exact ⟨Below.next b1 b2, (b2.cell (cell_lt c)).trans c, m.iff (fun i hi => ⟨False.elim, fun h => by omega⟩), OwnI.nil _ _⟩

theorem First.sure (h : First w ao n cap D k wr v) (hs : sure (D k) = true) (o : Obj) : First w ao n cap D (k + 1) ((wr.alloc o).setCell ⟨w.heap.size + 1, k, none⟩ (.bool true)) v := by
  unfold First
  rw [oth_sure hs]
  refine ((Kp.alloc h o).set k).iff fun i hi => ?_
  constructor
  · rintro (⟨h1, h2⟩ | rfl)
    · exact ⟨by omega, h2⟩
    · exact ⟨by omega, hs⟩
  · rintro ⟨h1, h2⟩
    by_cases e : i = k
    · exact .inr e
    · exact .inl ⟨by omega, h2⟩

theorem First.more (h : First w ao n cap D k wr v) (hs : Kn.sure (D k) = false) (b : Below (w.heap.size + 2) wr w') (own : OwnI w' (w.heap.size + 2) v' (ofN (oth k D) ++ [(k : Int)])) : First w ao n cap D (k + 1) w' v' := by
  unfold First
  rw [oth_more hs, ofN_append]
  refine (Kp.own h b own).iff fun i hi => ?_
  constructor
  · rintro ⟨h1, h2⟩; exact ⟨by omega, h2⟩
  · rintro ⟨h1, h2⟩
    refine ⟨?_, h2⟩
    by_cases e : i = k
    · rw [e, hs] at h2; simp at h2
    · omega

/-- The second loop: the places in their order, so many of them marked. -/
structure Sec (w : World) (n : Nat) (D : Nat → Dd) (g : Nat) (es : List Nat) (j : Nat) (wr : World) : Prop where
  bel : Below w.heap.size w wr
  mrk : Marks wr (w.heap.size + 1) n (fun i => sure (D i) = true ∨ i ∈ es.take j)
  cel : ∀ (j y : Nat), es[j]? = some y → wr.cell? ⟨g, j, none⟩ = some (.int .i64 (y : Int))
  ne : g ≠ w.heap.size + 1

theorem Sec.set {g j y : Nat} {es : List Nat} (h : Sec w n D g es j wr) (hy : es[j]? = some y) : Sec w n D g es (j + 1) (wr.setCell ⟨w.heap.size + 1, y, none⟩ (.bool true)) := by
  have hs : w.heap.size + 1 < wr.heap.size := h.mrk.lt
  have gr := grown_set wr ⟨w.heap.size + 1, y, none⟩ (.bool true)
  refine ⟨?_, h.mrk.set.iff fun i hi => ?_, fun q z hz => ?_, h.ne⟩
  · refine ⟨h.bel.os, h.bel.tape, h.bel.output, Nat.le_trans h.bel.size gr.size, fun k hk => ?_⟩
    rw [gr.block k (by omega) (fun e => by have := Option.some.inj e; simp at this; omega)]
    exact h.bel.block k hk
  · rw [List.take_add_one, hy]
    simp only [Option.toList_some, List.mem_append, List.mem_singleton]
    exact or_assoc
  · have hc := h.cel q z hz
    rw [World.cell?_of_block (a := ⟨g, q, none⟩) (gr.block g (cell_lt hc) (fun e => h.ne (Option.some.inj e)))]
    exact hc

theorem Sec.done {g : Nat} {es : List Nat} (h : Sec w n D g es (half n D) wr) (hp : es.Perm (oth n D)) (ho : es.Pairwise (fun x y => ahd D x y = true)) : Bls wr (w.heap.size + 1) n (keepF n D) :=
  h.mrk.bools fun i hi => (keep_take hp ho hi).symm

theorem First.none (h : First w ao n cap D n wr v) (e : oth n D = []) : Bls wr (w.heap.size + 1) n (keepF n D) := by
  refine h.mrk.bools fun i hi => ?_
  rw [keep_take (es := []) (by rw [e]) List.Pairwise.nil hi]
  simp [hi]

theorem own_none (h : OwnI wr k v []) : ∃ p c, v = .slice p 0 c := by
  rcases h.1.2 with ⟨h1, _⟩ | ⟨g, c, cur, h1, _⟩
  · exact ⟨_, _, h1⟩
  · exact ⟨_, _, h1⟩

theorem own_filled {os : List Nat} (h : OwnI wr k v (ofN os)) (h0 : os ≠ []) : ∃ g c cur, v = .slice (some ⟨g, 0, none⟩) os.length c ∧ k ≤ g ∧ wr.heap[g]? = some (.cells cur 3 (0, 0)) ∧ os.length ≤ c ∧ c ≤ maxLen ∧ ∀ (j y : Nat), os[j]? = some y → wr.cell? ⟨g, j, none⟩ = some (.int .i64 (y : Int)) := by
  have hl : (ofN os).length = os.length := by unfold ofN; rw [List.length_map]
  have hp : 0 < os.length := List.length_pos_iff.2 h0
  rcases h.1.2 with ⟨_, h2⟩ | ⟨g, cap, cur, rfl, h1, h2, h3, h4, h5, h6⟩
  · omega
  · refine ⟨g, cap, cur, by rw [hl], h1, h2, by omega, h4, fun j y hj => ?_⟩
    have hjl := (List.getElem?_eq_some_iff.1 hj).1
    rw [cell_of h2]
    have e : (cur.toList.take ((ofN os).length * 1))[j]? = some (.int .i64 (y : Int)) := by rw [h6, List.getElem?_map]; unfold ofN; rw [List.getElem?_map, hj]; rfl
    rw [List.getElem?_take_of_lt (by omega)] at e
    simpa using e

theorem Sec.start {g : Nat} {es : List Nat} (h : First w ao n cap D n wr v) (hg : w.heap.size + 2 ≤ g) (gr : wr.grownBy w' (some g)) (hc : ∀ (j y : Nat), es[j]? = some y → w'.cell? ⟨g, j, none⟩ = some (.int .i64 (y : Int))) : Sec w n D g es 0 w' := by
  have hs := h.size
  refine ⟨h.bel.trans (below_grown gr (fun j e => by cases e; omega) h.bel.size), ?_, hc, by omega⟩
  refine (h.mrk.same (gr.block _ (by omega) (fun e => by have := Option.some.inj e; omega))).iff fun i hi => ?_
  simp [hi]

set_option maxHeartbeats 4000000 in
theorem keep_is (h : Deeds w ao n D) (hn : n ≤ 10000) :
    Calls Tryz.prog 93 #[.slice ao n cap] w fun e w' => ∃ g, e = .returned (.slice (some ⟨g, 0, none⟩) n n) ∧ Hid (Bls w' g n (keepF n D)) ∧ Hid (Below w.heap.size w w') := by
  have HD := hid h
  clear h
  have hmk := run_make_row' (P := Tryz.prog) 25 4 (.bool false) 1 Tryz.underlying25 Tryz.info4 rfl .i64 .i64 n (by omega) (by omega)
  go_enter Tryz.func93, Tryz.ntmps93
  go_wp2
  clear hmk
  go_loopw [4, 14] (fun v i wr => ∃ k : Nat, k ≤ n ∧ i = .int .i64 k ∧ Hid (First w ao n cap D k wr v)) (fun _ i _ => n - (intOf i).toNat)
  case atStart => exact ⟨0, Nat.zero_le _, rfl, hid (First.start (Below.refl _ _))⟩
  case round =>
    obtain ⟨k, hk, rfl, hF⟩ := hrel
    by_cases hlt : k < n
    · obtain ⟨b, off, rfl, c0, c1, c2⟩ := (HD.out.below hF.out.bel).at hlt
      obtain ⟨d, hd⟩ : ∃ d, D k = d := ⟨_, rfl⟩
      rw [hd] at c0 c1 c2
      obtain ⟨mb, hc, _, hfr⟩ := (Kp.alloc hF.out (.cells #[.int .i64 d.s, .int .i64 d.g, .int .i64 d.a] 105)).mrk.at hlt
      have hln : (ofN (oth k D)).length ≤ 10000 := by unfold ofN; rw [List.length_map]; have := oth_len (n := k) (D := D); omega
      have hsz := hF.out.size
      by_cases hg : d.g ≤ 2
      · have HS : Hid (sure (D k) = true) := by show sure (D k) = true; rw [hd]; unfold sure; rw [decide_eq_true_eq]; exact .inl hg
        go_wp2
        go_roundw
        case rel => exact ⟨k + 1, by omega, by go_num, hid (First.sure hF.out HS.out _)⟩
        case measure => simp [intOf]; omega
      · have hg' : decide (d.g ≤ 2) = false := by simpa using hg
        by_cases hs : d.s ≤ 2
        · have HS : Hid (sure (D k) = true) := by show sure (D k) = true; rw [hd]; unfold sure; rw [decide_eq_true_eq]; exact .inr hs
          go_wp2
          go_roundw
          case rel => exact ⟨k + 1, by omega, by go_num, hid (First.sure hF.out HS.out _)⟩
          case measure => simp [intOf]; omega
        · have HS : Hid (sure (D k) = false) := by show sure (D k) = false; rw [hd]; unfold sure; rw [decide_eq_false_iff_not]; omega
          go_wp2_with (at_builtin; refine append_ints rfl (.tmp 30) (.tmp 32) rfl (w.heap.size + 2) _ _ [(k : Int)] rfl ((hF.out.ow.alloc _).alloc _) _ 1 1 rfl (row_behind _ _ _ (by omega) (by omega)) (by omega) (two_more hsz _ _).1 ?_; intro v2 w2 own2 hb3)
          go_roundw
          case rel => exact ⟨k + 1, by omega, by go_num, hid (First.more hF.out HS.out ((two_more hsz _ _).2.trans hb3.out) own2.out)⟩
          case measure => simp [intOf]; omega
    · obtain rfl : k = n := by omega
      cases ho : oth k D with
      | nil =>
        have HE := hid ho
        have own := hF.out.ow
        rw [ho] at own
        obtain ⟨p, c, rfl⟩ := own_none own
        clear own ho
        go_wp2_with (go_at_call 121; with_reducible (refine (Tryz.slices_SortFunc_none (α := Nat) _ _ _ _).mono ?_); rintro e w9 ⟨rfl, rfl⟩)
        refine wp_loop_rounds 1 ?_
        rw [rounds_succ]
        go_wp2
        go_ret
        exact ⟨_, rfl, hid (hF.out.none HE.out), hid hF.out.bel⟩
      | cons x xs =>
        have hne : oth k D ≠ [] := by rw [ho]; simp
        clear ho
        obtain ⟨m, rfl⟩ : ∃ m, k = m + 1 := by
          cases k with
          | zero => exact absurd rfl hne
          | succ m => exact ⟨m, rfl⟩
        obtain ⟨g, c, cur, hv, hg, hcur, hLc, hcm, hcells⟩ := own_filled hF.out.ow hne
        obtain ⟨os, hos⟩ : ∃ os, oth (m + 1) D = os := ⟨_, rfl⟩
        obtain ⟨L, hL⟩ : ∃ L, os.length = L := ⟨_, rfl⟩
        obtain ⟨H, hH⟩ : ∃ H, (L + 1) / 2 = H := ⟨_, rfl⟩
        have HH : Hid (half (m + 1) D = H) := hid (by unfold half; rw [hos, hL, hH])
        have hLn : L ≤ 10000 := by have := oth_len (n := m + 1) (D := D); rw [hos, hL] at this; omega
        rw [hos] at hLc hcells hv
        rw [hL] at hv hLc
        subst hv
        have hao : ∀ ad, ao = some ad → ad.block ≠ g := fun ad e => by
          obtain ⟨b, off, e', c0, _⟩ := HD.out.at (show 0 < m + 1 by omega)
          rw [e] at e'
          have := cell_lt c0
          have e2 := Option.some.inj e'
          rw [e2]
          show b ≠ g
          simp at this
          omega
        have key := sortFunc_is (c := c) (HD.out.below hF.out.bel) hF.out.bx hn (by omega) hao hcur os hcells (fun y hy => (oth_mem.1 (by rw [hos]; exact hy)).1) (by rw [← hos]; exact oth_nodup) (by omega)
        rw [hL] at key
        have KEY := hid key
        have HO := hid hos
        have HL := hid hL
        have hq : ((L : Int) + 1).tdiv 2 = (H : Int) := by rw [Int.tdiv_eq_ediv_of_nonneg (by omega)]; omega
        have hHc : H ≤ c := by omega
        have hHL : H ≤ L := by omega
        clear key hos hL hcells hcur hao hne
        go_wp2_with (go_at_call 121; with_reducible (refine KEY.out.mono ?_); rintro e w2 ⟨rfl, es, hes, hgr, hcl⟩)
        have HS := hid (Sec.start hF.out hg hgr.out hcl.out)
        have HP : Hid (∀ j, j < H → ∃ y, es[j]? = some y ∧ y < m + 1) := hid (fun j hj => by
          have hl : es.length = L := by rw [hes.out.1.length_eq]; exact HL.out
          have hjl : j < es.length := by omega
          refine ⟨es[j], List.getElem?_eq_getElem hjl, ?_⟩
          have hm : es[j] ∈ oth (m + 1) D := by rw [HO.out]; exact hes.out.1.mem_iff.1 (List.getElem_mem hjl)
          exact (oth_mem.1 hm).1)
        clear hq KEY hcl hgr HL hH
        go_loopw [45] (fun i wt => ∃ j : Nat, j ≤ H ∧ i = .int .i64 j ∧ Hid (Sec w (m + 1) D g es j wt)) (fun i _ => H - (intOf i).toNat)
        case atStart => exact ⟨0, Nat.zero_le _, rfl, HS⟩
        case round =>
          obtain ⟨j, hj, rfl, hT⟩ := hrel
          by_cases hjl : j < H
          · obtain ⟨y, hy, hyl⟩ := HP.out j hjl
            have hcy := hT.out.cel j y hy
            obtain ⟨mb, hc, _, hfr⟩ := hT.out.mrk.at hyl
            have HY := hid hy
            clear hy
            go_wp2
            go_roundw
            case rel => exact ⟨j + 1, by omega, by go_num, hid (hT.out.set HY.out)⟩
            case measure => simp [intOf]; omega
          · obtain rfl : j = H := by omega
            have hT2 := hT.out
            rw [← HH.out] at hT2
            have HB := hid (hT2.done (by rw [HO.out]; exact hes.out.1) hes.out.2)
            clear hT2
            go_wp2
            go_ret
            exact ⟨_, rfl, HB, hid hT.out.bel⟩
end

end Go.Proofs.YtimfjoinjfecjaaGreat.Kn
