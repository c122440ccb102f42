/-
  What is learned, in its order.
  unsat.
-/
import Derived.Test.YtimfjoinjfecjaaGreatQ30
import Derived.Laws.MakeOwn
import Derived.Test.YtimfjoinjfecjaaGreatQ26

namespace Go.Proofs.YtimfjoinjfecjaaGreat
open Go.RowKit Go.Sort
set_option linter.unusedVariables false

/-! ### The order -/
theorem cmpI_neg {a b : Int} : cmpI a b < 0 ↔ a < b := by
  unfold cmpI
  by_cases h : a < b
  · rw [if_pos h]; simp [h]
  · rw [if_neg h]
    by_cases h2 : b < a
    · rw [if_pos h2]; simp; omega
    · rw [if_neg h2]; simp; omega
theorem cmpI_zero {a b : Int} : cmpI a b = 0 ↔ a = b := by
  unfold cmpI
  by_cases h : a < b
  · rw [if_pos h]; simp; omega
  · rw [if_neg h]
    by_cases h2 : b < a
    · rw [if_pos h2]; simp; omega
    · rw [if_neg h2]; simp; omega

def lvN (L : List E) (x : Nat) : Int := levelF L ((x / 2 : Nat) : Int)

theorem cmpF_neg {L : List E} {x y : Nat} : cmpF L x y < 0 ↔ lvN L y < lvN L x ∨ (lvN L x = lvN L y ∧ x < y) := by
  unfold cmpF orI
  by_cases h : cmpI (levelF L ((y / 2 : Nat) : Int)) (levelF L ((x / 2 : Nat) : Int)) = 0
  · rw [if_neg (by simpa using h), cmpI_neg]
    rw [cmpI_zero] at h
    unfold lvN
    omega
  · rw [if_pos h, cmpI_neg]
    have : levelF L ((y / 2 : Nat) : Int) ≠ levelF L ((x / 2 : Nat) : Int) := fun c => h (cmpI_zero.2 c)
    unfold lvN
    omega

abbrev Lt8 := Fin 8192
def encL (x : Lt8) : Value := .int .i64 (x.1 : Int)
def cfL (L : List E) (x y : Lt8) : Int := cmpF L x.1 y.1

theorem ltL {L : List E} {x y : Lt8} : ltOf (cfL L) x y = true ↔ lvN L y.1 < lvN L x.1 ∨ (lvN L x.1 = lvN L y.1 ∧ x.1 < y.1) := by
  unfold ltOf cfL
  rw [decide_eq_true_eq, cmpF_neg]
theorem ltL_no {L : List E} {x y : Lt8} : ltOf (cfL L) x y = false ↔ ¬ (lvN L y.1 < lvN L x.1 ∨ (lvN L x.1 = lvN L y.1 ∧ x.1 < y.1)) := by
  rw [← ltL]; simp

theorem swoL (L : List E) : SWO (ltOf (cfL L)) := by
  refine ⟨fun x => ltL_no.2 (by omega), fun x y z h1 h2 => ltL.2 ?_, fun x y z h1 h2 => ltL_no.2 ?_⟩
  · have a := ltL.1 h1; have b := ltL.1 h2; omega
  · have a := ltL_no.1 h1; have b := ltL_no.1 h2; omega

theorem totL (L : List E) : ∀ x y : Lt8, ltOf (cfL L) x y = false → ltOf (cfL L) y x = false → x = y := fun x y h1 h2 => by
  have a := ltL_no.1 h1; have b := ltL_no.1 h2
  exact Fin.ext (by omega)

/-- By falling levels, of one level by rising numbers. -/
def Fall (L : List E) (es : List Int) : Prop := es.Pairwise (fun x y => levelF L (vl y : Nat) < levelF L (vl x : Nat) ∨ (levelF L (vl x : Nat) = levelF L (vl y : Nat) ∧ x ≤ y))

theorem lift8 (os : List Int) (h : ∀ x ∈ os, 0 ≤ x ∧ x < 8192) : ∃ ds : List Lt8, ds.map (fun x => (x.1 : Int)) = os := by
  induction os with
  | nil => exact ⟨[], rfl⟩
  | cons x os ih =>
    obtain ⟨ds, e⟩ := ih (fun y hy => h y (by simp [hy]))
    have hx := h x (by simp)
    exact ⟨⟨x.toNat, by omega⟩ :: ds, by simp [e]; omega⟩

theorem fall_sort (L : List E) (ds : List Lt8) : ((ds.mergeSort fun x y => !(ltOf (cfL L)) y x).map (fun x : Lt8 => (x.1 : Int))).Perm (ds.map (fun x => (x.1 : Int))) ∧ Fall L ((ds.mergeSort fun x y => !(ltOf (cfL L)) y x).map (fun x : Lt8 => (x.1 : Int))) := by
  refine ⟨(List.mergeSort_perm ds _).map _, ?_⟩
  have h := List.pairwise_mergeSort (le := fun x y : Lt8 => !(ltOf (cfL L)) y x) (fun a b c h1 h2 => ?_) (fun a b => ?_) ds
  · unfold Fall
    rw [List.pairwise_map]
    refine h.imp_of_mem fun {a b} _ _ hab => ?_
    have := ltL_no.1 (show ltOf (cfL L) b a = false by simpa using hab)
    have e1 : vl ((a.1 : Nat) : Int) = a.1 / 2 := by unfold vl; simp
    have e2 : vl ((b.1 : Nat) : Int) = b.1 / 2 := by unfold vl; simp
    rw [e1, e2]
    unfold lvN at this
    omega
  · have a1 := ltL_no.1 (show ltOf (cfL L) b a = false by simpa using h1)
    have a2 := ltL_no.1 (show ltOf (cfL L) c b = false by simpa using h2)
    have : ltOf (cfL L) c a = false := ltL_no.2 (by omega)
    simp [this]
  · cases h1 : ltOf (cfL L) b a with
    | false => simp
    | true =>
      have a1 := ltL.1 h1
      have : ltOf (cfL L) a b = false := ltL_no.2 (by omega)
      simp [this]

/-! ### The row that is sorted -/
theorem sort_grown {α : Type} [Inhabited α] (enc : α → Value) (w : World) (blk off m : Nat) (dk : Array α) (os : Array Obj) : w.grownBy (sortWorld enc w blk off m dk os) (some blk) := by
  refine ⟨rfl, rfl, rfl, ?_, fun j hj hne => ?_⟩
  · unfold sortWorld
    rw [size_grow, size_putRow]
    exact Nat.le_add_right _ _
  · unfold sortWorld
    have h1 : j < (putRow enc (Sort.ahead w m) blk off dk).heap.size := by rw [size_putRow]; exact hj
    rw [heap_grow_old _ _ h1]
    have hne' : ¬ blk = j := fun c => hne (by rw [c])
    simp only [putRow, mapBlock, Array.getElem?_modify, if_neg hne']
    rfl

theorem sort_typ {α : Type} [Inhabited α] (enc : α → Value) (w : World) (blk off m : Nat) (dk : Array α) (os : Array Obj) {j : Nat} {T : TypeId} (h : Typ w j T) : Typ (sortWorld enc w blk off m dk os) j T := by
  obtain ⟨c, f, h⟩ := h
  unfold sortWorld Typ
  have h1 : j < (putRow enc (Sort.ahead w m) blk off dk).heap.size := by rw [size_putRow]; exact blk_lt h
  rw [heap_grow_old _ _ h1]
  simp only [putRow, mapBlock, Array.getElem?_modify]
  by_cases e : blk = j
  · rw [if_pos e]
    have h' : (Sort.ahead w m).heap[j]? = some (.cells c T f) := h
    rw [h']
    exact ⟨_, _, rfl⟩
  · rw [if_neg e]; exact ⟨c, f, h⟩

theorem sort_cell {α : Type} [Inhabited α] (enc : α → Value) (w : World) (blk off m : Nat) (d0 dk : Array α) (os : Array Obj) (hb : blk < w.heap.size) (h0 : Holds enc w blk off d0) (hs : dk.size = d0.size) :
    (∀ j, j < dk.size → (sortWorld enc w blk off m dk os).cell? ⟨blk, off + j, none⟩ = some (enc dk[j]!)) ∧ ∀ j, j < off → (sortWorld enc w blk off m dk os).cell? ⟨blk, j, none⟩ = w.cell? ⟨blk, j, none⟩ := by
  have hsz : blk < (putRow enc (Sort.ahead w m) blk off dk).heap.size := by rw [size_putRow]; exact hb
  refine ⟨fun j hj => ?_, fun j hj => ?_⟩
  · unfold sortWorld
    rw [cell?_grow _ _ _ hsz]
    exact cell?_putRow enc (Sort.ahead w m) blk off d0 dk h0 hs j hj
  · unfold sortWorld
    rw [cell?_grow _ _ _ hsz, cell?_putRow_other enc (Sort.ahead w m) blk off dk _ (.inr (.inl hj))]
    rfl

theorem make_ints (n : Nat) (hn : n ≤ 100000) (w : World) : (Instr.makeSlice 42 (.int .i64 0) (.int .i64 ((1 : Int) + n))).run Tryz.prog w = .ok (.slice (some ⟨w.heap.size, 0, none⟩) 0 (n + 1)) (w.alloc (.cells (madeCells #[.int .i64 0] (n + 1)) 3)) := by
  obtain ⟨i0, hi, hz0, hz1, hz2⟩ := info_parts Tryz.info3
  have := run_make (P := Tryz.prog) w 42 3 i0 (.int .i64 0) Tryz.underlying42 hi hz0 .i64 .i64 0 ((1 : Int) + n) (Int.le_refl _) (by omega) (by rw [hz2]; omega) (by omega)
  rw [this, hz1]
  have e : ((1 : Int) + n).toNat = n + 1 := by omega
  rw [e]
  simp [Value.cells]

theorem own_made (w : World) (n : Nat) (hn : n ≤ 100000) : U.Own (w.alloc (.cells (madeCells #[.int .i64 0] (n + 1)) 3)) w.heap.size (.slice (some ⟨w.heap.size, 0, none⟩) 0 (n + 1)) [] :=
  ⟨⟨by simp, .inr ⟨w.heap.size, n + 1, _, rfl, Nat.le_refl _, new_same w _, by simp, by unfold maxLen; omega, by rw [size_madeCells]; omega, by simp⟩⟩, fun x hx => by simp at hx⟩

/-- A row of one's own that has something. -/
theorem own_filled {w : World} {B : Nat} {v : Value} {x : Int} {xs : List Int} (h : U.Own w B v (x :: xs)) : ∃ g c cur, v = .slice (some ⟨g, 0, none⟩) (xs.length + 1) c ∧ B ≤ g ∧ w.heap[g]? = some (.cells cur 3 (0, 0)) ∧ xs.length + 1 ≤ c ∧ c ≤ maxLen ∧ ∀ (j : Nat) (y : Int), (x :: xs)[j]? = some y → w.cell? ⟨g, j, none⟩ = some (.int .i64 y) := by
  rcases h.1.2 with ⟨_, h2⟩ | ⟨g, cap, cur, rfl, h1, h2, h3, h4, h5, h6⟩
  · simp at h2
  · refine ⟨g, cap, cur, by simp, h1, h2, by simpa using h3, h4, fun j y hj => ?_⟩
    have hl := (List.getElem?_eq_some_iff.1 hj).1
    rw [cell_of h2]
    have e : (cur.toList.take ((x :: xs).length * 1))[j]? = some (.int .i64 y) := by rw [h6, List.getElem?_map, hj]; rfl
    rw [List.getElem?_take_of_lt (by omega)] at e
    simpa using e

section
variable {k : SK} {w0 w w1 w' : World} {kt : K} {L : List E} {lev : Nat} {p : V} {cls : List (List Int)} {s s' : PS} {v v' : SV} {n : Nat}

theorem Lv.grown {g : Nat} (h : Lv k kt L lev p w) (gr : w.grownBy w' (some g)) (h1 : g ≠ k.SB) (h2 : ¬ Mine kt p g) : Lv k kt L lev p w' := by
  refine ⟨?_, h.t.keep gr (fun j e => by cases e; exact h2)⟩
  have hlt : k.SB < w.heap.size := cell_lt h.c0
  rw [World.cell?_of_block (a := ⟨k.SB, 0, none⟩) (gr.block k.SB hlt (fun c => h1 (Option.some.inj c).symm))]
  exact h.c0

theorem cmp_lays (h : Lv k kt L lev p w) {BX g off size : Nat} (hbx : w.cell? ⟨BX, 0, none⟩ = some (.pointer (some ⟨k.SB, 0, none⟩))) (h1 : g ≠ k.SB) (h2 : ¬ Mine kt p g) (h3 : g ≠ BX) : CmpLays1 Tryz.prog 122 #[.pointer (some ⟨BX, 0, none⟩)] encL (cfL L) g off size w := by
  intro m os dk _ x y
  have gr := sort_grown encL w g off m dk os
  have hl := h.grown gr h1 h2
  have hb : (sortWorld encL w g off m dk os).cell? ⟨BX, 0, none⟩ = some (.pointer (some ⟨k.SB, 0, none⟩)) := by
    rw [World.cell?_of_block (a := ⟨BX, 0, none⟩) (gr.block BX (cell_lt hbx) (fun c => h3 (Option.some.inj c).symm))]
    exact hbx
  have hx := x.2
  have hy := y.2
  exact closure_is hl hb x.1 y.1 (by omega) (by omega)

/-- The sort of what lies behind the first. -/
theorem sortFunc_is (h : Lv k kt L lev p w) {BX g c : Nat} {x : Int} {xs : List Int} (hbx : w.cell? ⟨BX, 0, none⟩ = some (.pointer (some ⟨k.SB, 0, none⟩))) (h1 : g ≠ k.SB) (h2 : ¬ Mine kt p g) (h3 : g ≠ BX) {cur : Array Value} (hg : w.heap[g]? = some (.cells cur 3 (0, 0))) (hc : ∀ (j : Nat) (y : Int), (x :: xs)[j]? = some y → w.cell? ⟨g, j, none⟩ = some (.int .i64 y)) (hb : ∀ y ∈ xs, 0 ≤ y ∧ y < 8192) (hln : xs.length ≤ 100000) :
    Calls Tryz.prog 121 #[.slice (some ⟨g, 1, none⟩) xs.length c, .func (.func 122) #[] #[.pointer (some ⟨BX, 0, none⟩)]] w fun e w' => e = .returned (.tuple #[]) ∧ ∃ es, Hid (es.Perm xs ∧ Fall L es) ∧ Hid (w.grownBy w' (some g)) ∧ Hid (∀ (j : Nat) (y : Int), (x :: es)[j]? = some y → w'.cell? ⟨g, j, none⟩ = some (.int .i64 y)) ∧ Hid (Typ w' g 3) := by
  obtain ⟨ds, hds⟩ := lift8 xs hb
  have hlen : ds.toArray.size = xs.length := by rw [← hds]; simp
  have hH : Holds encL w g 1 ds.toArray := fun j hj => by
    have hj' : j < ds.length := by simpa using hj
    refine ⟨?_, frozen_of hg⟩
    have e : ds.toArray[j]! = ds[j] := by simp [hj']
    rw [e]
    have := hc (1 + j) (ds[j].1 : Int) (by rw [← hds, Nat.add_comm]; simp [hj'])
    exact this
  have key := Tryz.slices_SortFunc_total encL (fun x => rfl) (cfL L) (swoL L) 122 #[.pointer (some ⟨BX, 0, none⟩)] g 1 c ds.toArray w (enters_of Tryz.func122 (by kernel_rfl) rfl) (cmp_lays h hbx h1 h2 h3) hH (blk_lt hg) (by rw [hlen]; omega) (totL L)
  rw [hlen] at key
  refine key.mono fun e w' hq => ?_
  obtain ⟨he, q, os, rfl⟩ := hq
  obtain ⟨f1, f2⟩ := fall_sort L ds
  rw [hds] at f1
  have hsz : ((ds.mergeSort fun x y => !(ltOf (cfL L)) y x).toArray).size = ds.toArray.size := by simp [List.length_mergeSort]
  obtain ⟨s1, s2⟩ := sort_cell encL w g 1 q ds.toArray (ds.mergeSort fun x y => !(ltOf (cfL L)) y x).toArray os (blk_lt hg) hH hsz
  refine ⟨he, _, ⟨f1, f2⟩, sort_grown _ _ _ _ _ _ _, hid ?_, hid (sort_typ _ _ _ _ _ _ _ ⟨_, _, hg⟩)⟩
  intro j y hj
  cases j with
  | zero =>
    rw [s2 0 (by omega)]
    exact hc 0 y (by simpa using hj)
  | succ j =>
    have hj2 : ((ds.mergeSort fun x y => !(ltOf (cfL L)) y x).map (fun x : Lt8 => (x.1 : Int)))[j]? = some y := by simpa using hj
    have hl := (List.getElem?_eq_some_iff.1 hj2).1
    rw [List.length_map] at hl
    have := s1 j (by simpa using hl)
    rw [Nat.add_comm 1 j] at this
    rw [this]
    rw [List.getElem?_map, List.getElem?_eq_getElem hl] at hj2
    simp only [Option.map_some, Option.some.injEq] at hj2
    have e : ((ds.mergeSort fun x y => !(ltOf (cfL L)) y x).toArray)[j]! = (ds.mergeSort fun x y => !(ltOf (cfL L)) y x)[j] := by rw [getElem!_pos _ j (by simpa using hl)]; rfl
    rw [e, ← hj2]
    rfl
end

end Go.Proofs.YtimfjoinjfecjaaGreat

namespace Go.Proofs.YtimfjoinjfecjaaGreat
open Go.RowKit Go.Maps
set_option linter.unusedVariables false
section
variable {c : SC} {w0 w w' : World} {g g' : G} {s s' : SS} {m m' : MV}

/-- What Unsat says lies there, on the blocks F. -/
structure UnsEnd (F : Nat → Prop) (w0 : World) (s : SS) (v : Value) (w' : World) : Prop where
  b0 : Below w0.heap.size w0 w'
  fn : ∀ i, F i → w0.heap.size ≤ i
  gr : ∀ W, (∀ i, F i → W.heap[i]? = w'.heap[i]?) → ∃ a cp, v = .slice a (s.prf.length + 1) cp ∧ U.Grid W a (s.prf.length + 1) cp (s.prf ++ [[]])

def unsB (w0 w : World) (m : MV) (b7 : Nat) (i : Nat) : Prop := i = b7 ∨ (w0.heap.size ≤ i ∧ i < w.heap.size ∧ m.ow i = 0)

theorem below_set {w w' : World} {B : Nat} {a : Addr} {v : Value} (b : Below B w w') (h : B ≤ a.block) : Below B w (w'.setCell a v) :=
  ⟨b.os, b.tape, b.output, by simpa [World.setCell] using b.size, fun j hj => (set_other v (fun e => by subst e; omega)).trans (b.block j hj)⟩

theorem uns_end {w1 w7 W : World} {PL b7 p7 : Nat} {vs : List Value} (h : Sm c w0 g s m w) (hPL : s.prf.length = PL) (b1 : Below w.heap.size w w1) (q1 : w1.ownsRow w0.heap.size 42 1 m.pv PL vs) (q2 : ∀ j, m.pv.ownBlock = some j → m.ow j = 5) (q3 : GVt w0 w m.ow vs s.prf) (g7 : w1.grownBy w7 m.pv.ownBlock)
    (o7 : w7.ownsRow w0.heap.size 42 1 (.slice (some ⟨b7, 0, none⟩) (PL + 1) p7) (PL + 1) (vs ++ [.slice (some ⟨w1.heap.size, 0, none⟩) 0 0])) (hnw : Nwr w0 5 vs) (hW : ∀ j, unsB w0 w m b7 j → W.heap[j]? = w7.heap[j]?) : ∃ a cp, Value.slice (some ⟨b7, 0, none⟩) (PL + 1) p7 = .slice a (s.prf.length + 1) cp ∧ U.Grid W a (s.prf.length + 1) cp (s.prf ++ [[]]) := by
  refine ⟨_, p7, by rw [hPL], ?_⟩
  rw [hPL]
  rcases o7.2 with ⟨e, _⟩ | ⟨b, cap, cur, e, hB, hg, h1, h2, h3, h4⟩
  · cases e
  · cases e
    refine ⟨by simp [hPL], h1, h2, (fun q => by cases q), fun _ => ⟨b7, 0, rfl, fun j hj => ?_⟩⟩
    have hc : W.cell? ⟨b7, 0 + j, none⟩ = (vs ++ [.slice (some ⟨w1.heap.size, 0, none⟩) 0 0])[j]? := by
      rw [Nat.zero_add, cell_of ((hW b7 (.inl rfl)).trans hg), ← h4, List.getElem?_take_of_lt (by omega)]
      simp
    have hvl : vs.length = PL := by rw [q3.1, hPL]
    by_cases hjl : j < PL
    · obtain ⟨a, n, cc, e1, e2, e3⟩ := q3.2 j (by omega)
      refine ⟨a, n, cc, by rw [hc, List.getElem?_append_left (by omega)]; exact e1, ?_⟩
      have : (s.prf ++ [[]]).getD j [] = s.prf.getD j [] := by
        simp only [List.getD_eq_getElem?_getD]; rw [List.getElem?_append_left (by omega)]
      rw [this]
      refine row_same e2 (fun h0 bb off ea => ?_)
      obtain ⟨b', off', e', q⟩ := e3 h0
      rw [ea] at e'; cases e'
      have hlt : bb < w.heap.size := by
        rcases q with q | q
        · exact Nat.lt_of_lt_of_le q h.b0.size
        · exact q.1
      have hno : m.pv.ownBlock ≠ some bb := fun e => by
        have t := q2 bb e
        rcases q with q | q
        · have := h.t.lo bb q; omega
        · omega
      rw [hW bb (.inr (by
        obtain ⟨b', off', e', q'⟩ := hnw rfl _ (List.mem_of_getElem? e1) a n cc rfl h0
        rw [ea] at e'; cases e'
        exact ⟨q', hlt, by rcases q with q | q; omega; exact q.2⟩)), g7.block bb (Nat.lt_of_lt_of_le hlt b1.size) (fun e => hno e.symm), b1.block bb hlt]
    · obtain rfl : j = PL := by omega
      refine ⟨some ⟨w1.heap.size, 0, none⟩, 0, 0, by rw [hc, List.getElem?_append_right (by omega), hvl]; simp, ?_⟩
      have : (s.prf ++ [[]]).getD j [] = [] := by
        simp only [List.getD_eq_getElem?_getD]; rw [List.getElem?_append_right (by omega), hPL]; simp
      rw [this]
      exact ⟨rfl, Nat.le_refl _, by unfold maxLen; omega, (fun q => by cases q), by intro x hx; simp at hx, fun h0 => by omega⟩

set_option maxRecDepth 20000 in
set_option maxHeartbeats 2000000 in
theorem unsat_is (h : Sm c w0 g s m w) (hp : s.prf.length ≤ 1000000) : Calls Tryz.prog 33 #[.pointer (some ⟨c.SB, 0, none⟩)] w fun e w' => ∃ v F, e = .returned (.agg #[.int .i64 2, .slice none 0 0, .int .i64 s.cf, v]) ∧ Hid (UnsEnd F w0 s v w') ∧ Hid (∀ j, j < w.heap.size → m.ow j = 9 → w'.heap[j]? = w.heap[j]? ∧ ¬ F j) := by
  have hal : Below w.heap.size w (w.alloc (.cells #[.int .i64 0, .slice none 0 0, .int .i64 0, .slice none 0 0] 27)) := by go_grown
  have hz := h.fresh hal (fun j => decide (j = w.heap.size)) (fun j hj _ _ => ⟨27, by cases of_decide_eq_true hj; exact ⟨_, _, new_same w _⟩, by simp [Wt]⟩)
  obtain ⟨h1, k1⟩ := hz
  have H1 := hid h1
  obtain ⟨vs, q1', q2', q3'⟩ := h.pr
  have HH := hid h
  have Q2 := hid q2'
  have Q3 := hid q3'.1
  have Q4 := hid q3'.2
  have BA := hid hal
  have Q1 : Hid ((w.alloc (.cells #[.int .i64 0, .slice none 0 0, .int .i64 0, .slice none 0 0] 27)).ownsRow w0.heap.size 42 1 m.pv s.prf.length vs) := hid (own_same q1' (fun j e => hal.block j (own_lt q1' e).2))
  clear q1' q2' q3'
  have hrb : (w.alloc (.cells #[.int .i64 0, .slice none 0 0, .int .i64 0, .slice none 0 0] 27)).heap[w.heap.size]? = some (.cells #[.int .i64 0, .slice none 0 0, .int .i64 0, .slice none 0 0] 27 (0, 0)) := new_same w _
  have hsz : w.heap.size < (w.alloc (.cells #[.int .i64 0, .slice none 0 0, .int .i64 0, .slice none 0 0] 27)).heap.size := blk_lt hrb
  obtain ⟨PL, hPL⟩ : ∃ PL, s.prf.length = PL := ⟨_, rfl⟩
  obtain ⟨cf, hcf⟩ : ∃ cf, s.cf = cf := ⟨_, rfl⟩
  clear h k1 h1 hal
  go_enter Tryz.func33, Tryz.ntmps33
  go_upto_region 1 with fail
  generalize hw1 : w.alloc (.cells #[.int .i64 0, .slice none 0 0, .int .i64 0, .slice none 0 0] 27) = w1 at *
  have q1 := Q1.out
  have c9 := H1.out.c9
  have c12 := H1.out.c12
  have lt := H1.out.sb_lt
  obtain ⟨pa, pp, epv⟩ : ∃ pa pp, m.pv = .slice pa PL pp := by
    rcases q1.2 with ⟨e, e2⟩ | ⟨b, cap, cur, e, _⟩
    · exact ⟨none, 0, by rw [← hPL]; exact e.trans (by rw [e2])⟩
    · exact ⟨_, cap, by rw [← hPL]; exact e⟩
  rw [epv] at c9
  rw [hcf] at c12
  have hb1 := H1.out.b0.size
  rw [hPL] at q1 hp
  have hcell : (((w1.alloc (.cells #[] 3)).alloc (.cells #[.slice (some ⟨w1.heap.size, 0, none⟩) 0 0] 42)).drew).cell? ⟨w1.heap.size + 1, 0, none⟩ = some (.slice (some ⟨w1.heap.size, 0, none⟩) 0 0) := by
    have e : ((w1.alloc (.cells #[] 3)).alloc (.cells #[.slice (some ⟨w1.heap.size, 0, none⟩) 0 0] 42)).heap[w1.heap.size + 1]? = some (.cells #[.slice (some ⟨w1.heap.size, 0, none⟩) 0 0] 42 (0, 0)) := by
      have := new_same (w1.alloc (.cells #[] 3)) (.cells #[.slice (some ⟨w1.heap.size, 0, none⟩) 0 0] 42)
      rwa [World.size_alloc] at this
    exact (cell_of (o := 0) e).trans rfl
  obtain ⟨v7, w7, r7, o7, g7, n7⟩ := run_cls (w1 := w1) (w := ((w1.alloc (.cells #[] 3)).alloc (.cells #[.slice (some ⟨w1.heap.size, 0, none⟩) 0 0] 42)).drew) 0 (.slice (some ⟨w1.heap.size, 0, none⟩) 0 0) rfl (by go_grown) w0.heap.size m.pv PL vs q1 (w1.heap.size + 1) hcell hp hb1
  obtain ⟨b7, p7, rfl⟩ := own_pos o7
  have R7 : Hid (∀ ty, (Builtin.append_ #[22, 22] ty #[.slice pa PL pp, .slice (some ⟨w1.heap.size + 1, 0, none⟩) 1 1]).run Tryz.prog ((w1.alloc (.cells #[] 3)).alloc (.cells #[.slice (some ⟨w1.heap.size, 0, none⟩) 0 0] 42)).drew = .ok (.slice (some ⟨b7, 0, none⟩) (PL + 1) p7) w7) := hid (fun ty => by rw [← epv]; exact r7)
  have hne : ∀ j, m.pv.ownBlock = some j → j ≠ w.heap.size := fun j e q => by
    have := own_typ q1 e
    rw [q] at this
    have t2 : Typ w1 w.heap.size 27 := ⟨_, _, hrb⟩
    exact absurd (this.one t2) (by decide)
  have hr7 : w7.heap[w.heap.size]? = some (.cells #[.int .i64 0, .slice none 0 0, .int .i64 0, .slice none 0 0] 27 (0, 0)) := by
    rw [g7.block _ hsz (fun e => hne _ e.symm rfl)]; exact hrb
  have z0 : w7.cell? ⟨w.heap.size, 0, none⟩ = some (.int .i64 0) := cell_of hr7
  have z1 : w7.cell? ⟨w.heap.size, 1, none⟩ = some (.slice none 0 0) := cell_of hr7
  have z2 : w7.cell? ⟨w.heap.size, 2, none⟩ = some (.int .i64 0) := cell_of hr7
  have z3 : w7.cell? ⟨w.heap.size, 3, none⟩ = some (.slice none 0 0) := cell_of hr7
  have y0 : w7.frozen? ⟨w.heap.size, 0, none⟩ = false := frozen_of hr7
  have y1 : w7.frozen? ⟨w.heap.size, 1, none⟩ = false := frozen_of hr7
  have y2 : w7.frozen? ⟨w.heap.size, 2, none⟩ = false := frozen_of hr7
  have y3 : w7.frozen? ⟨w.heap.size, 3, none⟩ = false := frozen_of hr7
  have x12 : w7.cell? ⟨c.SB, 12, none⟩ = some (.int .i64 cf) := by
    rw [World.cell?_of_block (a := ⟨c.SB, 12, none⟩) (g7.block c.SB lt (fun e => by have a := Q2.out _ e.symm; have b := HH.out.t.sb; omega))]; exact c12
  have hb7 : b7 ≠ w.heap.size := fun e => by
    have t1 : Typ w7 b7 42 := own_typ o7 rfl
    rw [e] at t1
    have t2 : Typ w7 w.heap.size 27 := ⟨_, _, hr7⟩
    exact absurd (t1.one t2) (by decide)
  have bw7 : Below w0.heap.size w0 w7 := H1.out.b0.trans (below_grown g7 (fun j e => (own_lt q1 e).1) hb1)
  have hw0 : w0.heap.size ≤ w.heap.size := HH.out.b0.size
  have hub : ∀ i, unsB w0 w m b7 i → i ≠ w.heap.size := fun i hq => by
    rcases hq with rfl | q
    · exact hb7
    · omega
  have HE : Hid (UnsEnd (unsB w0 w m b7) w0 s (.slice (some ⟨b7, 0, none⟩) (PL + 1) p7) ((((w7.setCell ⟨w.heap.size, 0, none⟩ (.int .i64 2)).setCell ⟨w.heap.size, 1, none⟩ (.slice none 0 0)).setCell ⟨w.heap.size, 2, none⟩ (.int .i64 cf)).setCell ⟨w.heap.size, 3, none⟩ (.slice (some ⟨b7, 0, none⟩) (PL + 1) p7))) := hid ⟨below_set (below_set (below_set (below_set bw7 hw0) hw0) hw0) hw0, fun i hq => by
      rcases hq with rfl | q
      · rcases n7 i rfl with q | q
        · exact (own_lt q1 q).1
        · exact Nat.le_trans hb1 q
      · exact q.1, fun W hW => uns_end HH.out hPL BA.out q1 Q2.out Q3.out g7 o7 Q4.out (fun i hq => by
        have hj := hub i hq
        rw [hW i hq, set_other _ hj, set_other _ hj, set_other _ hj, set_other _ hj])⟩
  have H9 : Hid (∀ j, j < w.heap.size → m.ow j = 9 → ((((w7.setCell ⟨w.heap.size, 0, none⟩ (.int .i64 2)).setCell ⟨w.heap.size, 1, none⟩ (.slice none 0 0)).setCell ⟨w.heap.size, 2, none⟩ (.int .i64 cf)).setCell ⟨w.heap.size, 3, none⟩ (.slice (some ⟨b7, 0, none⟩) (PL + 1) p7)).heap[j]? = w.heap[j]? ∧ ¬ unsB w0 w m b7 j) := hid (fun j hj e => by
    have hne2 : j ≠ w.heap.size := by omega
    have hnp : m.pv.ownBlock ≠ some j := fun q => by have := Q2.out j q; omega
    refine ⟨?_, fun hq => ?_⟩
    · rw [set_other _ hne2, set_other _ hne2, set_other _ hne2, set_other _ hne2, g7.block j (Nat.lt_of_lt_of_le hj BA.out.size) (fun q => hnp q.symm), BA.out.block j hj]
    · rcases hq with rfl | q
      · rcases n7 j rfl with q | q
        · exact hnp q
        · have := BA.out.size; omega
      · omega)
  have h8 : ((((w7.setCell ⟨w.heap.size, 0, none⟩ (.int .i64 2)).setCell ⟨w.heap.size, 1, none⟩ (.slice none 0 0)).setCell ⟨w.heap.size, 2, none⟩ (.int .i64 cf)).setCell ⟨w.heap.size, 3, none⟩ (.slice (some ⟨b7, 0, none⟩) (PL + 1) p7)).heap[w.heap.size]? = some (.cells #[.int .i64 2, .slice none 0 0, .int .i64 cf, .slice (some ⟨b7, 0, none⟩) (PL + 1) p7] 27 (0, 0)) := (set_same (set_same (set_same (set_same hr7 _) _) _) _).trans rfl
  have H8 := hid h8
  clear h8
  clear r7 hcell o7 g7 n7 hr7 hrb bw7 hb7 q1 hne
  go_region_law (refine step_of (t := 22) (v := .slice pa PL pp) (u := .slice (some ⟨w1.heap.size + 1, 0, none⟩) 1 1) rfl _ _ rfl rfl rfl (R7.out _) ?_)
  all_goals
    generalize hW8 : ((((w7.setCell ⟨w.heap.size, 0, none⟩ (.int .i64 2)).setCell ⟨w.heap.size, 1, none⟩ (.slice none 0 0)).setCell ⟨w.heap.size, 2, none⟩ (.int .i64 cf)).setCell ⟨w.heap.size, 3, none⟩ (.slice (some ⟨b7, 0, none⟩) (PL + 1) p7)) = w8 at *
    clear hW8 z0 z1 z2 z3 y0 y1 y2 y3 x12 R7
    have r0 : w8.cell? ⟨w.heap.size, 0, none⟩ = some (.int .i64 2) := cell_of H8.out
    have r1 : w8.cell? ⟨w.heap.size, 1, none⟩ = some (.slice none 0 0) := cell_of H8.out
    have r2 : w8.cell? ⟨w.heap.size, 2, none⟩ = some (.int .i64 cf) := cell_of H8.out
    have r3 : w8.cell? ⟨w.heap.size, 3, none⟩ = some (.slice (some ⟨b7, 0, none⟩) (PL + 1) p7) := cell_of H8.out
  all_goals go_wp2
  all_goals (try simp only [Exit.inBlock, Exit.then])
  all_goals refine bodyPost_ret (by simp [results, Tryz.results33, go_sem, r0, r1, r2, r3]; try rfl) rfl ?_
  all_goals rw [hcf]
  all_goals exact ⟨_, _, rfl, HE, H9⟩
end
end Go.Proofs.YtimfjoinjfecjaaGreat
