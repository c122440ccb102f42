/-
  What is learned, in its order.
  What is learned: the clause.
  Learn: what a conflict teaches.
-/
import Derived.Test.YtimfjoinjfecjaaGreatG14
import Derived.Laws.MakeOwn
import Derived.Sort.OwnSortedInts
import Derived.Deep.WholeRow

namespace Go.Proofs.YtimfjoinjfecjaaGreat
open Go.RowKit Go.Sort
set_option linter.unusedVariables false

/-! ### The order -/
theorem cmpI_neg {a b : Int} : cmpI a b < 0 ↔ a < b := by
  unfold cmpI
  by_cases h : a < b
  · rw [if_pos h]; simp [h]
  · rw [if_neg h]
    by_cases h2 : b < a
    · rw [if_pos h2]; simp; omega
    · rw [if_neg h2]; simp; omega
theorem cmpI_zero {a b : Int} : cmpI a b = 0 ↔ a = b := by
  unfold cmpI
  by_cases h : a < b
  · rw [if_pos h]; simp; omega
  · rw [if_neg h]
    by_cases h2 : b < a
    · rw [if_pos h2]; simp; omega
    · rw [if_neg h2]; simp; omega

def lvN (L : List E) (x : Nat) : Int := levelF L ((x / 2 : Nat) : Int)

theorem cmpF_neg {L : List E} {x y : Nat} : cmpF L x y < 0 ↔ lvN L y < lvN L x ∨ (lvN L x = lvN L y ∧ x < y) := by
  unfold cmpF orI
  by_cases h : cmpI (levelF L ((y / 2 : Nat) : Int)) (levelF L ((x / 2 : Nat) : Int)) = 0
  · rw [if_neg (by simpa using h), cmpI_neg]
    rw [cmpI_zero] at h
    unfold lvN
    omega
  · rw [if_pos h, cmpI_neg]
    have : levelF L ((y / 2 : Nat) : Int) ≠ levelF L ((x / 2 : Nat) : Int) := fun c => h (cmpI_zero.2 c)
    unfold lvN
    omega

abbrev Lt8 := Fin 8192
def encL (x : Lt8) : Value := .int .i64 (x.1 : Int)
def cfL (L : List E) (x y : Lt8) : Int := cmpF L x.1 y.1

theorem ltL {L : List E} {x y : Lt8} : ltOf (cfL L) x y = true ↔ lvN L y.1 < lvN L x.1 ∨ (lvN L x.1 = lvN L y.1 ∧ x.1 < y.1) := by
  unfold ltOf cfL
  rw [decide_eq_true_eq, cmpF_neg]
theorem ltL_no {L : List E} {x y : Lt8} : ltOf (cfL L) x y = false ↔ ¬ (lvN L y.1 < lvN L x.1 ∨ (lvN L x.1 = lvN L y.1 ∧ x.1 < y.1)) := by
  rw [← ltL]; simp

theorem swoL (L : List E) : SWO (ltOf (cfL L)) := by
  refine ⟨fun x => ltL_no.2 (by omega), fun x y z h1 h2 => ltL.2 ?_, fun x y z h1 h2 => ltL_no.2 ?_⟩
  · have a := ltL.1 h1; have b := ltL.1 h2; omega
  · have a := ltL_no.1 h1; have b := ltL_no.1 h2; omega

theorem totL (L : List E) : ∀ x y : Lt8, ltOf (cfL L) x y = false → ltOf (cfL L) y x = false → x = y := fun x y h1 h2 => by
  have a := ltL_no.1 h1; have b := ltL_no.1 h2
  exact Fin.ext (by omega)

/-- By falling levels, of one level by rising numbers. -/
def Fall (L : List E) (es : List Int) : Prop := es.Pairwise (fun x y => levelF L (vl y : Nat) < levelF L (vl x : Nat) ∨ (levelF L (vl x : Nat) = levelF L (vl y : Nat) ∧ x ≤ y))

theorem lift8 (os : List Int) (h : ∀ x ∈ os, 0 ≤ x ∧ x < 8192) : ∃ ds : List Lt8, ds.map (fun x => (x.1 : Int)) = os := by
  induction os with
  | nil => exact ⟨[], rfl⟩
  | cons x os ih =>
    obtain ⟨ds, e⟩ := ih (fun y hy => h y (by simp [hy]))
    have hx := h x (by simp)
    exact ⟨⟨x.toNat, by omega⟩ :: ds, by simp [e]; omega⟩

theorem fall_sort (L : List E) (ds : List Lt8) : ((ds.mergeSort fun x y => !(ltOf (cfL L)) y x).map (fun x : Lt8 => (x.1 : Int))).Perm (ds.map (fun x => (x.1 : Int))) ∧ Fall L ((ds.mergeSort fun x y => !(ltOf (cfL L)) y x).map (fun x : Lt8 => (x.1 : Int))) := by
  refine ⟨(List.mergeSort_perm ds _).map _, ?_⟩
  have h := List.pairwise_mergeSort (le := fun x y : Lt8 => !(ltOf (cfL L)) y x) (fun a b c h1 h2 => ?_) (fun a b => ?_) ds
  · unfold Fall
    rw [List.pairwise_map]
    refine h.imp_of_mem fun {a b} _ _ hab => ?_
    have := ltL_no.1 (show ltOf (cfL L) b a = false by simpa using hab)
    have e1 : vl ((a.1 : Nat) : Int) = a.1 / 2 := by unfold vl; simp
    have e2 : vl ((b.1 : Nat) : Int) = b.1 / 2 := by unfold vl; simp
    rw [e1, e2]
    unfold lvN at this
    omega
  · have a1 := ltL_no.1 (show ltOf (cfL L) b a = false by simpa using h1)
    have a2 := ltL_no.1 (show ltOf (cfL L) c b = false by simpa using h2)
    have : ltOf (cfL L) c a = false := ltL_no.2 (by omega)
    simp [this]
  · cases h1 : ltOf (cfL L) b a with
    | false => simp
    | true =>
      have a1 := ltL.1 h1
      have : ltOf (cfL L) a b = false := ltL_no.2 (by omega)
      simp [this]

/-! ### The row that is sorted -/
theorem sort_grown {α : Type} [Inhabited α] (enc : α → Value) (w : World) (blk off m : Nat) (dk : Array α) (os : Array Obj) : w.grownBy (sortWorld enc w blk off m dk os) (some blk) := by
  refine ⟨rfl, rfl, rfl, ?_, fun j hj hne => ?_⟩
  · unfold sortWorld
    rw [size_grow, size_putRow]
    exact Nat.le_add_right _ _
  · unfold sortWorld
    have h1 : j < (putRow enc (Sort.ahead w m) blk off dk).heap.size := by rw [size_putRow]; exact hj
    rw [heap_grow_old _ _ h1]
    have hne' : ¬ blk = j := fun c => hne (by rw [c])
    simp only [putRow, mapBlock, Array.getElem?_modify, if_neg hne']
    rfl

theorem sort_typ {α : Type} [Inhabited α] (enc : α → Value) (w : World) (blk off m : Nat) (dk : Array α) (os : Array Obj) {j : Nat} {T : TypeId} (h : Typ w j T) : Typ (sortWorld enc w blk off m dk os) j T := by
  obtain ⟨c, f, h⟩ := h
  unfold sortWorld Typ
  have h1 : j < (putRow enc (Sort.ahead w m) blk off dk).heap.size := by rw [size_putRow]; exact blk_lt h
  rw [heap_grow_old _ _ h1]
  simp only [putRow, mapBlock, Array.getElem?_modify]
  by_cases e : blk = j
  · rw [if_pos e]
    have h' : (Sort.ahead w m).heap[j]? = some (.cells c T f) := h
    rw [h']
    exact ⟨_, _, rfl⟩
  · rw [if_neg e]; exact ⟨c, f, h⟩

theorem sort_cell {α : Type} [Inhabited α] (enc : α → Value) (w : World) (blk off m : Nat) (d0 dk : Array α) (os : Array Obj) (hb : blk < w.heap.size) (h0 : Holds enc w blk off d0) (hs : dk.size = d0.size) :
    (∀ j, j < dk.size → (sortWorld enc w blk off m dk os).cell? ⟨blk, off + j, none⟩ = some (enc dk[j]!)) ∧ ∀ j, j < off → (sortWorld enc w blk off m dk os).cell? ⟨blk, j, none⟩ = w.cell? ⟨blk, j, none⟩ := by
  have hsz : blk < (putRow enc (Sort.ahead w m) blk off dk).heap.size := by rw [size_putRow]; exact hb
  refine ⟨fun j hj => ?_, fun j hj => ?_⟩
  · unfold sortWorld
    rw [cell?_grow _ _ _ hsz]
    exact cell?_putRow enc (Sort.ahead w m) blk off d0 dk h0 hs j hj
  · unfold sortWorld
    rw [cell?_grow _ _ _ hsz, cell?_putRow_other enc (Sort.ahead w m) blk off dk _ (.inr (.inl hj))]
    rfl

theorem make_ints (n : Nat) (hn : n ≤ 100000) (w : World) : (Instr.makeSlice 42 (.int .i64 0) (.int .i64 ((1 : Int) + n))).run Tryz.prog w = .ok (.slice (some ⟨w.heap.size, 0, none⟩) 0 (n + 1)) (w.alloc (.cells (madeCells #[.int .i64 0] (n + 1)) 3)) := by
  obtain ⟨i0, hi, hz0, hz1, hz2⟩ := info_parts Tryz.info3
  have := run_make (P := Tryz.prog) w 42 3 i0 (.int .i64 0) Tryz.underlying42 hi hz0 .i64 .i64 0 ((1 : Int) + n) (Int.le_refl _) (by omega) (by rw [hz2]; omega) (by omega)
  rw [this, hz1]
  have e : ((1 : Int) + n).toNat = n + 1 := by omega
  rw [e]
  simp [Value.cells]

theorem own_made (w : World) (n : Nat) (hn : n ≤ 100000) : U.Own (w.alloc (.cells (madeCells #[.int .i64 0] (n + 1)) 3)) w.heap.size (.slice (some ⟨w.heap.size, 0, none⟩) 0 (n + 1)) [] :=
  ⟨⟨by simp, .inr ⟨w.heap.size, n + 1, _, rfl, Nat.le_refl _, new_same w _, by simp, by unfold maxLen; omega, by rw [size_madeCells]; omega, by simp⟩⟩, fun x hx => by simp at hx⟩

/-- A row of one's own that has something. -/
theorem own_filled {w : World} {B : Nat} {v : Value} {x : Int} {xs : List Int} (h : U.Own w B v (x :: xs)) : ∃ g c cur, v = .slice (some ⟨g, 0, none⟩) (xs.length + 1) c ∧ B ≤ g ∧ w.heap[g]? = some (.cells cur 3 (0, 0)) ∧ xs.length + 1 ≤ c ∧ c ≤ maxLen ∧ ∀ (j : Nat) (y : Int), (x :: xs)[j]? = some y → w.cell? ⟨g, j, none⟩ = some (.int .i64 y) := by
  rcases h.1.2 with ⟨_, h2⟩ | ⟨g, cap, cur, rfl, h1, h2, h3, h4, h5, h6⟩
  · simp at h2
  · refine ⟨g, cap, cur, by simp, h1, h2, by simpa using h3, h4, fun j y hj => ?_⟩
    have hl := (List.getElem?_eq_some_iff.1 hj).1
    rw [cell_of h2]
    have e : (cur.toList.take ((x :: xs).length * 1))[j]? = some (.int .i64 y) := by rw [h6, List.getElem?_map, hj]; rfl
    rw [List.getElem?_take_of_lt (by omega)] at e
    simpa using e

section
variable {k : SK} {w0 w w1 w' : World} {kt : K} {L : List E} {lev : Nat} {p : V} {cls : List (List Int)} {s s' : PS} {v v' : SV} {n : Nat}

theorem Lv.grown {g : Nat} (h : Lv k kt L lev p w) (gr : w.grownBy w' (some g)) (h1 : g ≠ k.SB) (h2 : ¬ Mine kt p g) : Lv k kt L lev p w' := by
  refine ⟨?_, h.t.keep gr (fun j e => by cases e; exact h2)⟩
  have hlt : k.SB < w.heap.size := cell_lt h.c0
  rw [World.cell?_of_block (a := ⟨k.SB, 0, none⟩) (gr.block k.SB hlt (fun c => h1 (Option.some.inj c).symm))]
  exact h.c0

theorem cmp_lays (h : Lv k kt L lev p w) {BX g off size : Nat} (hbx : w.cell? ⟨BX, 0, none⟩ = some (.pointer (some ⟨k.SB, 0, none⟩))) (h1 : g ≠ k.SB) (h2 : ¬ Mine kt p g) (h3 : g ≠ BX) : CmpLays1 Tryz.prog 122 #[.pointer (some ⟨BX, 0, none⟩)] encL (cfL L) g off size w := by
  intro m os dk _ x y
  have gr := sort_grown encL w g off m dk os
  have hl := h.grown gr h1 h2
  have hb : (sortWorld encL w g off m dk os).cell? ⟨BX, 0, none⟩ = some (.pointer (some ⟨k.SB, 0, none⟩)) := by
    rw [World.cell?_of_block (a := ⟨BX, 0, none⟩) (gr.block BX (cell_lt hbx) (fun c => h3 (Option.some.inj c).symm))]
    exact hbx
  have hx := x.2
  have hy := y.2
  exact closure_is hl hb x.1 y.1 (by omega) (by omega)

/-- The sort of what lies behind the first. -/
theorem sortFunc_is (h : Lv k kt L lev p w) {BX g c : Nat} {x : Int} {xs : List Int} (hbx : w.cell? ⟨BX, 0, none⟩ = some (.pointer (some ⟨k.SB, 0, none⟩))) (h1 : g ≠ k.SB) (h2 : ¬ Mine kt p g) (h3 : g ≠ BX) {cur : Array Value} (hg : w.heap[g]? = some (.cells cur 3 (0, 0))) (hc : ∀ (j : Nat) (y : Int), (x :: xs)[j]? = some y → w.cell? ⟨g, j, none⟩ = some (.int .i64 y)) (hb : ∀ y ∈ xs, 0 ≤ y ∧ y < 8192) (hln : xs.length ≤ 100000) :
    Calls Tryz.prog 121 #[.slice (some ⟨g, 1, none⟩) xs.length c, .func (.func 122) #[] #[.pointer (some ⟨BX, 0, none⟩)]] w fun e w' => e = .returned (.tuple #[]) ∧ ∃ es, Hid (es.Perm xs ∧ Fall L es) ∧ Hid (w.grownBy w' (some g)) ∧ Hid (∀ (j : Nat) (y : Int), (x :: es)[j]? = some y → w'.cell? ⟨g, j, none⟩ = some (.int .i64 y)) ∧ Hid (Typ w' g 3) := by
  obtain ⟨ds, hds⟩ := lift8 xs hb
  have hlen : ds.toArray.size = xs.length := by rw [← hds]; simp
  have hH : Holds encL w g 1 ds.toArray := fun j hj => by
    have hj' : j < ds.length := by simpa using hj
    refine ⟨?_, frozen_of hg⟩
    have e : ds.toArray[j]! = ds[j] := by simp [hj']
    rw [e]
    have := hc (1 + j) (ds[j].1 : Int) (by rw [← hds, Nat.add_comm]; simp [hj'])
    exact this
  have key := Tryz.slices_SortFunc_total encL (fun x => rfl) (cfL L) (swoL L) 122 #[.pointer (some ⟨BX, 0, none⟩)] g 1 c ds.toArray w (enters_of Tryz.func122 (by kernel_rfl) rfl) (cmp_lays h hbx h1 h2 h3) hH (blk_lt hg) (by rw [hlen]; omega) (totL L)
  rw [hlen] at key
  refine key.mono fun e w' hq => ?_
  obtain ⟨he, q, os, rfl⟩ := hq
  obtain ⟨f1, f2⟩ := fall_sort L ds
  rw [hds] at f1
  have hsz : ((ds.mergeSort fun x y => !(ltOf (cfL L)) y x).toArray).size = ds.toArray.size := by simp [List.length_mergeSort]
  obtain ⟨s1, s2⟩ := sort_cell encL w g 1 q ds.toArray (ds.mergeSort fun x y => !(ltOf (cfL L)) y x).toArray os (blk_lt hg) hH hsz
  refine ⟨he, _, ⟨f1, f2⟩, sort_grown _ _ _ _ _ _ _, hid ?_, hid (sort_typ _ _ _ _ _ _ _ ⟨_, _, hg⟩)⟩
  intro j y hj
  cases j with
  | zero =>
    rw [s2 0 (by omega)]
    exact hc 0 y (by simpa using hj)
  | succ j =>
    have hj2 : ((ds.mergeSort fun x y => !(ltOf (cfL L)) y x).map (fun x : Lt8 => (x.1 : Int)))[j]? = some y := by simpa using hj
    have hl := (List.getElem?_eq_some_iff.1 hj2).1
    rw [List.length_map] at hl
    have := s1 j (by simpa using hl)
    rw [Nat.add_comm 1 j] at this
    rw [this]
    rw [List.getElem?_map, List.getElem?_eq_getElem hl] at hj2
    simp only [Option.map_some, Option.some.injEq] at hj2
    have e : ((ds.mergeSort fun x y => !(ltOf (cfL L)) y x).toArray)[j]! = (ds.mergeSort fun x y => !(ltOf (cfL L)) y x)[j] := by rw [getElem!_pos _ j (by simpa using hl)]; rfl
    rw [e, ← hj2]
    rfl
end

end Go.Proofs.YtimfjoinjfecjaaGreat

namespace Go.Proofs.YtimfjoinjfecjaaGreat
open Go.RowKit Go.Sort
set_option linter.unusedVariables false

section
variable {k : SK} {w0 w w1 w' : World} {kt : K} {L : List E} {lev : Nat} {p : V} {cls : List (List Int)} {s s' : PS} {v v' : SV} {n : Nat}

/-- The others, in memory. -/
theorem Sr.orow (h : Sr k w s v) (hb : ∀ x ∈ s.oth, 0 ≤ x ∧ x < 2 * (n : Int)) (hn : n ≤ 4096) (hl : s.oth.length ≤ n) : ∃ a c, v.ov = .slice a s.oth.length c ∧ U.Row w a s.oth.length c s.oth := by
  have own : U.Own w (k.SB + 1) v.ov s.oth := ⟨h.ot, fun x hx => by have := hb x hx; omega⟩
  obtain ⟨a, c, e, r⟩ := own.row
  exact ⟨a, c, e, r⟩

/-- What is learned lies in a block of its own. -/
structure Ln (w w' : World) (g c : Nat) (x : Int) (es : List Int) : Prop where
  hg : w.heap.size ≤ g ∧ g < w'.heap.size
  hc : es.length + 1 ≤ c ∧ c ≤ maxLen
  cells : ∀ (j : Nat) (y : Int), (x :: es)[j]? = some y → w'.cell? ⟨g, j, none⟩ = some (.int .i64 y)
  ty : Typ w' g 3

theorem Ln.row {g c : Nat} {x : Int} {es : List Int} (h : Ln w w' g c x es) (hf : U.Fit (x :: es)) : U.Row w' (some ⟨g, 0, none⟩) (es.length + 1) c (x :: es) := by
  refine ⟨by simp, h.hc.1, h.hc.2, fun e => (by cases e), hf, fun _ => ⟨g, 0, rfl, fun j hj => ?_⟩⟩
  rw [Nat.zero_add]
  refine h.cells j _ ?_
  have : j < (x :: es).length := by simpa using hj
  rw [List.getD_eq_getElem?_getD, List.getElem?_eq_getElem this]; rfl

theorem Rn.grownS (c : Cm k w0 kt L lev p cls) {g : Nat} (h : Rn k w0 n w s v) (gr : w.grownBy w' (some g)) (h1 : ∀ j, MineS k v j → j ≠ g) (h2 : w0.heap.size ≤ g) : Rn k w0 n w' s v :=
  ⟨h.r.same (fun j hj => gr.block j (h.r.mine hj).2.1 (fun e => h1 j hj (Option.some.inj e))), ⟨gr.os.trans h.b.os, gr.tape.trans h.b.tape, gr.output.trans h.b.output, Nat.le_trans h.b.size gr.size, fun j hj => (gr.block j (Nat.lt_of_lt_of_le hj h.b.size) (fun e => by have := Option.some.inj e; omega)).trans (h.b.block j hj)⟩, h.wf, h.m2⟩

theorem below_from {a b : World} {B : Nat} {o o2 : Obj} (h : Below B ((a.alloc o).alloc o2) b) (hB : B = a.heap.size) : Below a.heap.size a b := by
  subst hB
  have h0 : Below a.heap.size a ((a.alloc o).alloc o2) := by go_grown
  exact h0.trans h

theorem cw4 {k' : Addr} {o2 o3 : Obj} {w4 : World} (h : Rn k w0 n w s v) (b4 : Below (w.heap.size + 1) (((w.alloc (.cells #[.pointer (some k')] 151)).alloc o2).alloc o3) w4) : Rn k w0 n w4 s v ∧ w4.cell? ⟨w.heap.size, 0, none⟩ = some (.pointer (some k')) ∧ w.heap.size + 1 ≤ w4.heap.size := by
  have h1 : Below w.heap.size w (((w.alloc (.cells #[.pointer (some k')] 151)).alloc o2).alloc o3) := by go_grown
  have h2 : Below w.heap.size w w4 := h1.trans (b4.mono (Nat.le_succ _))
  refine ⟨h.below h2, ?_, ?_⟩
  · rw [b4.cell (p := ⟨w.heap.size, 0, none⟩) (Nat.lt_succ_self _)]
    have hb : (((w.alloc (.cells #[.pointer (some k')] 151)).alloc o2).alloc o3).heap[w.heap.size]? = some (.cells #[.pointer (some k')] 151 (0, 0)) := by
      rw [heap_alloc_old _ _ (by simp; omega), heap_alloc_old _ _ (by simp)]
      exact new_same w _
    exact (cell_of hb).trans rfl
  · have := b4.size
    simp at this
    omega

theorem cw5 {N co : Nat} {ao : Option Addr} (h : Rn k w0 n w s v) (hb : ∀ x ∈ s.oth, 0 ≤ x ∧ x < 2 * (n : Int)) (hn : n ≤ 4096) (he : v.ov = .slice ao N co) (hN : s.oth.length = N) : U.Row w ao N co s.oth := by
  obtain ⟨a, c, e, r⟩ := h.r.orow hb hn (by have := h.wf.ol; have := h.wf.len; omega)
  rw [he, hN] at e
  cases e
  rw [hN] at r
  exact r

theorem cw6 {B : Nat} {w4 w5 : World} {x : Value} (h : Rn k w0 n w4 s v) (t4 : w4.cell? ⟨B, 0, none⟩ = some x) (b5 : Below (B + 1) w4 w5) (hl : ∀ j, MineS k v j → j < B + 1) (hw : w0.heap.size ≤ B) : Rn k w0 n w5 s v ∧ w5.cell? ⟨B, 0, none⟩ = some x :=
  ⟨⟨h.r.same (fun j hj => b5.block j (hl j hj)), h.b.trans (b5.mono (by omega)), h.wf, h.m2⟩, (b5.cell (p := ⟨B, 0, none⟩) (Nat.lt_succ_self _)).trans t4⟩

theorem cw7 {g : Nat} (c : Cm k w0 kt L lev p cls) (h : Rn k w0 n w s v) (hB : w.heap.size + 1 ≤ g) : g ≠ k.SB ∧ ¬ Mine kt p g ∧ g ≠ w.heap.size ∧ (∀ j, MineS k v j → j ≠ g) ∧ w0.heap.size ≤ g := by
  have h1 := h.r.lt
  have h2 := h.b.size
  refine ⟨by omega, fun m => by have := (c.t.lt m).2; omega, by omega, fun j hj => by have := (h.r.mine hj).2.1; omega, by omega⟩

theorem cw8 {a : Nat} (h : a + 1 ≤ 1) : a = 0 := by omega

theorem cw9 {o1 o2 o3 : Obj} {w4 w5 : World} (b4 : Below (w.heap.size + 1) (((w.alloc o1).alloc o2).alloc o3) w4) (b5 : Below (w.heap.size + 1) w4 w5) : Below w.heap.size w w5 := by
  have h1 : Below w.heap.size w (((w.alloc o1).alloc o2).alloc o3) := by go_grown
  exact (h1.trans (b4.mono (Nat.le_succ _))).trans (b5.mono (Nat.le_succ _))

theorem sort_empty (m : Nat) (hm : m = 0) (q : Option Addr) (fv : Value) (w : World) : Calls Tryz.prog 121 #[.slice q m 0, fv] w fun e w' => e = .returned (.tuple #[]) ∧ w' = w := by
  subst hm; exact Tryz.slices_SortFunc_none (α := Nat) q 0 fv w

set_option maxRecDepth 20000 in
set_option maxHeartbeats 4000000 in
theorem clauseWith_is (c : Cm k w0 kt L lev p cls) (h : Rn k w0 kt.n w s v) (x : Int) (hx : 0 ≤ x ∧ x ≤ 9223372036854775807) :
    Calls Tryz.prog 83 #[.pointer (some ⟨k.SB, 0, none⟩), .int .i64 x] w fun e w' => ∃ g cc es, e = .returned (.slice (some ⟨g, 0, none⟩) (s.oth.length + 1) cc) ∧ Hid (Ln w w' g cc x es) ∧ Hid (es.Perm s.oth ∧ Fall L es) ∧ Hid (Rn k w0 kt.n w' s v) ∧ Hid (Below w.heap.size w w') := by
  have hkn := c.hn
  have hol := h.wf.ol
  have hml := h.wf.len
  have hob := h.wf.ob
  obtain ⟨N, hN⟩ : ∃ N, s.oth.length = N := ⟨_, rfl⟩
  have hb1 : Below w.heap.size w (w.alloc (.cells #[.pointer (some ⟨k.SB, 0, none⟩)] 151)) := by go_grown
  have R1 := hid (h.below hb1)
  obtain ⟨ao, co, eo, ro⟩ := R1.out.r.orow hob hkn (by omega)
  have c6 := R1.out.r.c.2.2.2.2.2.2
  rw [eo, hN] at c6
  rw [hN] at ro
  have hmk := make_ints N (by omega) (w.alloc (.cells #[.pointer (some ⟨k.SB, 0, none⟩)] 151))
  have hO := own_made (w.alloc (.cells #[.pointer (some ⟨k.SB, 0, none⟩)] 151)) N (by omega)
  rw [World.size_alloc] at hO
  have HO := hid hO
  clear hO
  have hmc := ro.2.1
  have HRo := hid ro
  have HR := hid h
  have HC := hid c
  have HN := hid hN
  have HEO : Hid (v.ov = .slice ao N co) := hid (by rw [eo, hN])
  have hx1 : -9223372036854775808 ≤ x := by omega
  have hx2 := hx.2
  have hNI : (N : Int) ≤ 4096 := by omega
  have hNw : (1 : Int) + N ≤ 9223372036854775807 := by omega
  have HB := hid hob
  have hX := U.row_one ((w.alloc (.cells #[.pointer (some ⟨k.SB, 0, none⟩)] 151)).alloc (.cells (madeCells #[.int .i64 0] (N + 1)) 3)) x hx1 hx2
  simp only [World.size_alloc] at hX
  have HX := hid hX
  clear hX
  have HB8 : Hid (∀ y ∈ s.oth, 0 ≤ y ∧ y < 8192) := hid (fun y hy => by have := hob y hy; omega)
  have HLN : Hid (s.oth.length ≤ 100000) := hid (by omega)
  have HML : Hid (∀ j, MineS k v j → j < w.heap.size + 1) := hid (fun j hj => by have := (h.r.mine hj).2.1; omega)
  have HW0 : Hid (w0.heap.size ≤ w.heap.size) := hid h.b.size
  clear hob ro h c eo hN hx
  go_enter Tryz.func83, Tryz.ntmps83
  go_wp2_with (first
    | (at_builtin; refine U.append_ints rfl _ _ rfl (w.heap.size + 1) _ [] [x] rfl (HO.out.alloc _) _ 1 1 rfl HX.out (by simp) (by simp) ?_; intro v4 w4 o4 b4; have P4 := cw4 HR.out b4.out; obtain ⟨q4, t4, z4⟩ := P4; have R4 := hid q4; clear q4; have c64 := R4.out.r.c.2.2.2.2.2.2; rw [HEO.out] at c64)
    | (at_builtin; refine U.append_ints rfl _ _ rfl (w.heap.size + 1) _ _ s.oth rfl o4.out ao N co rfl (cw5 R4.out HB.out hkn HEO.out HN.out) (by simp; omega) z4 ?_; intro v5 w5 o5 b5; have P5 := cw6 R4.out t4 b5.out HML.out HW0.out; obtain ⟨q5, t5⟩ := P5; have R5 := hid q5; clear q5; have F5 := own_filled (x := x) (xs := s.oth) o5.out; obtain ⟨g5, c5, cur5, rfl, F5⟩ := F5; have H5 := hid F5; clear F5; have N5 := hid (cw7 HC.out HR.out H5.out.1); have S5 := hid (fun cc => sortFunc_is (x := x) (xs := s.oth) (c := cc) (HC.out.lvl R5.out) t5 N5.out.1 N5.out.2.1 N5.out.2.2.1 H5.out.2.1 H5.out.2.2.2.2 HB8.out HLN.out); by_cases hc5 : c5 = 1; rotate_left; rotate_left; subst hc5; have E5 := hid (cw8 H5.out.2.2.1); rotate_left)
    | (go_at_call 121; with_reducible (refine (S5.out _).mono ?_); rintro e w6 ⟨rfl, es, p6, g6, d6, y6⟩)
    | (go_at_call 121; with_reducible (refine (sort_empty _ E5.out _ _ _).mono ?_); rintro e w6 ⟨rfl, rfl⟩))
  · go_ret
    have b6 : Below w.heap.size w w5 := cw9 b4.out b5.out
    have hl := p6.out.1.length_eq
    refine ⟨g5, c5, es, rfl, hid ⟨⟨by have := H5.out.1; omega, Nat.lt_of_lt_of_le (blk_lt H5.out.2.1) g6.out.size⟩, ⟨by rw [hl]; exact H5.out.2.2.1, H5.out.2.2.2.1⟩, d6.out, y6.out⟩, p6, hid (R5.out.grownS HC.out g6.out N5.out.2.2.2.1 N5.out.2.2.2.2), hid ?_⟩
    exact b6.trans (below_grown g6.out (fun j e => by cases e; have := H5.out.1; omega) b6.size)
  · go_ret
    have b6 := cw9 b4.out b5.out
    have e0 := cw8 H5.out.2.2.1
    have e1 : s.oth = [] := List.eq_nil_of_length_eq_zero e0
    refine ⟨g5, 1, [], rfl, hid ⟨⟨by have := H5.out.1; omega, blk_lt H5.out.2.1⟩, ⟨by simp, by unfold maxLen; omega⟩, fun j y hj => H5.out.2.2.2.2 j y (by rw [e1]; exact hj), ⟨_, _, H5.out.2.1⟩⟩, hid ⟨by rw [e1], by simp [Fall]⟩, R5, hid b6⟩
end

end Go.Proofs.YtimfjoinjfecjaaGreat

namespace Go.Proofs.YtimfjoinjfecjaaGreat
open Go.RowKit Go.Sort
set_option linter.unusedVariables false

section
variable {k : SK} {w0 w w1 w' : World} {kt : K} {L : List E} {lev : Nat} {p : V} {cls : List (List Int)} {s s' : PS} {v v' : SV} {n : Nat}

def riseI (l : List Int) : List Int := l.mergeSort fun x y => decide (x ≤ y)

/-- The variables that were met are sorted. -/
theorem sort_met {B : Nat} {x : Value} {xs : List Int} (own : OwnL w B x xs) (hl : xs.length ≤ 100000) :
    Calls Tryz.prog 84 #[x] w fun e w' => e = .returned (.tuple #[]) ∧ ∃ go, Hid (w.grownBy w' go) ∧ Hid (∀ j, go = some j → x.ownBlock = some j) ∧ Hid (OwnL w' B x (riseI xs)) := by
  have hlen : (riseI xs).length = xs.length := by unfold riseI; simp [List.length_mergeSort]
  rcases own.2 with ⟨rfl, h2⟩ | ⟨g, cap, cur, rfl, hb, hg, h3, h4, h5, h6⟩
  · have e0 : xs = [] := List.eq_nil_of_length_eq_zero h2
    subst e0
    refine (Tryz.slices_Sort_int_none none 0 w).mono ?_
    rintro e w' ⟨rfl, rfl⟩
    exact ⟨rfl, none, ⟨rfl, rfl, rfl, Nat.le_refl _, fun _ _ _ => rfl⟩, fun j e => (by cases e), hid (by simpa [riseI] using own)⟩
  · have hH : Holds (Value.int .i64) w g 0 xs.toArray := holds_of_blockI hg (by rw [Nat.mul_one] at h6; exact h6)
    refine (Tryz.slices_Sort_int g 0 cap xs w hH (blk_lt hg) (by omega)).mono ?_
    rintro e w' ⟨rfl, q, os, rfl⟩
    refine ⟨rfl, some g, grownBy_sortedI _, fun j e => by cases e; rfl, hid ?_⟩
    have := ownsRow_sortedI (w := w) (n := q) (os := os) (ss := xs) (ts := riseI xs) hlen hb hg h3 h4 h5
    unfold OwnL
    rw [hlen]
    exact this

theorem backLevel_one (x : Addr) (ao : Option Addr) (m c : Nat) (hm : (m : Int) < 2) : Calls Tryz.prog 85 #[.pointer (some x), .slice ao m c] w fun e w' => e = .returned (.int .i64 0) ∧ w' = w := by
  go_enter Tryz.func85, Tryz.ntmps85
  go_wp2
  go_ret
  exact ⟨rfl, rfl⟩

theorem backLevel_more (h : Lv k kt L lev p w) (g c m y : Nat) (hm : ¬ (m : Int) < 2) (hm1 : (1 : Int) < m) (hy : (y : Int) ≤ 9223372036854775807) (hc : w.cell? ⟨g, 1, none⟩ = some (.int .i64 y)) {ll : Int} (hl : levelF L ((y / 2 : Nat) : Int) = ll) :
    Calls Tryz.prog 85 #[.pointer (some ⟨k.SB, 0, none⟩), .slice (some ⟨g, 0, none⟩) m c] w fun e w' => e = .returned (.int .i64 ll) ∧ Hid (Gr w w') := by
  have HL := hid h
  have HLL := hid hl
  clear h hl
  go_enter Tryz.func85, Tryz.ntmps85
  go_wp2_with (go_at_call 125; with_reducible (refine (levelOf_is HL.out _ hy HLL.out).mono ?_); rintro e w2 ⟨rfl, b2⟩)
  go_ret
  exact ⟨rfl, b2⟩

/-! ### The beginning -/
def z3 (z : Array Value) (a b c : Value) : Array Value := ((z.setIfInBounds 0 a).setIfInBounds 1 b).setIfInBounds 2 c

theorem z71_size : Tryz.zeroCells124.size = 262 := by kernel_rfl
theorem z71_one : Tryz.zeroCells124.all (·.oneCell') = true := by kernel_rfl
theorem z71_info : (Tryz.prog.info? 124).map (·.size) = some 262 := by kernel_rfl

theorem all_set {c : Array Value} {i : Nat} {x : Value} (h : c.all (·.oneCell') = true) (hx : x.oneCell' = true) : (c.setIfInBounds i x).all (·.oneCell') = true := by
  rw [Array.all_eq_true] at h ⊢
  intro j hj
  have hj' : j < c.size := by simpa using hj
  rw [Array.getElem_setIfInBounds]
  split
  · exact hx
  · exact h j hj'

theorem store71 (w : World) (a b c : Value) (ha : a.oneCell' = true) (hb : b.oneCell' = true) (hc : c.oneCell' = true) :
    (storeCells ⟨w.heap.size, 0, none⟩ (((Tryz.zeroCells124.toList.set 0 a).set 1 b).set 2 c)).run Tryz.prog (w.alloc (.cells Tryz.zeroCells124 124)) = .ok () (w.alloc (.cells (z3 Tryz.zeroCells124 a b c) 124)) := by
  have := run_storeCells_new (P := Tryz.prog) w 124 Tryz.zeroCells124 (z3 Tryz.zeroCells124 a b c) (by rw [z71_info]; simp [z3]) (by simp [z3]) (all_set (all_set (all_set z71_one ha) hb) hc)
  simpa only [z3, Array.toList_setIfInBounds] using this

theorem z71_at (a b c : Value) : (z3 Tryz.zeroCells124 a b c)[0]? = some a ∧ (z3 Tryz.zeroCells124 a b c)[1]? = some b ∧ (z3 Tryz.zeroCells124 a b c)[2]? = some c ∧ (z3 Tryz.zeroCells124 a b c)[3]? = some (.pointer none) ∧ (z3 Tryz.zeroCells124 a b c)[259]? = some (.slice none 0 0) ∧ (z3 Tryz.zeroCells124 a b c)[260]? = some (.int .i64 0) ∧ (z3 Tryz.zeroCells124 a b c)[261]? = some (.slice none 0 0) := by
  have h0 : Tryz.zeroCells124[0]? = some (.pointer none) := by kernel_rfl
  have h1 : Tryz.zeroCells124[1]? = some (.slice none 0 0) := by kernel_rfl
  have h2 : Tryz.zeroCells124[2]? = some (.int .i64 0) := by kernel_rfl
  have h3 : Tryz.zeroCells124[3]? = some (.pointer none) := by kernel_rfl
  have h4 : Tryz.zeroCells124[259]? = some (.slice none 0 0) := by kernel_rfl
  have h5 : Tryz.zeroCells124[260]? = some (.int .i64 0) := by kernel_rfl
  have h6 : Tryz.zeroCells124[261]? = some (.slice none 0 0) := by kernel_rfl
  unfold z3
  refine ⟨?_, ?_, ?_, ?_, ?_, ?_, ?_⟩
  · rw [set_ne _ (by decide), set_ne _ (by decide), set_eq _ h0]
  · rw [set_ne _ (by decide)]; exact set_eq _ ((set_ne _ (by decide)).trans h1)
  · exact set_eq _ ((set_ne _ (by decide)).trans ((set_ne _ (by decide)).trans h2))
  · rw [set_ne _ (by decide), set_ne _ (by decide), set_ne _ (by decide), h3]
  · rw [set_ne _ (by decide), set_ne _ (by decide), set_ne _ (by decide), h4]
  · rw [set_ne _ (by decide), set_ne _ (by decide), set_ne _ (by decide), h5]
  · rw [set_ne _ (by decide), set_ne _ (by decide), set_ne _ (by decide), h6]

def v00 : SV := ⟨.slice none 0 0, .slice none 0 0, none⟩
def kOf (w : World) (kt : K) (la : Option Addr) (ln cap lev : Nat) : SK := ⟨w.heap.size, w.heap.size, .pointer (some ⟨kt.OB, 0, none⟩), .slice la ln cap, lev⟩

theorem start_is (t : Trl kt w L lev p) {la : Option Addr} {ln cap : Nat} (gr : U.Grid w la ln cap cls) (hn : kt.n ≤ 4096) :
    Cm (kOf w kt la ln cap lev) w kt L lev p cls ∧ Rn (kOf w kt la ln cap lev) w kt.n (w.alloc (.cells (z3 Tryz.zeroCells124 (.pointer (some ⟨kt.OB, 0, none⟩)) (.slice la ln cap) (.int .i64 lev)) 124)) zeroP v00 := by
  refine ⟨⟨rfl, t, rfl, rfl, ⟨la, ln, cap, rfl, gr⟩, hn⟩, ⟨⟨_, new_same w _, ?_⟩, Nat.le_refl _, fun i _ => rfl, fun b e => (by cases e), World.ownsRow_nil _ _ _ _, World.ownsRow_nil _ _ _ _, fun j e => (by simp [v00, Value.ownBlock] at e)⟩, by go_grown, Wf.zero _, fun i => Nat.zero_le _⟩
  exact z71_at _ _ _

set_option maxRecDepth 100000 in
set_option maxHeartbeats 2000000 in
theorem learn_zero (t : Trl kt w L 0 p) (la : Option Addr) (ln cap : Nat) (x : Int) :
    Calls Tryz.prog 51 #[.pointer (some ⟨kt.OB, 0, none⟩), .slice la ln cap, .int .i64 x] w fun e w' => e = .returned (.tuple #[.slice none 0 0, .int .i64 0, .slice none 0 0, .bool false]) ∧ Below w.heap.size w w' := by
  have HT := hid t
  have hst := store71 w (.pointer (some ⟨kt.OB, 0, none⟩)) (.slice la ln cap) (.int .i64 0) rfl rfl rfl
  obtain ⟨Z, hZ⟩ : ∃ Z, Z = z3 Tryz.zeroCells124 (.pointer (some ⟨kt.OB, 0, none⟩)) (.slice la ln cap) (.int .i64 0) := ⟨_, rfl⟩
  rw [← hZ] at hst
  have h2 : Z[2]? = some (.int .i64 0) := by rw [hZ]; exact (z71_at _ _ _).2.2.1
  clear t hZ
  go_enter Tryz.func51, Tryz.ntmps51
  go_wp2_with (go_at_call 32; with_reducible (refine (levels_is HT.out).mono ?_); rintro e w ⟨rfl, rfl⟩)
  go_returns
  exact ⟨rfl, by go_grown⟩
end

end Go.Proofs.YtimfjoinjfecjaaGreat
