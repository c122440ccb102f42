/-
  What is learned, in its order.
-/
import Derived.Test.YtikdmgemhfmipaaGreatAO
import Derived.Laws.MakeOwn
namespace Go.Proofs.YtikdmgemhfmipaaGreat
open Go.RowKit Go.Sort
set_option linter.unusedVariables false

/-! ### The order -/
theorem cmpI_neg {a b : Int} : cmpI a b < 0 ↔ a < b := by
  unfold cmpI
  by_cases h : a < b
  · rw [if_pos h]; simp [h]
  · rw [if_neg h]
    by_cases h2 : b < a
    · rw [if_pos h2]; simp; omega
    · rw [if_neg h2]; simp; omega
theorem cmpI_zero {a b : Int} : cmpI a b = 0 ↔ a = b := by
  unfold cmpI
  by_cases h : a < b
  · rw [if_pos h]; simp; omega
  · rw [if_neg h]
    by_cases h2 : b < a
    · rw [if_pos h2]; simp; omega
    · rw [if_neg h2]; simp; omega

def lvN (L : List E) (x : Nat) : Int := levelF L ((x / 2 : Nat) : Int)

theorem cmpF_neg {L : List E} {x y : Nat} : cmpF L x y < 0 ↔ lvN L y < lvN L x ∨ (lvN L x = lvN L y ∧ x < y) := by
  unfold cmpF orI
  by_cases h : cmpI (levelF L ((y / 2 : Nat) : Int)) (levelF L ((x / 2 : Nat) : Int)) = 0
  · rw [if_neg (by simpa using h), cmpI_neg]
    rw [cmpI_zero] at h
    unfold lvN
    omega
  · rw [if_pos h, cmpI_neg]
    have : levelF L ((y / 2 : Nat) : Int) ≠ levelF L ((x / 2 : Nat) : Int) := fun c => h (cmpI_zero.2 c)
    unfold lvN
    omega

abbrev Lt8 := Fin 8192
def encL (x : Lt8) : Value := .int .i64 (x.1 : Int)
def cfL (L : List E) (x y : Lt8) : Int := cmpF L x.1 y.1

theorem ltL {L : List E} {x y : Lt8} : ltOf (cfL L) x y = true ↔ lvN L y.1 < lvN L x.1 ∨ (lvN L x.1 = lvN L y.1 ∧ x.1 < y.1) := by
  unfold ltOf cfL
  rw [decide_eq_true_eq, cmpF_neg]
theorem ltL_no {L : List E} {x y : Lt8} : ltOf (cfL L) x y = false ↔ ¬ (lvN L y.1 < lvN L x.1 ∨ (lvN L x.1 = lvN L y.1 ∧ x.1 < y.1)) := by
  rw [← ltL]; simp

theorem swoL (L : List E) : SWO (ltOf (cfL L)) := by
  refine ⟨fun x => ltL_no.2 (by omega), fun x y z h1 h2 => ltL.2 ?_, fun x y z h1 h2 => ltL_no.2 ?_⟩
  · have a := ltL.1 h1; have b := ltL.1 h2; omega
  · have a := ltL_no.1 h1; have b := ltL_no.1 h2; omega

theorem totL (L : List E) : ∀ x y : Lt8, ltOf (cfL L) x y = false → ltOf (cfL L) y x = false → x = y := fun x y h1 h2 => by
  have a := ltL_no.1 h1; have b := ltL_no.1 h2
  exact Fin.ext (by omega)

/-- By falling levels, of one level by rising numbers. -/
def Fall (L : List E) (es : List Int) : Prop := es.Pairwise (fun x y => levelF L (vl y : Nat) < levelF L (vl x : Nat) ∨ (levelF L (vl x : Nat) = levelF L (vl y : Nat) ∧ x ≤ y))

theorem lift8 (os : List Int) (h : ∀ x ∈ os, 0 ≤ x ∧ x < 8192) : ∃ ds : List Lt8, ds.map (fun x => (x.1 : Int)) = os := by
  induction os with
  | nil => exact ⟨[], rfl⟩
  | cons x os ih =>
    obtain ⟨ds, e⟩ := ih (fun y hy => h y (by simp [hy]))
    have hx := h x (by simp)
    exact ⟨⟨x.toNat, by omega⟩ :: ds, by simp [e]; omega⟩

theorem fall_sort (L : List E) (ds : List Lt8) : ((ds.mergeSort fun x y => !(ltOf (cfL L)) y x).map (fun x : Lt8 => (x.1 : Int))).Perm (ds.map (fun x => (x.1 : Int))) ∧ Fall L ((ds.mergeSort fun x y => !(ltOf (cfL L)) y x).map (fun x : Lt8 => (x.1 : Int))) := by
  refine ⟨(List.mergeSort_perm ds _).map _, ?_⟩
  have h := List.pairwise_mergeSort (le := fun x y : Lt8 => !(ltOf (cfL L)) y x) (fun a b c h1 h2 => ?_) (fun a b => ?_) ds
  · unfold Fall
    rw [List.pairwise_map]
    refine h.imp_of_mem fun {a b} _ _ hab => ?_
    have := ltL_no.1 (show ltOf (cfL L) b a = false by simpa using hab)
    have e1 : vl ((a.1 : Nat) : Int) = a.1 / 2 := by unfold vl; simp
    have e2 : vl ((b.1 : Nat) : Int) = b.1 / 2 := by unfold vl; simp
    rw [e1, e2]
    unfold lvN at this
    omega
  · have a1 := ltL_no.1 (show ltOf (cfL L) b a = false by simpa using h1)
    have a2 := ltL_no.1 (show ltOf (cfL L) c b = false by simpa using h2)
    have : ltOf (cfL L) c a = false := ltL_no.2 (by omega)
    simp [this]
  · cases h1 : ltOf (cfL L) b a with
    | false => simp
    | true =>
      have a1 := ltL.1 h1
      have : ltOf (cfL L) a b = false := ltL_no.2 (by omega)
      simp [this]

/-! ### The row that is sorted -/
theorem sort_grown {α : Type} [Inhabited α] (enc : α → Value) (w : World) (blk off m : Nat) (dk : Array α) (os : Array Obj) : w.grownBy (sortWorld enc w blk off m dk os) (some blk) := by
  refine ⟨rfl, rfl, rfl, ?_, fun j hj hne => ?_⟩
  · unfold sortWorld
    rw [size_grow, size_putRow]
    exact Nat.le_add_right _ _
  · unfold sortWorld
    have h1 : j < (putRow enc (Sort.ahead w m) blk off dk).heap.size := by rw [size_putRow]; exact hj
    rw [heap_grow_old _ _ h1]
    have hne' : ¬ blk = j := fun c => hne (by rw [c])
    simp only [putRow, mapBlock, Array.getElem?_modify, if_neg hne']
    rfl

theorem sort_cell {α : Type} [Inhabited α] (enc : α → Value) (w : World) (blk off m : Nat) (d0 dk : Array α) (os : Array Obj) (hb : blk < w.heap.size) (h0 : Holds enc w blk off d0) (hs : dk.size = d0.size) :
    (∀ j, j < dk.size → (sortWorld enc w blk off m dk os).cell? ⟨blk, off + j, none⟩ = some (enc dk[j]!)) ∧ ∀ j, j < off → (sortWorld enc w blk off m dk os).cell? ⟨blk, j, none⟩ = w.cell? ⟨blk, j, none⟩ := by
  have hsz : blk < (putRow enc (Sort.ahead w m) blk off dk).heap.size := by rw [size_putRow]; exact hb
  refine ⟨fun j hj => ?_, fun j hj => ?_⟩
  · unfold sortWorld
    rw [cell?_grow _ _ _ hsz]
    exact cell?_putRow enc (Sort.ahead w m) blk off d0 dk h0 hs j hj
  · unfold sortWorld
    rw [cell?_grow _ _ _ hsz, cell?_putRow_other enc (Sort.ahead w m) blk off dk _ (.inr (.inl hj))]
    rfl

theorem make_ints (n : Nat) (hn : n ≤ 100000) (w : World) : (Instr.makeSlice 23 (.int .i64 0) (.int .i64 ((1 : Int) + n))).run Tryz.prog w = .ok (.slice (some ⟨w.heap.size, 0, none⟩) 0 (n + 1)) (w.alloc (.cells (madeCells #[.int .i64 0] (n + 1)) 3)) := by
  obtain ⟨i0, hi, hz0, hz1, hz2⟩ := info_parts Tryz.info3
  have := run_make (P := Tryz.prog) w 23 3 i0 (.int .i64 0) Tryz.underlying23 hi hz0 .i64 .i64 0 ((1 : Int) + n) (Int.le_refl _) (by omega) (by rw [hz2]; omega) (by omega)
  rw [this, hz1]
  have e : ((1 : Int) + n).toNat = n + 1 := by omega
  rw [e]
  simp [Value.cells]

theorem own_made (w : World) (n : Nat) (hn : n ≤ 100000) : U.Own (w.alloc (.cells (madeCells #[.int .i64 0] (n + 1)) 3)) w.heap.size (.slice (some ⟨w.heap.size, 0, none⟩) 0 (n + 1)) [] :=
  ⟨⟨by simp, .inr ⟨w.heap.size, n + 1, _, rfl, Nat.le_refl _, new_same w _, by simp, by unfold maxLen; omega, by rw [size_madeCells]; omega, by simp⟩⟩, fun x hx => by simp at hx⟩

/-- A row of one's own that has something. -/
theorem own_filled {w : World} {B : Nat} {v : Value} {x : Int} {xs : List Int} (h : U.Own w B v (x :: xs)) : ∃ g c cur, v = .slice (some ⟨g, 0, none⟩) (xs.length + 1) c ∧ B ≤ g ∧ w.heap[g]? = some (.cells cur 3 (0, 0)) ∧ xs.length + 1 ≤ c ∧ c ≤ maxLen ∧ ∀ (j : Nat) (y : Int), (x :: xs)[j]? = some y → w.cell? ⟨g, j, none⟩ = some (.int .i64 y) := by
  rcases h.1.2 with ⟨_, h2⟩ | ⟨g, cap, cur, rfl, h1, h2, h3, h4, h5, h6⟩
  · simp at h2
  · refine ⟨g, cap, cur, by simp, h1, h2, by simpa using h3, h4, fun j y hj => ?_⟩
    have hl := (List.getElem?_eq_some_iff.1 hj).1
    rw [cell_of h2]
    have e : (cur.toList.take ((x :: xs).length * 1))[j]? = some (.int .i64 y) := by rw [h6, List.getElem?_map, hj]; rfl
    rw [List.getElem?_take_of_lt (by omega)] at e
    simpa using e

section
variable {k : SK} {w0 w w1 w' : World} {kt : K} {L : List E} {lev : Nat} {p : V} {cls : List (List Int)} {s s' : PS} {v v' : SV} {n : Nat}

theorem Lv.grown {g : Nat} (h : Lv k kt L lev p w) (gr : w.grownBy w' (some g)) (h1 : g ≠ k.SB) (h2 : ¬ Mine kt p g) : Lv k kt L lev p w' := by
  refine ⟨?_, h.t.keep gr (fun j e => by cases e; exact h2)⟩
  have hlt : k.SB < w.heap.size := cell_lt h.c0
  rw [World.cell?_of_block (a := ⟨k.SB, 0, none⟩) (gr.block k.SB hlt (fun c => h1 (Option.some.inj c).symm))]
  exact h.c0

theorem cmp_lays (h : Lv k kt L lev p w) {BX g off size : Nat} (hbx : w.cell? ⟨BX, 0, none⟩ = some (.pointer (some ⟨k.SB, 0, none⟩))) (h1 : g ≠ k.SB) (h2 : ¬ Mine kt p g) (h3 : g ≠ BX) : CmpLays1 Tryz.prog 55 #[.pointer (some ⟨BX, 0, none⟩)] encL (cfL L) g off size w := by
  intro m os dk _ x y
  have gr := sort_grown encL w g off m dk os
  have hl := h.grown gr h1 h2
  have hb : (sortWorld encL w g off m dk os).cell? ⟨BX, 0, none⟩ = some (.pointer (some ⟨k.SB, 0, none⟩)) := by
    rw [World.cell?_of_block (a := ⟨BX, 0, none⟩) (gr.block BX (cell_lt hbx) (fun c => h3 (Option.some.inj c).symm))]
    exact hbx
  have hx := x.2
  have hy := y.2
  exact closure_is hl hb x.1 y.1 (by omega) (by omega)

/-- The sort of what lies behind the first. -/
theorem sortFunc_is (h : Lv k kt L lev p w) {BX g c : Nat} {x : Int} {xs : List Int} (hbx : w.cell? ⟨BX, 0, none⟩ = some (.pointer (some ⟨k.SB, 0, none⟩))) (h1 : g ≠ k.SB) (h2 : ¬ Mine kt p g) (h3 : g ≠ BX) {cur : Array Value} (hg : w.heap[g]? = some (.cells cur 3 (0, 0))) (hc : ∀ (j : Nat) (y : Int), (x :: xs)[j]? = some y → w.cell? ⟨g, j, none⟩ = some (.int .i64 y)) (hb : ∀ y ∈ xs, 0 ≤ y ∧ y < 8192) (hln : xs.length ≤ 100000) :
    Calls Tryz.prog 54 #[.slice (some ⟨g, 1, none⟩) xs.length c, .func (.func 55) #[] #[.pointer (some ⟨BX, 0, none⟩)]] w fun e w' => e = .returned (.tuple #[]) ∧ ∃ es, Hid (es.Perm xs ∧ Fall L es) ∧ Hid (w.grownBy w' (some g)) ∧ Hid (∀ (j : Nat) (y : Int), (x :: es)[j]? = some y → w'.cell? ⟨g, j, none⟩ = some (.int .i64 y)) := by
  obtain ⟨ds, hds⟩ := lift8 xs hb
  have hlen : ds.toArray.size = xs.length := by rw [← hds]; simp
  have hH : Holds encL w g 1 ds.toArray := fun j hj => by
    have hj' : j < ds.length := by simpa using hj
    refine ⟨?_, frozen_of hg⟩
    have e : ds.toArray[j]! = ds[j] := by simp [hj']
    rw [e]
    have := hc (1 + j) (ds[j].1 : Int) (by rw [← hds, Nat.add_comm]; simp [hj'])
    exact this
  have key := Tryz.slices_SortFunc_total encL (fun x => rfl) (cfL L) (swoL L) 55 #[.pointer (some ⟨BX, 0, none⟩)] g 1 c ds.toArray w (enters_of Tryz.func55 (by kernel_rfl) rfl) (cmp_lays h hbx h1 h2 h3) hH (blk_lt hg) (by rw [hlen]; omega) (totL L)
  rw [hlen] at key
  refine key.mono fun e w' hq => ?_
  obtain ⟨he, q, os, rfl⟩ := hq
  obtain ⟨f1, f2⟩ := fall_sort L ds
  rw [hds] at f1
  have hsz : ((ds.mergeSort fun x y => !(ltOf (cfL L)) y x).toArray).size = ds.toArray.size := by simp [List.length_mergeSort]
  obtain ⟨s1, s2⟩ := sort_cell encL w g 1 q ds.toArray (ds.mergeSort fun x y => !(ltOf (cfL L)) y x).toArray os (blk_lt hg) hH hsz
  refine ⟨he, _, ⟨f1, f2⟩, sort_grown _ _ _ _ _ _ _, hid ?_⟩
  intro j y hj
  cases j with
  | zero =>
    rw [s2 0 (by omega)]
    exact hc 0 y (by simpa using hj)
  | succ j =>
    have hj2 : ((ds.mergeSort fun x y => !(ltOf (cfL L)) y x).map (fun x : Lt8 => (x.1 : Int)))[j]? = some y := by simpa using hj
    have hl := (List.getElem?_eq_some_iff.1 hj2).1
    rw [List.length_map] at hl
    have := s1 j (by simpa using hl)
    rw [Nat.add_comm 1 j] at this
    rw [this]
    rw [List.getElem?_map, List.getElem?_eq_getElem hl] at hj2
    simp only [Option.map_some, Option.some.injEq] at hj2
    have e : ((ds.mergeSort fun x y => !(ltOf (cfL L)) y x).toArray)[j]! = (ds.mergeSort fun x y => !(ltOf (cfL L)) y x)[j] := by rw [getElem!_pos _ j (by simpa using hl)]; rfl
    rw [e, ← hj2]
    rfl
end

end Go.Proofs.YtikdmgemhfmipaaGreat
