/-
  The sort of places by which is ahead.
-/
import Derived.Test.YtodhganfjeojoaaClosure
namespace Go.Proofs.Ytodhganfjeojoaa
open Go.RowKit Go.Sort
set_option linter.unusedVariables false

def encL {m : Nat} (x : Fin (m + 1)) : Value := .int .i64 (x.1 : Int)
def cfL {m : Nat} (D : Nat → Dd) (x y : Fin (m + 1)) : Int := ahdC D x.1 y.1

section
variable {m : Nat} {D : Nat → Dd}

theorem ltL {x y : Fin (m + 1)} : ltOf (cfL D) x y = ahd D x.1 y.1 := by
  rw [Bool.eq_iff_iff]
  unfold ltOf cfL
  rw [decide_eq_true_eq, ahdC_neg]

theorem ahd_weak {i j k : Nat} (h : ahd D i j = false) (g : ahd D j k = false) : ahd D i k = false := by
  cases h3 : ahd D i k with
  | false => rfl
  | true =>
    by_cases e : j = k
    · subst e; rw [h] at h3; exact h3.symm
    · rcases ahd_tot (D := D) e with q | q
      · rw [q] at g; exact g
      · rw [ahd_trans h3 q] at h; exact h

theorem swoL : SWO (ltOf (cfL (m := m) D)) := by
  refine ⟨fun x => ?_, fun x y z h1 h2 => ?_, fun x y z h1 h2 => ?_⟩
  · rw [ltL]; exact ahd_irr
  · rw [ltL] at h1 h2 ⊢; exact ahd_trans h1 h2
  · rw [ltL] at h1 h2 ⊢; exact ahd_weak h1 h2

theorem totL (x y : Fin (m + 1)) (h1 : ltOf (cfL D) x y = false) (h2 : ltOf (cfL D) y x = false) : x = y := by
  rw [ltL] at h1 h2
  by_cases e : x.1 = y.1
  · exact Fin.ext e
  · rcases ahd_tot (D := D) e with q | q
    · rw [h1] at q; simp at q
    · rw [h2] at q; simp at q

theorem liftF (os : List Nat) (h : ∀ x ∈ os, x < m + 1) : ∃ ds : List (Fin (m + 1)), ds.map (fun x => x.1) = os := by
  induction os with
  | nil => exact ⟨[], rfl⟩
  | cons x os ih =>
    obtain ⟨ds, e⟩ := ih (fun y hy => h y (by simp [hy]))
    exact ⟨⟨x, h x (by simp)⟩ :: ds, by simp [e]⟩

theorem sortedF (ds : List (Fin (m + 1))) (hn : (ds.map (fun x => x.1)).Nodup) : ((ds.mergeSort fun x y => !(ltOf (cfL D)) y x).map (fun x => x.1)).Perm (ds.map (fun x => x.1)) ∧ ((ds.mergeSort fun x y => !(ltOf (cfL D)) y x).map (fun x => x.1)).Pairwise (fun x y => ahd D x y = true) := by
  have hp := (List.mergeSort_perm ds (fun x y => !(ltOf (cfL D)) y x)).map (fun x : Fin (m + 1) => x.1)
  refine ⟨hp, ?_⟩
  have hn2 : ((ds.mergeSort fun x y => !(ltOf (cfL D)) y x).map (fun x => x.1)).Pairwise (fun x y => x ≠ y) := hp.symm.nodup hn
  have h := List.pairwise_mergeSort (le := fun x y : Fin (m + 1) => !(ltOf (cfL D)) y x) (fun a b c h1 h2 => ?_) (fun a b => ?_) ds
  · have h' : ((ds.mergeSort fun x y => !(ltOf (cfL D)) y x).map (fun x => x.1)).Pairwise (fun x y => ahd D y x = false) := by
      rw [List.pairwise_map]
      refine h.imp_of_mem fun {a b} _ _ hab => ?_
      rw [← ltL]; simpa using hab
    refine (h'.and hn2).imp_of_mem fun {a b} _ _ hab => ?_
    rcases ahd_tot (D := D) hab.2 with q | q
    · exact q
    · have := hab.1; rw [q] at this; simp at this
  · rw [ltL] at h1 h2 ⊢
    have h1' : ahd D b.1 a.1 = false := by simpa using h1
    have h2' : ahd D c.1 b.1 = false := by simpa using h2
    rw [ahd_weak h2' h1']; rfl
  · rw [ltL, ltL]
    cases h3 : ahd D b.1 a.1 with
    | false => simp
    | true => rw [ahd_asym h3]; simp
end

/-! ### The row that is sorted -/
theorem sort_grown {α : Type} [Inhabited α] (enc : α → Value) (w : World) (blk off m : Nat) (dk : Array α) (os : Array Obj) : w.grownBy (sortWorld enc w blk off m dk os) (some blk) := by
  refine ⟨rfl, rfl, rfl, ?_, fun j hj hne => ?_⟩
  · unfold sortWorld
    rw [size_grow, size_putRow]
    exact Nat.le_add_right _ _
  · unfold sortWorld
    have h1 : j < (putRow enc (Sort.ahead w m) blk off dk).heap.size := by rw [size_putRow]; exact hj
    rw [heap_grow_old _ _ h1]
    have hne' : ¬ blk = j := fun c => hne (by rw [c])
    simp only [putRow, mapBlock, Array.getElem?_modify, if_neg hne']
    rfl

theorem sort_cell {α : Type} [Inhabited α] (enc : α → Value) (w : World) (blk m : Nat) (d0 dk : Array α) (os : Array Obj) (hb : blk < w.heap.size) (h0 : Holds enc w blk 0 d0) (hs : dk.size = d0.size) (j : Nat) (hj : j < dk.size) :
    (sortWorld enc w blk 0 m dk os).cell? ⟨blk, j, none⟩ = some (enc dk[j]!) := by
  have hsz : blk < (putRow enc (Sort.ahead w m) blk 0 dk).heap.size := by rw [size_putRow]; exact hb
  unfold sortWorld
  rw [cell?_grow _ _ _ hsz]
  have := cell?_putRow enc (Sort.ahead w m) blk 0 d0 dk h0 hs j hj
  rwa [Nat.zero_add] at this

section
variable {w w' : World} {ao : Option Addr} {n cap BX g : Nat} {D : Nat → Dd}

theorem Deeds.grown (h : Deeds w ao n D) (gr : w.grownBy w' (some g)) (hg : ∀ ad, ao = some ad → ad.block ≠ g) : Deeds w' ao n D := by
  intro h0
  obtain ⟨b, off, e, hc⟩ := h h0
  have hne : b ≠ g := hg _ e
  have same : ∀ {o : Nat} {v : Value}, w.cell? ⟨b, o, none⟩ = some v → w'.cell? ⟨b, o, none⟩ = some v := fun {o v} hv => by
    rw [World.cell?_of_block (a := ⟨b, o, none⟩) (gr.block b (cell_lt hv) (fun c => hne (Option.some.inj c)))]
    exact hv
  refine ⟨b, off, e, fun j hj => ?_⟩
  obtain ⟨r0, r1, r2⟩ := hc j hj
  exact ⟨same r0, same r1, same r2⟩

theorem cmp_lays {m : Nat} (h : Deeds w ao (m + 1) D) (hbx : w.cell? ⟨BX, 0, none⟩ = some (.slice ao (m + 1) cap)) (hn : m + 1 ≤ 100) (h1 : g ≠ BX) (h2 : ∀ ad, ao = some ad → ad.block ≠ g) (off size : Nat) : CmpLays1 Try.prog 13 #[.pointer (some ⟨BX, 0, none⟩)] encL (cfL (m := m) D) g off size w := by
  intro q os dk _ x y
  have gr := sort_grown encL w g off q dk os
  have hb : (sortWorld encL w g off q dk os).cell? ⟨BX, 0, none⟩ = some (.slice ao (m + 1) cap) := by
    rw [World.cell?_of_block (a := ⟨BX, 0, none⟩) (gr.block BX (cell_lt hbx) (fun c => h1 (Option.some.inj c).symm))]
    exact hbx
  exact closure_is (h.grown gr h2) hb x.1 y.1 x.2 y.2 hn

theorem sortFunc_is {m c : Nat} (h : Deeds w ao (m + 1) D) (hbx : w.cell? ⟨BX, 0, none⟩ = some (.slice ao (m + 1) cap)) (hn : m + 1 ≤ 100) (h1 : g ≠ BX) (h2 : ∀ ad, ao = some ad → ad.block ≠ g) {cur : Array Value} (hg : w.heap[g]? = some (.cells cur 3 (0, 0))) (xs : List Nat) (hc : ∀ (j y : Nat), xs[j]? = some y → w.cell? ⟨g, j, none⟩ = some (.int .i64 (y : Int))) (hb : ∀ y ∈ xs, y < m + 1) (hd : xs.Nodup) (hl : xs.length ≤ 100) :
    Calls Try.prog 12 #[.slice (some ⟨g, 0, none⟩) xs.length c, .func (.func 13) #[] #[.pointer (some ⟨BX, 0, none⟩)]] w fun e w' => e = .returned (.tuple #[]) ∧ ∃ es : List Nat, Hid (es.Perm xs ∧ es.Pairwise (fun x y => ahd D x y = true)) ∧ Hid (w.grownBy w' (some g)) ∧ Hid (∀ (j y : Nat), es[j]? = some y → w'.cell? ⟨g, j, none⟩ = some (.int .i64 (y : Int))) := by
  obtain ⟨ds, hds⟩ := liftF xs hb
  have hlen : ds.toArray.size = xs.length := by rw [← hds]; simp
  have hH : Holds encL w g 0 ds.toArray := fun j hj => by
    have hj' : j < ds.length := by simpa using hj
    refine ⟨?_, frozen_of hg⟩
    have e : ds.toArray[j]! = ds[j] := by simp [hj']
    rw [e, Nat.zero_add]
    exact hc j ds[j].1 (by rw [← hds]; simp [hj'])
  have key := Try.slices_SortFunc_total encL (fun x => rfl) (cfL (m := m) D) swoL 13 #[.pointer (some ⟨BX, 0, none⟩)] g 0 c ds.toArray w (enters_of Try.func13 (by kernel_rfl) rfl) (cmp_lays h hbx hn h1 h2 _ _) hH (blk_lt hg) (by rw [hlen]; omega) totL
  rw [hlen] at key
  refine key.mono fun e w' hq => ?_
  obtain ⟨he, q, os, rfl⟩ := hq
  obtain ⟨f1, f2⟩ := sortedF (D := D) ds (by rw [hds]; exact hd)
  rw [hds] at f1
  have hsz : ((ds.mergeSort fun x y => !(ltOf (cfL D)) y x).toArray).size = ds.toArray.size := by simp [List.length_mergeSort]
  refine ⟨he, _, ⟨f1, f2⟩, sort_grown _ _ _ _ _ _ _, hid ?_⟩
  intro j y hj
  have hl := (List.getElem?_eq_some_iff.1 hj).1
  rw [List.length_map] at hl
  have := sort_cell encL w g q ds.toArray (ds.mergeSort fun x y => !(ltOf (cfL D)) y x).toArray os (blk_lt hg) hH hsz j (by simpa using hl)
  rw [this]
  rw [List.getElem?_map, List.getElem?_eq_getElem hl] at hj
  simp only [Option.map_some, Option.some.injEq] at hj
  have e : ((ds.mergeSort fun x y => !(ltOf (cfL D)) y x).toArray)[j]! = (ds.mergeSort fun x y => !(ltOf (cfL D)) y x)[j] := by rw [getElem!_pos _ j (by simpa using hl)]; rfl
  rw [e, ← hj]
  rfl
end

end Go.Proofs.Ytodhganfjeojoaa
