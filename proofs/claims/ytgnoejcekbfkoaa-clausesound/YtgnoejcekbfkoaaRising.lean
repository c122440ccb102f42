/-
  rising: a copy, sorted, each number once.
-/
import Derived.Test.YtgnoejcekbfkoaaRead
import Derived.Test.YtgnoejcekbfkoaaShelf
import Derived.Laws.CopyOwn
import Derived.OwnWalk
import Derived.Lib.RowBridge
namespace Go.Proofs.Ytgnoejcekbfkoaa
open Go.RowKit Go.Sort Go.Lib
set_option linter.unusedVariables false

/-! ### Sorted and without neighbours that are the same: rising -/
theorem up_range_filter {d : Array Int} (h : ∀ i j, i < j → j < d.size → d[i]! ≤ d[j]!) (m : Nat) (hm : m ≤ d.size) :
    (compactUpTo d m).Pairwise (· < ·) ∧ (∀ z ∈ compactUpTo d m, ∃ j, j < m ∧ d[j]! = z) ∧ (∀ j, j < m → d[j]! ∈ compactUpTo d m) := by
  induction m with
  | zero => simp [compactUpTo]
  | succ m ih =>
    obtain ⟨i1, i2, i3⟩ := ih (by omega)
    rw [compactUpTo_succ]
    by_cases hk : keeps d m = true
    · rw [if_pos hk]
      have hk' : m = 0 ∨ d[m]! ≠ d[m - 1]! := by simpa [keeps] using hk
      refine ⟨?_, ?_, ?_⟩
      · rw [List.pairwise_append]
        refine ⟨i1, by simp, ?_⟩
        intro a ha b hb
        rw [List.mem_singleton] at hb; subst hb
        obtain ⟨j, hj, rfl⟩ := i2 a ha
        have h1 : d[m - 1]! ≤ d[m]! := h _ _ (by omega) (by omega)
        have h2 : d[j]! ≤ d[m - 1]! := by
          by_cases e : j = m - 1
          · subst e; exact Int.le_refl _
          · exact h _ _ (by omega) (by omega)
        have h3 : d[m]! ≠ d[m - 1]! := hk'.resolve_left (by omega)
        omega
      · intro z hz
        rcases List.mem_append.1 hz with hz | hz
        · obtain ⟨j, hj, e⟩ := i2 z hz; exact ⟨j, by omega, e⟩
        · rw [List.mem_singleton] at hz; exact ⟨m, by omega, hz.symm⟩
      · intro j hj
        by_cases e : j = m
        · subst e; simp
        · exact List.mem_append.2 (.inl (i3 j (by omega)))
    · rw [if_neg hk, List.append_nil]
      have hk' : ¬ (m = 0 ∨ d[m]! ≠ d[m - 1]!) := by simpa [keeps] using hk
      refine ⟨i1, fun z hz => ?_, fun j hj => ?_⟩
      · obtain ⟨j, hj, e⟩ := i2 z hz; exact ⟨j, by omega, e⟩
      · by_cases e : j = m
        · subst e
          have : d[j]! = d[j - 1]! := Classical.byContradiction fun c => hk' (.inr c)
          rw [this]; exact i3 _ (by omega)
        · exact i3 j (by omega)

theorem compact_sort (xs : List Int) : Lib.compact (xs.mergeSort fun x y => decide (x ≤ y)) = rise xs := by
  have hp : (xs.mergeSort fun x y => decide (x ≤ y)).Pairwise (fun a b => decide (a ≤ b) = true) :=
    List.pairwise_mergeSort (fun a b c h1 h2 => by simp at *; omega) (fun a b => by simp; omega) xs
  have hm : ∀ z, z ∈ (xs.mergeSort fun x y => decide (x ≤ y)) ↔ z ∈ xs := fun z => (List.mergeSort_perm xs _).mem_iff
  obtain ⟨s, hs⟩ : ∃ s, s = xs.mergeSort fun x y => decide (x ≤ y) := ⟨_, rfl⟩
  rw [← hs] at hp hm ⊢
  have key := up_range_filter (d := s.toArray) (by
    intro i j hij hj
    have hj' : j < s.length := by simpa using hj
    rw [List.pairwise_iff_getElem] at hp
    have := hp i j (by omega) hj' hij
    simpa [getElem!_pos, hj', show i < s.length by omega] using this) s.length (by simp)
  refine rise_of key.1 fun z => ?_
  rw [← hm z]
  constructor
  · intro hz
    obtain ⟨j, hj, e⟩ := key.2.1 z hz
    rw [← e]
    simp [getElem!_pos, hj]
  · intro hz
    obtain ⟨j, hj, e⟩ := List.mem_iff_getElem.1 hz
    have := key.2.2 j hj
    simpa [getElem!_pos, hj, e, Lib.compact] using this

/-! ### The library's two, at a row of the call's own -/
theorem below_put {g : Nat} {w : World} (d : Array Int) (n : Nat) : Below g w (putRow (Value.int .i64) (Sort.ahead w n) g 0 d) :=
  ⟨rfl, rfl, rfl, by simp, fun k hk => by simp only [putRow, mapBlock, Sort.ahead, Array.getElem?_modify]; rw [if_neg (by omega)]⟩

theorem sort_row (g n cap : Nat) (zs : List Int) (w : World) (hn : zs.length = n) (hH : Holds (Value.int .i64) w g 0 zs.toArray) (hg : g < w.heap.size) (hsz : n < 4611686018427387904) :
    Calls Try.prog 36 #[.slice (some ⟨g, 0, none⟩) n cap] w fun e w' => e = .returned (.tuple #[]) ∧ Hid (Holds (Value.int .i64) w' g 0 (zs.mergeSort fun x y => decide (x ≤ y)).toArray ∧ g < w'.heap.size) ∧ Hid (Below g w w') := by
  subst hn
  refine (Try.slices_Sort_int g 0 cap zs w hH hg hsz).mono ?_
  rintro e w' ⟨rfl, n, os, rfl⟩
  refine ⟨rfl, ⟨?_, ?_⟩, ?_⟩
  · refine holds_grow _ _ _ _ _ _ (by simpa using hg) ?_
    exact holds_putRow _ _ _ _ zs.toArray _ (holds_ahead _ _ _ _ _ _ hH) (by simp)
  · simp; omega
  · refine Below.trans (below_put _ n) ⟨rfl, rfl, rfl, by simp, fun k hk => heap_grow_old _ _ (by simp; omega)⟩

theorem compact_row (g n cap : Nat) (zs : List Int) (w : World) (hn : zs.length = n) (hH : Holds (Value.int .i64) w g 0 zs.toArray) (hsz : n ≤ 9223372036854775807) (hcap : n ≤ cap) :
    Calls Try.prog 37 #[.slice (some ⟨g, 0, none⟩) n cap] w fun e w' => e = .returned (.slice (some ⟨g, 0, none⟩) (Lib.compact zs).length cap) ∧
      Hid (∀ j, j < (Lib.compact zs).length → w'.cell? ⟨g, 0 + j, none⟩ = some (.int .i64 ((Lib.compact zs).getD j 0))) ∧ Hid (Below g w w') := by
  subst hn
  refine (Try.slices_Compact_int g 0 cap zs w hH hsz hcap).mono ?_
  rintro e w' ⟨rfl, q, rfl⟩
  have hle := compact_length_le zs
  refine ⟨rfl, fun j hj => ?_, below_put _ q⟩
  have hs : (Lib.compact zs ++ List.replicate (zs.length - (Lib.compact zs).length) 0).toArray.size = zs.toArray.size := by simp; omega
  have := (holds_putRow (Value.int .i64) (Sort.ahead w q) g 0 zs.toArray _ (holds_ahead _ _ _ _ _ _ hH) hs j (by rw [hs]; simp; omega)).1
  rw [this]
  congr 2
  have hj2 : j < zs.length := by omega
  simp [hj]
  rw [List.getElem?_append_left hj]; simp [hj]

theorem Try.info3 : (Try.prog.info? 3).map (fun i => (i.zero, i.size, i.bytes)) = some (some (.int .i64 0), 1, 8) := by kernel_rfl
theorem Try.size3 : (Try.prog.info? 3).map (·.size) = some 1 := by kernel_rfl

theorem row_cells {w : World} {ao : Option Addr} {n cap : Nat} {xs : List Int} (h : Row w ao n cap xs) (h0 : 0 < n) :
    ∃ ad, ao = some ad ∧ ∀ j v, (xs.map (Value.int .i64))[j]? = some v → w.cell? (ad.add j) = some v := by
  obtain ⟨b, off, e, hc⟩ := h.2.2.2.2.2 h0
  refine ⟨_, e, fun j v hv => ?_⟩
  have hj : j < xs.length := by
    have := (List.getElem?_eq_some_iff.1 hv).1; simpa using this
  have := hc j (by rw [← h.1]; exact hj)
  rw [List.getElem?_map, List.getElem?_eq_getElem hj] at hv
  simp at hv
  rw [show xs.getD j 0 = xs[j] by simp [hj], hv] at this
  by_cases h0 : j = 0
  · subst h0; simpa [Addr.add] using this
  · simpa [Addr.add, h0] using this

theorem ints_one (xs : List Int) : ∀ v ∈ xs.map (Value.int .i64), v.oneCell' = true := by
  intro v hv
  obtain ⟨x, _, rfl⟩ := List.mem_map.1 hv
  rfl

theorem fit_rise {xs : List Int} (h : Fit xs) : Fit (rise xs) := fun x hx => h x ((mem_rise xs x).1 hx)

theorem holds_of_block {w : World} {g : Nat} {xs : List Int} (h : w.heap[g]? = some (.cells ((xs.map (Value.int .i64)).toArray) 3 (0, 0))) : Holds (Value.int .i64) w g 0 xs.toArray := by
  intro j hj
  have hj' : j < xs.length := by simpa using hj
  constructor
  · simp [World.cell?, h, hj', getElem!_pos]
  · simp [World.frozen?, h]

theorem copied {w w1 : World} {B n cap : Nat} {ao : Option Addr} {xs : List Int} {L : List Value} (own : w1.ownsRow B 3 1 (.slice (some ⟨B, 0, none⟩) n n) n L) (hb : Below B w w1) (row : Row w ao n cap xs) (h0 : 0 < n) (hB : B = w.heap.size) :
    ∃ w2, (Builtin.copy_ #[22, 22] 3 #[.slice (some ⟨B, 0, none⟩) n n, .slice ao n cap]).run Try.prog w1 = .ok (goInt n) w2 ∧ Hid (Holds (Value.int .i64) w2 B 0 xs.toArray ∧ B < w2.heap.size) ∧ Below B w w2 := by
  subst hB
  obtain ⟨ad, e, hc⟩ := row_cells (row.keep hb) h0
  subst e
  rcases own.2 with ⟨h', _⟩ | ⟨g, c, cur, h', _, hg, _, _, hcs, _⟩
  · simp at h'
  · simp only [Value.slice.injEq, Option.some.injEq, Addr.mk.injEq, and_true, true_and] at h'
    obtain ⟨rfl, rfl⟩ := h'
    have hl : (xs.map (Value.int .i64)).length = n := by rw [List.length_map]; exact row.1
    have hrun := run_copy_row (P := Try.prog) w1 22 22 3 3 w.heap.size 0 n n ad n cap cur 3 (xs.map (Value.int .i64)) Try.underlying22 Try.size3 hg (by rw [hl]; simp) hc (by rw [hl, hcs]; omega) (ints_one xs)
    rw [hl] at hrun
    refine ⟨_, hrun, ?_, below_setRow hb (Nat.le_refl _) _⟩
    have e : (cur.toList.take 0 ++ xs.map (Value.int .i64) ++ cur.toList.drop (0 + n)) = xs.map (Value.int .i64) := by
      rw [List.drop_of_length_le (by rw [Array.length_toList, hcs]; omega)]; simp
    rw [e]
    have hh := setRow_heap w1 w.heap.size cur (xs.map (Value.int .i64)).toArray 3 (0, 0) hg
    exact ⟨holds_of_block hh, (Array.getElem?_eq_some_iff.1 hh).1⟩

theorem row_end {w : World} {g n : Nat} {xs : List Int} (hc : ∀ j, j < (Lib.compact (xs.mergeSort fun x y => decide (x ≤ y))).length → w.cell? ⟨g, 0 + j, none⟩ = some (.int .i64 ((Lib.compact (xs.mergeSort fun x y => decide (x ≤ y))).getD j 0)))
    (hf : Fit xs) (hl : xs.length = n) (hn : n ≤ 1000) : Row w (some ⟨g, 0, none⟩) (Lib.compact (xs.mergeSort fun x y => decide (x ≤ y))).length n (rise xs) := by
  rw [compact_sort] at hc ⊢
  refine ⟨rfl, by have := len_rise xs; omega, by unfold maxLen; omega, fun h => by simp at h, fit_rise hf, fun _ => ⟨g, 0, rfl, hc⟩⟩

set_option maxHeartbeats 1000000 in
theorem rising_any (ao : Option Addr) (n cap : Nat) (xs : List Int) (w : World) (h : Row w ao n cap xs) (hn : n ≤ 1000) :
    Calls Try.prog 22 #[.slice ao n cap] w fun e w' => ∃ bo m c, e = .returned (.slice bo m c) ∧ Hid (Row w' bo m c (rise xs)) ∧ Below w.heap.size w w' := by
  have HR : Hid (Row w ao n cap xs) := h
  have hb := Below.refl w.heap.size w
  obtain ⟨i0, hi, hz0, hz1, hz2⟩ := info_parts Try.info3
  have h8 : i0.bytes * n ≤ 281474976710656 := by rw [hz2]; omega
  have h63 : n ≤ maxLen := by unfold maxLen; omega
  clear h
  by_cases h0 : n = 0
  · subst h0
    go_enter Try.func22, Try.ntmps22
    go_wp2_with (first
      | (at_make; refine wpList_make_full _ rfl (.tmp 5) (.tmp 5) 22 rfl w.heap.size 3 i0 (.int .i64 0) 1 Try.underlying22 hi hz0 hz1 .i64 .i64 _ _ 0 rfl rfl rfl rfl h8 h63 (Nat.le_refl _) ?_; intro w1 own1 gr1; have hb1 := hb.grown gr1 (Nat.le_refl _) (by simp); clear own1 gr1; have hcp := run_copy_none (P := Try.prog) w1 22 22 3 3 (some ⟨w.heap.size, 0, none⟩) ao 0 0 0 cap Try.underlying22 Try.size3 rfl)
      | (go_at_call 36; with_reducible (refine (Try.slices_Sort_int_none _ _ _).mono ?_); rintro e w2 ⟨rfl, rfl⟩)
      | (go_at_call 37; with_reducible (refine (Try.slices_Compact_int_empty _ _ _).mono ?_); rintro e w2 ⟨rfl, rfl⟩))
    go_ret
    refine ⟨_, _, _, rfl, ?_, hb1⟩
    have e : xs = [] := List.eq_nil_of_length_eq_zero HR.out.1
    subst e
    exact ⟨rfl, Nat.le_refl _, by unfold maxLen; omega, fun h => by simp at h, fun x hx => by simp [rise] at hx, fun h => by omega⟩
  · have h1 : 0 < n := by omega
    have HL : Hid (xs.length = n) := HR.out.1
    go_enter Try.func22, Try.ntmps22
    go_wp2_with (first
      | (at_make; refine wpList_make_full _ rfl (.tmp 5) (.tmp 5) 22 rfl w.heap.size 3 i0 (.int .i64 0) 1 Try.underlying22 hi hz0 hz1 .i64 .i64 _ _ n rfl rfl rfl rfl h8 h63 (Nat.le_refl _) ?_; intro w1 own1 gr1; have hb1 := hb.grown gr1 (Nat.le_refl _) (by simp); obtain ⟨w2, hcp, hH, hb2⟩ := copied own1 hb1 HR.out h1 rfl; clear own1 gr1 hb1)
      | (go_at_call 36; with_reducible (refine (sort_row _ _ _ xs _ HL.out hH.out.1 hH.out.2 (by omega)).mono ?_); rintro e w3 ⟨rfl, hH3, hc⟩; have hb3 := hb2.trans hc.out; clear hb2 hc hcp hH)
      | (go_at_call 37; with_reducible (refine (compact_row _ _ _ _ _ (by rw [List.length_mergeSort]; exact HL.out) hH3.out.1 (by omega) (Nat.le_refl _)).mono ?_); rintro e w4 ⟨rfl, hC, hc⟩; have hb4 := hb3.trans hc.out; clear hb3 hc hH3))
    go_ret
    exact ⟨_, _, _, rfl, row_end hC.out HR.out.2.2.2.2.1 HL.out hn, hb4⟩

end Go.Proofs.Ytgnoejcekbfkoaa
