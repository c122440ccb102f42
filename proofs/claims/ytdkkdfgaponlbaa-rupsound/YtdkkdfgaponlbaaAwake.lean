/-
  The chapter's example and others, as the statements ask them.
-/
import Derived.Test.YtdkkdfgaponlbaaRefutes
namespace Go.Proofs.Ytdkkdfgaponlbaa
open Go.RowKit
set_option linter.unusedVariables false

theorem rowL (w : World) (xs : List Int) (hx : Fit xs) (hl : xs.length ≤ 1000) : Row (w.alloc (.cells (xs.map (Value.int .i64)).toArray 3)) (some ⟨w.heap.size, 0, none⟩) xs.length xs.length xs := by
  refine ⟨rfl, Nat.le_refl _, by unfold maxLen; omega, fun h => by simp at h, hx, fun _ => ⟨_, _, rfl, fun j hj => ?_⟩⟩
  rw [Nat.zero_add, cell_of_row _ _ _ _ _ _ (heap_alloc_new w _)]
  simp [hj]

theorem fit_of {xs : List Int} (h : xs.all (fun x => decide (-9223372036854775808 ≤ x ∧ x ≤ 9223372036854775807)) = true) : Fit xs := by
  intro x hx
  have := List.all_eq_true.1 h x hx
  simpa using this

theorem grid1 (w : World) (a : Option Addr) (n c : Nat) (xs : List Int) (h : Row w a n c xs) : Grid (w.alloc (.cells #[.slice a n c] 26)) (some ⟨w.heap.size, 0, none⟩) 1 1 [xs] := by
  refine ⟨rfl, Nat.le_refl _, by unfold maxLen; omega, fun h => by simp at h, fun _ => ⟨_, _, rfl, fun j hj => ?_⟩⟩
  obtain rfl : j = 0 := by omega
  exact ⟨a, n, c, by simp, h.keep (one_new _ _)⟩

theorem grid2 (w : World) (a a' : Option Addr) (n c n' c' : Nat) (xs ys : List Int) (h : Row w a n c xs) (h' : Row w a' n' c' ys) : Grid (w.alloc (.cells #[.slice a n c, .slice a' n' c'] 26)) (some ⟨w.heap.size, 0, none⟩) 2 2 [xs, ys] := by
  refine ⟨rfl, Nat.le_refl _, by unfold maxLen; omega, fun h => by simp at h, fun _ => ⟨_, _, rfl, fun j hj => ?_⟩⟩
  match j, hj with
  | 0, _ => exact ⟨a, n, c, by simp, h.keep (one_new _ _)⟩
  | 1, _ => exact ⟨a', n', c', by simp, h'.keep (one_new _ _)⟩

theorem lit1 (w : World) (xs : List Int) (hx : Fit xs) (hl : xs.length ≤ 1000) :
    Grid ((w.alloc (.cells (xs.map (Value.int .i64)).toArray 3)).alloc (.cells #[.slice (some ⟨w.heap.size, 0, none⟩) xs.length xs.length] 26)) (some ⟨w.heap.size + 1, 0, none⟩) 1 1 [xs] := by
  have := grid1 _ _ _ _ xs (rowL w xs hx hl)
  simpa using this

theorem lit2 (w : World) (xs ys : List Int) (hx : Fit xs) (hl : xs.length ≤ 1000) (hy : Fit ys) (hm : ys.length ≤ 1000) :
    Grid (((w.alloc (.cells (xs.map (Value.int .i64)).toArray 3)).alloc (.cells (ys.map (Value.int .i64)).toArray 3)).alloc (.cells #[.slice (some ⟨w.heap.size, 0, none⟩) xs.length xs.length, .slice (some ⟨w.heap.size + 1, 0, none⟩) ys.length ys.length] 26)) (some ⟨w.heap.size + 2, 0, none⟩) 2 2 [xs, ys] := by
  have r1 := (rowL w xs hx hl).keep (one_new _ (.cells (ys.map (Value.int .i64)).toArray 3))
  have r2 := rowL (w.alloc (.cells (xs.map (Value.int .i64)).toArray 3)) ys hy hm
  have := grid2 _ _ _ _ _ _ _ xs ys r1 r2
  simpa using this

theorem two_new (w : World) (o o' : Obj) : Below w.heap.size w ((w.alloc o).alloc o') := Below.next (one_new w o) (one_new _ o')

def fours : List (List Int) := [[0, 2], [0, 3], [1, 2], [1, 3]]

theorem grid4 (w : World) (x0 x1 x2 x3 : List Int) (b0 b1 b2 b3 : Nat) (h0 : Row w (some ⟨b0, 0, none⟩) 2 2 x0) (h1 : Row w (some ⟨b1, 0, none⟩) 2 2 x1) (h2 : Row w (some ⟨b2, 0, none⟩) 2 2 x2) (h3 : Row w (some ⟨b3, 0, none⟩) 2 2 x3) :
    Grid (w.alloc (.cells #[.slice (some ⟨b0, 0, none⟩) 2 2, .slice (some ⟨b1, 0, none⟩) 2 2, .slice (some ⟨b2, 0, none⟩) 2 2, .slice (some ⟨b3, 0, none⟩) 2 2] 26)) (some ⟨w.heap.size, 0, none⟩) 4 4 [x0, x1, x2, x3] := by
  refine ⟨rfl, Nat.le_refl _, by unfold maxLen; omega, fun h => by simp at h, fun _ => ⟨_, _, rfl, fun j hj => ?_⟩⟩
  match j, hj with
  | 0, _ => exact ⟨_, _, _, by simp, h0.keep (one_new _ _)⟩
  | 1, _ => exact ⟨_, _, _, by simp, h1.keep (one_new _ _)⟩
  | 2, _ => exact ⟨_, _, _, by simp, h2.keep (one_new _ _)⟩
  | 3, _ => exact ⟨_, _, _, by simp, h3.keep (one_new _ _)⟩

theorem four_lit (w : World) : Grid (((((w.alloc (.cells #[.int .i64 0, .int .i64 2] 3)).alloc (.cells #[.int .i64 0, .int .i64 3] 3)).alloc (.cells #[.int .i64 1, .int .i64 2] 3)).alloc (.cells #[.int .i64 1, .int .i64 3] 3)).alloc
      (.cells #[.slice (some ⟨w.heap.size, 0, none⟩) 2 2, .slice (some ⟨w.heap.size + 1, 0, none⟩) 2 2, .slice (some ⟨w.heap.size + 1 + 1, 0, none⟩) 2 2, .slice (some ⟨w.heap.size + 1 + 1 + 1, 0, none⟩) 2 2] 26)) (some ⟨w.heap.size + 1 + 1 + 1 + 1, 0, none⟩) 4 4 fours ∧
    Below w.heap.size w (((((w.alloc (.cells #[.int .i64 0, .int .i64 2] 3)).alloc (.cells #[.int .i64 0, .int .i64 3] 3)).alloc (.cells #[.int .i64 1, .int .i64 2] 3)).alloc (.cells #[.int .i64 1, .int .i64 3] 3)).alloc
      (.cells #[.slice (some ⟨w.heap.size, 0, none⟩) 2 2, .slice (some ⟨w.heap.size + 1, 0, none⟩) 2 2, .slice (some ⟨w.heap.size + 1 + 1, 0, none⟩) 2 2, .slice (some ⟨w.heap.size + 1 + 1 + 1, 0, none⟩) 2 2] 26)) := by
  have r0 := rowL w [0, 2] (fit_of rfl) (by decide)
  have r1 := rowL (w.alloc (.cells #[.int .i64 0, .int .i64 2] 3)) [0, 3] (fit_of rfl) (by decide)
  have r2 := rowL ((w.alloc (.cells #[.int .i64 0, .int .i64 2] 3)).alloc (.cells #[.int .i64 0, .int .i64 3] 3)) [1, 2] (fit_of rfl) (by decide)
  have r3 := rowL (((w.alloc (.cells #[.int .i64 0, .int .i64 2] 3)).alloc (.cells #[.int .i64 0, .int .i64 3] 3)).alloc (.cells #[.int .i64 1, .int .i64 2] 3)) [1, 3] (fit_of rfl) (by decide)
  have s1 : (w.alloc (.cells #[.int .i64 0, .int .i64 2] 3)).heap.size = w.heap.size + 1 := by simp
  have s2 : ((w.alloc (.cells #[.int .i64 0, .int .i64 2] 3)).alloc (.cells #[.int .i64 0, .int .i64 3] 3)).heap.size = w.heap.size + 1 + 1 := by simp
  have s3 : (((w.alloc (.cells #[.int .i64 0, .int .i64 2] 3)).alloc (.cells #[.int .i64 0, .int .i64 3] 3)).alloc (.cells #[.int .i64 1, .int .i64 2] 3)).heap.size = w.heap.size + 1 + 1 + 1 := by simp
  have s4 : ((((w.alloc (.cells #[.int .i64 0, .int .i64 2] 3)).alloc (.cells #[.int .i64 0, .int .i64 3] 3)).alloc (.cells #[.int .i64 1, .int .i64 2] 3)).alloc (.cells #[.int .i64 1, .int .i64 3] 3)).heap.size = w.heap.size + 1 + 1 + 1 + 1 := by simp
  rw [s1] at r1
  rw [s2] at r2
  rw [s3] at r3
  have g := grid4 ((((w.alloc (.cells #[.int .i64 0, .int .i64 2] 3)).alloc (.cells #[.int .i64 0, .int .i64 3] 3)).alloc (.cells #[.int .i64 1, .int .i64 2] 3)).alloc (.cells #[.int .i64 1, .int .i64 3] 3)) [0, 2] [0, 3] [1, 2] [1, 3] _ _ _ _ (((r0.keep (one_new _ (.cells #[.int .i64 0, .int .i64 3] 3))).keep (one_new _ (.cells #[.int .i64 1, .int .i64 2] 3))).keep (one_new _ (.cells #[.int .i64 1, .int .i64 3] 3)))
    ((r1.keep (one_new _ (.cells #[.int .i64 1, .int .i64 2] 3))).keep (one_new _ (.cells #[.int .i64 1, .int .i64 3] 3))) (r2.keep (one_new _ (.cells #[.int .i64 1, .int .i64 3] 3))) r3
  rw [s4] at g
  exact ⟨g, Below.next (Below.next (two_new _ _ _) (two_new _ _ _)) (one_new _ _)⟩

theorem four_any (w : World) : Calls Try.prog 15 #[] w fun e w' => ∃ b, e = .returned (.slice (some ⟨b, 0, none⟩) 4 4) ∧ Hid (Grid w' (some ⟨b, 0, none⟩) 4 4 fours) ∧ Hid (Below w.heap.size w w') := by
  have hL := hid (four_lit w)
  go_enter Try.func15, Try.ntmps15
  go_wp2
  go_ret
  exact ⟨_, rfl, hL.out.1, hL.out.2⟩

theorem short4 {c : List Int} (h : c ∈ fours) : c.length ≤ 100 := by
  rcases four_mem h with rfl | rfl | rfl | rfl <;> decide

theorem yes_of {b : Bool} {p : Prop} (h : b = true ↔ p) (hp : p) : b = true := h.2 hp
theorem no_of {b : Bool} {p : Prop} (h : b = true ↔ p) (hp : ¬ p) : b = false := by
  cases b
  · rfl
  · exact absurd (h.1 rfl) hp

theorem aw1 (w : World) (b : Nat) (g : Grid w (some ⟨b, 0, none⟩) 4 4 fours) : Calls Try.prog 11 #[.slice (some ⟨b, 0, none⟩) 4 4, .slice (some ⟨w.heap.size + 1 + 1, 0, none⟩) 2 2]
    (((w.alloc (.cells #[.int .i64 0] 3)).alloc (.cells #[] 3)).alloc (.cells #[.slice (some ⟨w.heap.size, 0, none⟩) 1 1, .slice (some ⟨w.heap.size + 1, 0, none⟩) 0 0] 26)) fun e w' => e = .returned (.bool true) ∧ Hid (Below w.heap.size w w') := by
  have bb := Below.next (two_new w (.cells #[.int .i64 0] 3) (.cells #[] 3)) (one_new _ (.cells #[.slice (some ⟨w.heap.size, 0, none⟩) 1 1, .slice (some ⟨w.heap.size + 1, 0, none⟩) 0 0] 26))
  refine (refutes_any _ _ 4 4 fours (g.keep bb) _ 2 2 [[0], []] (lit2 w [0] [] (fit_of rfl) (by decide) (fit_of rfl) (by decide)) (by decide) (by decide) (fun c hc => short4 hc) (by decide)).mono ?_
  rintro e w' ⟨t, rfl, ht, hb⟩
  obtain rfl := yes_of ht.out ex1
  exact ⟨rfl, Below.next bb hb.out⟩

theorem aw2 (w : World) (b : Nat) (g : Grid w (some ⟨b, 0, none⟩) 4 4 fours) : Calls Try.prog 11 #[.slice (some ⟨b, 0, none⟩) 4 4, .slice (some ⟨w.heap.size + 1, 0, none⟩) 1 1]
    ((w.alloc (.cells #[] 3)).alloc (.cells #[.slice (some ⟨w.heap.size, 0, none⟩) 0 0] 26)) fun e w' => e = .returned (.bool false) ∧ Hid (Below w.heap.size w w') := by
  have bb := two_new w (.cells #[] 3) (.cells #[.slice (some ⟨w.heap.size, 0, none⟩) 0 0] 26)
  refine (refutes_any _ _ 4 4 fours (g.keep bb) _ 1 1 [[]] (lit1 w [] (fit_of rfl) (by decide)) (by decide) (by decide) (fun c hc => short4 hc) (by decide)).mono ?_
  rintro e w' ⟨t, rfl, ht, hb⟩
  obtain rfl := no_of ht.out ex2
  exact ⟨rfl, Below.next bb hb.out⟩

theorem aw3 (w : World) (b : Nat) (g : Grid w (some ⟨b, 0, none⟩) 4 4 fours) : Calls Try.prog 11 #[.slice (some ⟨b, 0, none⟩) 4 4, .slice (some ⟨w.heap.size + 1, 0, none⟩) 1 1]
    ((w.alloc (.cells #[.int .i64 0] 3)).alloc (.cells #[.slice (some ⟨w.heap.size, 0, none⟩) 1 1] 26)) fun e w' => e = .returned (.bool false) ∧ Hid (Below w.heap.size w w') := by
  have bb := two_new w (.cells #[.int .i64 0] 3) (.cells #[.slice (some ⟨w.heap.size, 0, none⟩) 1 1] 26)
  refine (refutes_any _ _ 4 4 fours (g.keep bb) _ 1 1 [[0]] (lit1 w [0] (fit_of rfl) (by decide)) (by decide) (by decide) (fun c hc => short4 hc) (by decide)).mono ?_
  rintro e w' ⟨t, rfl, ht, hb⟩
  obtain rfl := no_of ht.out ex3
  exact ⟨rfl, Below.next bb hb.out⟩

theorem aw4 (w : World) (b : Nat) (g : Grid w (some ⟨b, 0, none⟩) 4 4 fours) : Calls Try.prog 9 #[.slice (some ⟨b, 0, none⟩) 4 4, .slice (some ⟨w.heap.size + 1 + 1, 0, none⟩) 2 2]
    (((w.alloc (.cells #[.int .i64 0] 3)).alloc (.cells #[.int .i64 4] 3)).alloc (.cells #[.slice (some ⟨w.heap.size, 0, none⟩) 1 1, .slice (some ⟨w.heap.size + 1, 0, none⟩) 1 1] 26)) fun e w' => e = .returned (.int .i64 (-1)) ∧ Hid (Below w.heap.size w w') := by
  have bb := Below.next (two_new w (.cells #[.int .i64 0] 3) (.cells #[.int .i64 4] 3)) (one_new _ (.cells #[.slice (some ⟨w.heap.size, 0, none⟩) 1 1, .slice (some ⟨w.heap.size + 1, 0, none⟩) 1 1] 26))
  refine (check_any _ _ 4 4 fours (g.keep bb) _ 2 2 [[0], [4]] (lit2 w [0] [4] (fit_of rfl) (by decide) (fit_of rfl) (by decide)) (by decide) (by decide) (fun c hc => short4 hc) (by decide)).mono ?_
  rintro e w' ⟨t, rfl, ht, hb⟩
  obtain rfl := fst_same ht.out ex4
  exact ⟨rfl, Below.next bb hb.out⟩

theorem aw5 (w : World) (b : Nat) (g : Grid w (some ⟨b, 0, none⟩) 4 4 fours) : Calls Try.prog 9 #[.slice (some ⟨b, 0, none⟩) 3 4, .slice (some ⟨w.heap.size + 1 + 1, 0, none⟩) 2 2]
    (((w.alloc (.cells #[.int .i64 0] 3)).alloc (.cells #[.int .i64 4] 3)).alloc (.cells #[.slice (some ⟨w.heap.size, 0, none⟩) 1 1, .slice (some ⟨w.heap.size + 1, 0, none⟩) 1 1] 26)) fun e w' => e = .returned (.int .i64 1) ∧ Hid (Below w.heap.size w w') := by
  have bb := Below.next (two_new w (.cells #[.int .i64 0] 3) (.cells #[.int .i64 4] 3)) (one_new _ (.cells #[.slice (some ⟨w.heap.size, 0, none⟩) 1 1, .slice (some ⟨w.heap.size + 1, 0, none⟩) 1 1] 26))
  refine (check_any _ _ 3 4 [[0, 2], [0, 3], [1, 2]] ((g.take (j := 3) (by decide)).keep bb) _ 2 2 [[0], [4]] (lit2 w [0] [4] (fit_of rfl) (by decide) (fit_of rfl) (by decide)) (by decide) (by decide) (by decide) (by decide)).mono ?_
  rintro e w' ⟨t, rfl, ht, hb⟩
  obtain rfl := fst_same ht.out ex5
  exact ⟨rfl, Below.next bb hb.out⟩

theorem aw6 (w : World) (b : Nat) (g : Grid w (some ⟨b, 0, none⟩) 4 4 fours) : Calls Try.prog 7 #[.slice (some ⟨b, 0, none⟩) 4 4, .slice (some ⟨w.heap.size, 0, none⟩) 1 1]
    (w.alloc (.cells #[.int .i64 0] 3)) fun e w' => e = .returned (.bool true) ∧ Hid (Below w.heap.size w w') := by
  have bb := one_new w (.cells #[.int .i64 0] 3)
  refine (stepP_any _ _ 4 4 fours (g.keep bb) _ 1 1 [0] (rowL w [0] (fit_of rfl) (by decide)) (by decide) (by decide) (fun c hc => short4 hc)).mono ?_
  rintro e w' ⟨t, rfl, ht, hb⟩
  obtain rfl := yes_of ht.out (ex_a (by simp [fours]) (by simp [fours]))
  exact ⟨rfl, Below.next bb hb.out⟩

theorem aw7 (w : World) (b : Nat) (g : Grid w (some ⟨b, 0, none⟩) 4 4 fours) : Calls Try.prog 7 #[.slice (some ⟨b, 0, none⟩) 4 4, .slice none 0 0] w fun e w' => e = .returned (.bool false) ∧ Hid (Below w.heap.size w w') := by
  refine (stepP_any _ _ 4 4 fours g _ 0 0 [] (row_none w) (by decide) (by decide) (fun c hc => short4 hc)).mono ?_
  rintro e w' ⟨t, rfl, ht, hb⟩
  obtain rfl := no_of ht.out ex_c
  exact ⟨rfl, hb⟩

set_option maxHeartbeats 4000000 in
theorem awake_any (w : World) : Calls Try.prog 6 #[] w fun e w' => e = .returned (.bool true) ∧ Below w.heap.size w w' := by
  have hB := hid (Below.refl w.heap.size w)
  go_enter Try.func6, Try.ntmps6
  go_wp2_with (first
    | (go_at_call 15; with_reducible (refine (four_any _).mono ?_); rintro e w1 ⟨b, rfl, g, hb⟩; replace hB := hid (Below.next hB.out hb.out); clear hb)
    | (go_at_call 11; with_reducible (refine (aw1 _ _ g.out).mono ?_); rintro e w2 ⟨rfl, hb⟩; replace hB := hid (Below.next hB.out hb.out); clear hb g)
    | (go_at_call 11; with_reducible (refine (aw2 _ _ g.out).mono ?_); rintro e w2 ⟨rfl, hb⟩; replace hB := hid (Below.next hB.out hb.out); clear hb g)
    | (go_at_call 11; with_reducible (refine (aw3 _ _ g.out).mono ?_); rintro e w2 ⟨rfl, hb⟩; replace hB := hid (Below.next hB.out hb.out); clear hb g)
    | (go_at_call 9; with_reducible (refine (aw4 _ _ g.out).mono ?_); rintro e w2 ⟨rfl, hb⟩; replace hB := hid (Below.next hB.out hb.out); clear hb g)
    | (go_at_call 9; with_reducible (refine (aw5 _ _ g.out).mono ?_); rintro e w2 ⟨rfl, hb⟩; replace hB := hid (Below.next hB.out hb.out); clear hb g)
    | (go_at_call 7; with_reducible (refine (aw6 _ _ g.out).mono ?_); rintro e w2 ⟨rfl, hb⟩; replace hB := hid (Below.next hB.out hb.out); clear hb g)
    | (go_at_call 7; with_reducible (refine (aw7 _ _ g.out).mono ?_); rintro e w2 ⟨rfl, hb⟩; replace hB := hid (Below.next hB.out hb.out); clear hb g))
  go_ret
  exact ⟨rfl, hB.out⟩

end Go.Proofs.Ytdkkdfgaponlbaa
