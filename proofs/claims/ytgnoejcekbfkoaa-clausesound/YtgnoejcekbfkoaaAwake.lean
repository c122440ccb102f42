/-
  The chapter's examples, as the statements ask them.
-/
import Derived.Test.YtgnoejcekbfkoaaRres
namespace Go.Proofs.Ytgnoejcekbfkoaa
open Go.RowKit
set_option linter.unusedVariables false

theorem rowL (w : World) (xs : List Int) (hx : Fit xs) (hl : xs.length ≤ 1000) : Row (w.alloc (.cells (xs.map (Value.int .i64)).toArray 3)) (some ⟨w.heap.size, 0, none⟩) xs.length xs.length xs := by
  refine ⟨rfl, Nat.le_refl _, by unfold maxLen; omega, fun h => by simp at h, hx, fun _ => ⟨_, _, rfl, fun j hj => ?_⟩⟩
  rw [Nat.zero_add, cell_of_row _ _ _ _ _ _ (heap_alloc_new w _)]
  simp [hj]

theorem bL (w : World) (o : Obj) : Below w.heap.size w (w.alloc o) := (Below.refl _ _).alloc (Nat.le_refl _) _

theorem row2 (w : World) (xs ys : List Int) (hx : Fit xs) (hy : Fit ys) (hl : xs.length ≤ 1000) (hm : ys.length ≤ 1000) :
    Row ((w.alloc (.cells (xs.map (Value.int .i64)).toArray 3)).alloc (.cells (ys.map (Value.int .i64)).toArray 3)) (some ⟨w.heap.size, 0, none⟩) xs.length xs.length xs ∧
    Row ((w.alloc (.cells (xs.map (Value.int .i64)).toArray 3)).alloc (.cells (ys.map (Value.int .i64)).toArray 3)) (some ⟨w.heap.size + 1, 0, none⟩) ys.length ys.length ys := by
  refine ⟨(rowL w xs hx hl).keep (bL _ _), ?_⟩
  have := rowL (w.alloc (.cells (xs.map (Value.int .i64)).toArray 3)) ys hy hm
  simpa using this

theorem fit_of {xs : List Int} (h : xs.all (fun x => decide (-9223372036854775808 ≤ x ∧ x ≤ 9223372036854775807)) = true) : Fit xs := by
  intro x hx
  have := List.all_eq_true.1 h x hx
  simpa using this

theorem noB : ∀ w, IsBools w none 0 0 (fun _ => false) := fun w => .inl ⟨rfl, rfl, rfl⟩

theorem aw1 (w : World) : Calls Try.prog 18 #[.slice (some { block := w.heap.size, off := 0 }) 2 2, .slice (some { block := w.heap.size + 1, off := 0 }) 2 2, .int .i64 0] ((w.alloc (.cells #[.int .i64 0, .int .i64 2] 3)).alloc (.cells #[.int .i64 1, .int .i64 4] 3))
    fun e w' => ∃ co k c, e = .returned (.tuple #[.slice co k c, .int .i64 0]) ∧ Hid (Row w' co k c [2, 4]) ∧ Below w.heap.size w w' := by
  have r := row2 w [0, 2] [1, 4] (fit_of rfl) (fit_of rfl) (by decide) (by decide)
  refine (resolve_any _ _ 2 2 2 2 [0, 2] [1, 4] 0 _ r.1 r.2 (by decide) (by decide)).mono ?_
  rintro e w' ⟨co, k, c, rfl, hr, hb⟩
  exact ⟨co, k, c, by rfl, hr, Below.next (Below.next (bL _ _) (bL _ _)) hb⟩

theorem aw2 (w : World) : Calls Try.prog 18 #[.slice (some { block := w.heap.size, off := 0 }) 1 1, .slice (some { block := w.heap.size + 1, off := 0 }) 2 2, .int .i64 0] ((w.alloc (.cells #[.int .i64 2] 3)).alloc (.cells #[.int .i64 1, .int .i64 4] 3))
    fun e w' => ∃ co k c, e = .returned (.tuple #[.slice co k c, .int .i64 9]) ∧ Below w.heap.size w w' := by
  have r := row2 w [2] [1, 4] (fit_of rfl) (fit_of rfl) (by decide) (by decide)
  refine (resolve_any _ _ 1 2 1 2 [2] [1, 4] 0 _ r.1 r.2 (by decide) (by decide)).mono ?_
  rintro e w' ⟨co, k, c, rfl, hr, hb⟩
  exact ⟨co, k, c, by rfl, Below.next (Below.next (bL _ _) (bL _ _)) hb⟩

theorem aw3 (w : World) : Calls Try.prog 9 #[.slice (some { block := w.heap.size, off := 0 }) 4 4] (w.alloc (.cells #[.int .i64 4, .int .i64 2, .int .i64 4, .int .i64 3] 3))
    fun e w' => ∃ co k c, e = .returned (.tuple #[.slice co k c, .bool true, .int .i64 0]) ∧ Hid (Row w' co k c [2, 3, 4]) ∧ Below w.heap.size w w' := by
  refine (normal_any _ 4 4 [4, 2, 4, 3] _ (rowL w [4, 2, 4, 3] (fit_of rfl) (by decide)) (by decide)).mono ?_
  rintro e w' ⟨co, k, c, rfl, hr, hb⟩
  exact ⟨co, k, c, by rfl, hr, Below.next (bL _ _) hb⟩

theorem aw4 (w : World) : Calls Try.prog 9 #[.slice (some { block := w.heap.size, off := 0 }) 1 1] (w.alloc (.cells #[.int .i64 (-1)] 3))
    fun e w' => ∃ co k c, e = .returned (.tuple #[.slice co k c, .bool false, .int .i64 10]) ∧ Below w.heap.size w w' := by
  refine (normal_any _ 1 1 [-1] _ (rowL w [-1] (fit_of rfl) (by decide)) (by decide)).mono ?_
  rintro e w' ⟨co, k, c, rfl, hr, hb⟩
  exact ⟨co, k, c, by rfl, Below.next (bL _ _) hb⟩

theorem aw5 (w : World) (co : Option Addr) (k c : Nat) (h : Row w co k c [2, 4]) : Calls Try.prog 11 #[.slice co k c, .slice (some { block := w.heap.size, off := 0 }) 2 2] (w.alloc (.cells #[.int .i64 2, .int .i64 4] 3))
    fun e w' => e = .returned (.bool true) ∧ Below w.heap.size w w' := by
  refine (same_any _ _ _ 2 _ 2 [2, 4] [2, 4] _ (h.keep (bL _ _)) (rowL w [2, 4] (fit_of rfl) (by decide))).mono ?_
  rintro e w' ⟨rfl, hb⟩
  exact ⟨by rfl, Below.next (bL _ _) hb⟩

theorem aw6 (w : World) (co : Option Addr) (k c : Nat) (h : Row w co k c [2, 3, 4]) : Calls Try.prog 11 #[.slice co k c, .slice (some { block := w.heap.size, off := 0 }) 3 3] (w.alloc (.cells #[.int .i64 2, .int .i64 3, .int .i64 4] 3))
    fun e w' => e = .returned (.bool true) ∧ Below w.heap.size w w' := by
  refine (same_any _ _ _ 3 _ 3 [2, 3, 4] [2, 3, 4] _ (h.keep (bL _ _)) (rowL w [2, 3, 4] (fit_of rfl) (by decide))).mono ?_
  rintro e w' ⟨rfl, hb⟩
  exact ⟨by rfl, Below.next (bL _ _) hb⟩

theorem aw7 (w : World) : Calls Try.prog 12 #[.slice (some { block := w.heap.size, off := 0 }) 2 2, .slice none 0 0] (w.alloc (.cells #[.int .i64 0, .int .i64 3] 3))
    fun e w' => e = .returned (.bool true) ∧ Below w.heap.size w w' := by
  refine (holdsC_any _ 2 2 [0, 3] _ (rowL w [0, 3] (fit_of rfl) (by decide)) none 0 0 _ (noB _)).mono ?_
  rintro e w' ⟨rfl, hb⟩
  exact ⟨by rfl, Below.next (bL _ _) hb⟩

theorem aw8 (w : World) : Calls Try.prog 12 #[.slice none 0 0, .slice none 0 0] w fun e w' => e = .returned (.bool false) ∧ Below w.heap.size w w' :=
  holdsC_any none 0 0 [] w (row_nil w) none 0 0 _ (noB _)

theorem aw9 (w : World) : Calls Try.prog 14 #[.slice (some { block := w.heap.size, off := 0 }) 1 1, .int .i64 5] (w.alloc (.cells #[.int .i64 5] 3))
    fun e w' => e = .returned (.bool true) ∧ Below w.heap.size w w' := by
  refine (has_any _ 1 1 [5] 5 _ (rowL w [5] (fit_of rfl) (by decide))).mono ?_
  rintro e w' ⟨rfl, rfl⟩
  exact ⟨by rfl, bL _ _⟩

theorem aw10 (w : World) : Calls Try.prog 16 #[.slice (some { block := w.heap.size, off := 0 }) 1 1, .slice (some { block := w.heap.size + 1, off := 0 }) 2 2] ((w.alloc (.cells #[.int .i64 5] 3)).alloc (.cells #[.int .i64 4, .int .i64 5] 3))
    fun e w' => e = .returned (.bool true) ∧ Below w.heap.size w w' := by
  have r := row2 w [5] [4, 5] (fit_of rfl) (fit_of rfl) (by decide) (by decide)
  refine (within_any _ _ 1 2 1 2 [5] [4, 5] _ r.1 r.2 (by decide)).mono ?_
  rintro e w' ⟨rfl, hb⟩
  exact ⟨by rfl, Below.next (Below.next (bL _ _) (bL _ _)) hb⟩

theorem aw11 (w : World) : Calls Try.prog 16 #[.slice (some { block := w.heap.size, off := 0 }) 1 1, .slice none 0 0] (w.alloc (.cells #[.int .i64 5] 3))
    fun e w' => e = .returned (.bool false) ∧ Below w.heap.size w w' := by
  refine (within_any _ _ 1 0 1 0 [5] [] _ (rowL w [5] (fit_of rfl) (by decide)) (row_nil _) (by decide)).mono ?_
  rintro e w' ⟨rfl, hb⟩
  exact ⟨by rfl, Below.next (bL _ _) hb⟩

set_option maxHeartbeats 4000000 in
theorem awake_any (w : World) : Calls Try.prog 8 #[] w fun e w' => e = .returned (.bool true) ∧ Below w.heap.size w w' := by
  go_enter Try.func8, Try.ntmps8
  go_wp2_with (
    first
    | (go_at_call 18; with_reducible (refine (aw1 _).mono ?_); rintro e w1 ⟨a1, k1, c1, rfl, r1, hb1⟩)
    | (go_at_call 18; with_reducible (refine (aw2 _).mono ?_); rintro e w2 ⟨a2, k2, c2, rfl, hb2⟩)
    | (go_at_call 9; with_reducible (refine (aw3 _).mono ?_); rintro e w3 ⟨a3, k3, c3, rfl, r3, hb3⟩)
    | (go_at_call 9; with_reducible (refine (aw4 _).mono ?_); rintro e w4 ⟨a4, k4, c4, rfl, hb4⟩)
    | (go_at_call 11; with_reducible (refine (aw5 _ _ _ _ (r1.out.keep (Below.next (Below.next hb2 hb3) hb4))).mono ?_); rintro e w5 ⟨rfl, hb5⟩)
    | (go_at_call 11; with_reducible (refine (aw6 _ _ _ _ (r3.out.keep (Below.next hb4 hb5))).mono ?_); rintro e w6 ⟨rfl, hb6⟩)
    | (go_at_call 12; with_reducible (refine (aw7 _).mono ?_); rintro e w7 ⟨rfl, hb7⟩)
    | (go_at_call 12; with_reducible (refine (aw8 _).mono ?_); rintro e w8 ⟨rfl, hb8⟩)
    | (go_at_call 14; with_reducible (refine (aw9 _).mono ?_); rintro e w9 ⟨rfl, hb9⟩)
    | (go_at_call 16; with_reducible (refine (aw10 _).mono ?_); rintro e wx ⟨rfl, hbx⟩)
    | (go_at_call 16; with_reducible (refine (aw11 _).mono ?_); rintro e wy ⟨rfl, hby⟩))
  go_ret
  exact ⟨rfl, Below.next (Below.next (Below.next (Below.next (Below.next (Below.next (Below.next (Below.next (Below.next (Below.next hb1 hb2) hb3) hb4) hb5) hb6) hb7) hb8) hb9) hbx) hby⟩

end Go.Proofs.Ytgnoejcekbfkoaa
