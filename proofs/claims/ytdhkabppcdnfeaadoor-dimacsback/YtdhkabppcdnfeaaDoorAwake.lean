/-
  The chapter's example, and the others that the statements ask.
-/
import Derived.Test.YtdhkabppcdnfeaaDoorReads
import Derived.Test.YtdhkabppcdnfeaaDoorPuts
import Derived.Test.YtdhkabppcdnfeaaDoorAll
namespace Go.Proofs.YtdhkabppcdnfeaaDoor
open Go.RowKit
open Go.Lib (decDigits itoa)
set_option linter.unusedVariables false

/-! ### Lists that are written out -/
theorem rowL (w : World) (xs : List Int) (hx : Fit xs) (hl : xs.length ≤ 1000) : Row (w.alloc (.cells (xs.map (Value.int .i64)).toArray 3)) (some ⟨w.heap.size, 0, none⟩) xs.length xs.length xs := by
  refine ⟨rfl, Nat.le_refl _, by unfold maxLen; omega, fun h => by simp at h, hx, fun _ => ⟨_, _, rfl, fun j hj => ?_⟩⟩
  rw [Nat.zero_add, cell_of_row _ _ _ _ _ _ (heap_alloc_new w _)]
  simp [hj]

theorem fit_of {xs : List Int} (h : xs.all (fun x => decide (-9223372036854775808 ≤ x ∧ x ≤ 9223372036854775807)) = true) : Fit xs := by
  intro x hx
  have := List.all_eq_true.1 h x hx
  simpa using this

theorem grid1 (w : World) (a : Option Addr) (n c : Nat) (xs : List Int) (h : Row w a n c xs) : Grid (w.alloc (.cells #[.slice a n c] 37)) (some ⟨w.heap.size, 0, none⟩) 1 1 [xs] := by
  refine ⟨rfl, Nat.le_refl _, by unfold maxLen; omega, fun h => by simp at h, fun _ => ⟨_, _, rfl, fun j hj => ?_⟩⟩
  obtain rfl : j = 0 := by omega
  exact ⟨a, n, c, by simp, h.keep (one_new _ _)⟩

theorem grid2 (w : World) (a a' : Option Addr) (n c n' c' : Nat) (xs ys : List Int) (h : Row w a n c xs) (h' : Row w a' n' c' ys) : Grid (w.alloc (.cells #[.slice a n c, .slice a' n' c'] 37)) (some ⟨w.heap.size, 0, none⟩) 2 2 [xs, ys] := by
  refine ⟨rfl, Nat.le_refl _, by unfold maxLen; omega, fun h => by simp at h, fun _ => ⟨_, _, rfl, fun j hj => ?_⟩⟩
  match j, hj with
  | 0, _ => exact ⟨a, n, c, by simp, h.keep (one_new _ _)⟩
  | 1, _ => exact ⟨a', n', c', by simp, h'.keep (one_new _ _)⟩

theorem row0 (w : World) (a : Addr) : Row w (some a) 0 0 [] := ⟨rfl, Nat.le_refl _, by unfold maxLen; omega, (fun h => by cases h), (fun x hx => by simp at hx), (fun h => by omega)⟩

/-- The first list of the examples, and where it lies. -/
theorem ex_one (w : World) : Grid ((w.alloc (.cells #[.int .i64 0, .int .i64 3] 3)).alloc (.cells #[.slice (some ⟨w.heap.size, 0, none⟩) 2 2] 37)) (some ⟨w.heap.size + 1, 0, none⟩) 1 1 [[0, 3]] := by
  have h := grid1 _ _ _ _ [0, 3] (rowL w [0, 3] (fit_of (by decide)) (by decide))
  have e : (w.alloc (.cells #[.int .i64 0, .int .i64 3] 3)).heap.size = w.heap.size + 1 := by simp
  rw [← e]; exact h

theorem ex_two (w : World) : Grid (((w.alloc (.cells #[] 3)).alloc (.cells #[.int .i64 5, .int .i64 0] 3)).alloc (.cells #[.slice (some ⟨w.heap.size, 0, none⟩) 0 0, .slice (some ⟨w.heap.size + 1, 0, none⟩) 2 2] 37)) (some ⟨w.heap.size + 1 + 1, 0, none⟩) 2 2 [[], [5, 0]] := by
  have r := rowL (w.alloc (.cells #[] 3)) [5, 0] (fit_of (by decide)) (by decide)
  have e1 : (w.alloc (.cells #[] 3)).heap.size = w.heap.size + 1 := by simp
  rw [e1] at r
  have h := grid2 _ _ _ _ _ _ _ [] [5, 0] (row0 _ ⟨w.heap.size, 0, none⟩) r
  have e : ((w.alloc (.cells #[] 3)).alloc (.cells #[.int .i64 5, .int .i64 0] 3)).heap.size = w.heap.size + 1 + 1 := by simp
  rw [← e]; exact h

theorem dec1 {n : Nat} (h : n < 10) : decDigits n = [UInt8.ofNat (48 + n)] := Go.Lib.decDigits_one h

theorem text_one : textT 2 [[0, 3]] = [112, 32, 99, 110, 102, 32, 50, 32, 49, 10, 49, 32, 45, 50, 32, 48, 10] := by
  have a : itoa (numF 0) = [49] := by show itoa 1 = _; unfold Go.Lib.itoa; rw [if_neg (by omega)]; exact dec1 (n := 1) (by omega)
  have b : itoa (numF 3) = [45, 50] := by show itoa (-2) = _; unfold Go.Lib.itoa; rw [if_pos (by omega)]; show 45 :: decDigits 2 = _; rw [dec1 (by omega)]; rfl
  simp only [textT, headT, kindT, List.flatMap_cons, List.flatMap_nil, clT, litT, a, b, List.length_cons, List.length_nil]
  rw [dec1 (by omega), dec1 (by omega)]
  rfl

theorem text_two : textT 3 [[], [5, 0]] = [112, 32, 99, 110, 102, 32, 51, 32, 50, 10, 48, 10, 45, 51, 32, 49, 32, 48, 10] := by
  have a : itoa (numF 0) = [49] := by show itoa 1 = _; unfold Go.Lib.itoa; rw [if_neg (by omega)]; exact dec1 (n := 1) (by omega)
  have b : itoa (numF 5) = [45, 51] := by show itoa (-3) = _; unfold Go.Lib.itoa; rw [if_pos (by omega)]; show 45 :: decDigits 3 = _; rw [dec1 (by omega)]; rfl
  simp only [textT, headT, kindT, List.flatMap_cons, List.flatMap_nil, clT, litT, a, b, List.length_cons, List.length_nil]
  rw [dec1 (by omega), dec1 (by omega)]
  rfl

theorem read_one : readP [112, 32, 99, 110, 102, 32, 51, 32, 50, 10, 48, 10, 45, 51, 32, 49, 32, 48, 10] = some (3, [[], [5, 0]]) := by decide +kernel
theorem read_two : readP [112, 32, 99, 110, 102, 32, 51, 32, 50, 10, 48, 10, 45, 51, 32, 49, 32, 48] = none := by decide +kernel
theorem read_three : readP [112, 32, 99, 110, 102, 32, 48, 51, 32, 48, 10] = none := by decide +kernel

theorem put_ex (w : World) (hT : PT w) : Calls Tryd.prog 8 #[.int .i64 2, .slice (some ⟨w.heap.size + 1, 0, none⟩) 1 1] ((w.alloc (.cells #[.int .i64 0, .int .i64 3] 3)).alloc (.cells #[.slice (some ⟨w.heap.size, 0, none⟩) 2 2] 37))
    fun e w' => e = .returned (.tuple #[.string ⟨#[112, 32, 99, 110, 102, 32, 50, 32, 49, 10, 49, 32, 45, 50, 32, 48, 10]⟩, .int .i64 0]) ∧ Hid (Below w.heap.size w w') := by
  have b1 := one_new w (.cells #[.int .i64 0, .int .i64 3] 3)
  have b2 := Below.next b1 (one_new _ (.cells #[.slice (some ⟨w.heap.size, 0, none⟩) 2 2] 37))
  refine (Put_ok 2 _ 1 1 [[0, 3]] _ (ex_one w) (hT.keep b2) (by decide) (by rw [text_one]; decide)).mono fun e w' ⟨he, hb⟩ => ⟨?_, Below.next b2 hb.out⟩
  rw [he, text_one]

set_option maxHeartbeats 4000000 in
theorem awake_any (w : World) (hT : PT w) (hE : ErrT w) : Calls Tryd.prog 7 #[] w fun e w' => e = .returned (.bool true) ∧ Hid (Below w.heap.size w w') := by
  have HT := hid hT
  have HE := hid hE
  clear hT hE
  go_enter Tryd.func7, Tryd.ntmps7
  go_wp2_with (first
    | (go_at_call 8; refine (put_ex w HT.out).mono ?_; rintro e w1 ⟨rfl, hb1⟩)
    | (go_at_call 10; first
      | (with_reducible (refine (Read_ok [112, 32, 99, 110, 102, 32, 51, 32, 50, 10, 48, 10, 45, 51, 32, 49, 32, 48, 10] 3 [[], [5, 0]] _ (by decide) read_one).mono ?_); rintro e w2 ⟨ao, cap, rfl, hg2, hb2⟩)
      | (with_reducible (refine (Read_bad [112, 32, 99, 110, 102, 32, 51, 32, 50, 10, 48, 10, 45, 51, 32, 49, 32, 48] _ (by decide) read_two ((HE.out.keep hb1.out).keep hb2.out)).mono ?_); rintro e w3 ⟨rfl, hb3⟩)
      | (with_reducible (refine (Read_bad [112, 32, 99, 110, 102, 32, 48, 51, 32, 48, 10] _ (by decide) read_three (((HE.out.keep hb1.out).keep hb2.out).keep hb3.out)).mono ?_); rintro e w4 ⟨rfl, hb4⟩))
    | (go_at_call 12; refine (all_any _ _ 2 2 _ _ [[], [5, 0]] [[], [5, 0]] _ ((((hg2.out.keep hb3.out).keep hb4.out).keep (one_new _ _)).keep (one_new _ _) |>.keep (one_new _ _)) (ex_two w4)).mono ?_; rintro e w5 ⟨rfl, hb5⟩))
  go_ret
  have b4 := Below.next (Below.next (Below.next hb1.out hb2.out) hb3.out) hb4.out
  exact ⟨rfl, Below.next (Below.next (Below.next (Below.next b4 (one_new _ _)) (one_new _ _)) (one_new _ _)) hb5.out⟩

end Go.Proofs.YtdhkabppcdnfeaaDoor
