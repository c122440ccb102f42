/-
  output, New, And, Or.
-/
import Derived.Test.YtifecnnkkbpglaaGa
namespace Go.Proofs.Ytifecnnkkbpglaa
open Go.RowKit
set_option linter.unusedVariables false

set_option maxHeartbeats 1000000 in
theorem output_any {B : BT} {gb n : Nat} {cs : List (List Int)} (w : World) (h : Gt B gb w n cs) (hn : n ≤ 10000) :
    Calls Try.prog 13 #[.pointer (some ⟨gb, 0, none⟩)] w fun e w' => ∃ cb y, e = .returned (.tuple #[.int .i64 y, .func (.func 35) #[] #[.pointer (some ⟨cb, 0, none⟩)]]) ∧ Hid (y = 2 * (n : Int)) ∧ 0 ≤ y ∧ y ≤ 9223372036854775807 ∧ Hid (Gt B gb w' (n + 1) cs) ∧ Hid (Bx w' cb gb) ∧ Hid (FG B w w') := by
  have b1 : Below w.heap.size w (w.alloc (.cells #[.pointer (some ⟨gb, 0, none⟩)] 27)) := (Below.refl _ _).alloc (Nat.le_refl _) _
  have G1 := hid (h.below b1)
  have hx : Bx (w.alloc (.cells #[.pointer (some ⟨gb, 0, none⟩)] 27)) w.heap.size gb := new_same _ _
  have HX := hid hx
  obtain ⟨v, c0, c1, f0, f1, ho⟩ := G1.out.cells
  have HN := hid hn
  have hb := hid b1
  clear h hx ho c1 f1 b1 hn
  go_enter Try.func13, Try.ntmps13
  go_wp2_with (go_at_call 15; with_reducible (refine (input_any gb n _ c0 f0 (Nat.le_trans HN.out (by omega))).mono ?_); rintro e w2 ⟨rfl, rfl⟩)
  go_ret2
  obtain ⟨q1, q2⟩ := G1.out.var
  exact ⟨_, _, rfl, rfl, by omega, by have := HN.out; omega, hid q1, hid (HX.out.fg q2), hid ((FG.below hb.out).trans q2)⟩

theorem row_none (w : World) : Row w none 0 0 [] := ⟨rfl, Nat.le_refl _, by unfold maxLen; omega, fun _ => rfl, fun x hx => by simp at hx, fun h => by omega⟩

theorem row_two (w : World) (a b : Int) (h0 : -9223372036854775808 ≤ a ∧ a ≤ 9223372036854775807) (h1 : -9223372036854775808 ≤ b ∧ b ≤ 9223372036854775807) : Row (w.alloc (.cells #[.int .i64 a, .int .i64 b] 3)) (some ⟨w.heap.size, 0, none⟩) 2 2 [a, b] := by
  refine ⟨rfl, Nat.le_refl _, by unfold maxLen; omega, fun h => by simp at h, fun x hx => ?_, fun _ => ⟨_, _, rfl, fun j hj => ?_⟩⟩
  · simp only [List.mem_cons, List.not_mem_nil, or_false] at hx
    rcases hx with rfl | rfl
    · exact h0
    · exact h1
  · rw [cell_of (new_same w _)]
    match j, hj with
    | 0, _ => rfl
    | 1, _ => rfl

theorem row_three (w : World) (a b c : Int) (h0 : -9223372036854775808 ≤ a ∧ a ≤ 9223372036854775807) (h1 : -9223372036854775808 ≤ b ∧ b ≤ 9223372036854775807) (h2 : -9223372036854775808 ≤ c ∧ c ≤ 9223372036854775807) : Row (w.alloc (.cells #[.int .i64 a, .int .i64 b, .int .i64 c] 3)) (some ⟨w.heap.size, 0, none⟩) 3 3 [a, b, c] := by
  refine ⟨rfl, Nat.le_refl _, by unfold maxLen; omega, fun h => by simp at h, fun x hx => ?_, fun _ => ⟨_, _, rfl, fun j hj => ?_⟩⟩
  · simp only [List.mem_cons, List.not_mem_nil, or_false] at hx
    rcases hx with rfl | rfl | rfl
    · exact h0
    · exact h1
    · exact h2
  · rw [cell_of (new_same w _)]
    match j, hj with
    | 0, _ => rfl
    | 1, _ => rfl
    | 2, _ => rfl

theorem rng_fit {n : Nat} {x : Int} (h : rng n x) (hn : n ≤ 10000) : -9223372036854775808 ≤ x ∧ x ≤ 9223372036854775807 := by unfold rng at h; omega

theorem have_two (w : World) (p : Value) (n : Nat) (hp : Vq w p n) (hn : n ≤ 10000) (a b : Int) (h0 : -9223372036854775808 ≤ a ∧ a ≤ 9223372036854775807) (h1 : -9223372036854775808 ≤ b ∧ b ≤ 9223372036854775807) :
    Calls Try.prog 56 #[p, .slice (some ⟨w.heap.size, 0, none⟩) 2 2] (w.alloc (.cells #[.int .i64 a, .int .i64 b] 3)) fun e w' => e = .returned (.bool (haveF n [a, b])) ∧ Hid (Below w.heap.size w w') := by
  have b1 : Below w.heap.size w (w.alloc (.cells #[.int .i64 a, .int .i64 b] 3)) := (Below.refl _ _).alloc (Nat.le_refl _) _
  refine (have_any _ p n (hp.keep b1) (by omega) _ 2 2 [a, b] (row_two w a b h0 h1)).mono ?_
  rintro e w' ⟨he, hb⟩
  exact ⟨he, hid (Below.next b1 hb.out)⟩

theorem have_three (w : World) (p : Value) (n : Nat) (hp : Vq w p n) (hn : n ≤ 10000) (a b c : Int) (h0 : -9223372036854775808 ≤ a ∧ a ≤ 9223372036854775807) (h1 : -9223372036854775808 ≤ b ∧ b ≤ 9223372036854775807) (h2 : -9223372036854775808 ≤ c ∧ c ≤ 9223372036854775807) :
    Calls Try.prog 56 #[p, .slice (some ⟨w.heap.size, 0, none⟩) 3 3] (w.alloc (.cells #[.int .i64 a, .int .i64 b, .int .i64 c] 3)) fun e w' => e = .returned (.bool (haveF n [a, b, c])) ∧ Hid (Below w.heap.size w w') := by
  have b1 : Below w.heap.size w (w.alloc (.cells #[.int .i64 a, .int .i64 b, .int .i64 c] 3)) := (Below.refl _ _).alloc (Nat.le_refl _) _
  refine (have_any _ p n (hp.keep b1) (by omega) _ 3 3 [a, b, c] (row_three w a b c h0 h1 h2)).mono ?_
  rintro e w' ⟨he, hb⟩
  exact ⟨he, hid (Below.next b1 hb.out)⟩

theorem add_two {B : BT} {gb cb n : Nat} {cs : List (List Int)} (w : World) (h : Gt B gb w n cs) (hb : Bx w cb gb) (hl : cs.length ≤ 100000) (x a b : Int) (hx : -9223372036854775808 ≤ x ∧ x ≤ 9223372036854775807) (h0 : -9223372036854775808 ≤ a ∧ a ≤ 9223372036854775807) (h1 : -9223372036854775808 ≤ b ∧ b ≤ 9223372036854775807) :
    Calls Try.prog 35 #[.int .i64 x, .slice (some ⟨w.heap.size, 0, none⟩) 2 2, .pointer (some ⟨cb, 0, none⟩)] (w.alloc (.cells #[.int .i64 a, .int .i64 b] 3)) fun e w' => e = .returned (.tuple #[]) ∧ Hid (Gt B gb w' n (cs ++ [clF x [a, b]])) ∧ Hid (Bx w' cb gb) ∧ Hid (FG B w w') := by
  have b1 : Below w.heap.size w (w.alloc (.cells #[.int .i64 a, .int .i64 b] 3)) := (Below.refl _ _).alloc (Nat.le_refl _) _
  refine (add_any _ (h.below b1) (hb.below b1) hl x hx.1 hx.2 _ 2 2 [a, b] (row_two w a b h0 h1) (by omega)).mono ?_
  rintro e w' ⟨he, h1, h2⟩
  exact ⟨he, h1, hid ((hb.below b1).fg h2.out), hid ((FG.below b1).trans h2.out)⟩

theorem add_one {B : BT} {gb cb n : Nat} {cs : List (List Int)} (w : World) (h : Gt B gb w n cs) (hb : Bx w cb gb) (hl : cs.length ≤ 100000) (x a : Int) (hx : -9223372036854775808 ≤ x ∧ x ≤ 9223372036854775807) (h0 : -9223372036854775808 ≤ a ∧ a ≤ 9223372036854775807) :
    Calls Try.prog 35 #[.int .i64 x, .slice (some ⟨w.heap.size, 0, none⟩) 1 1, .pointer (some ⟨cb, 0, none⟩)] (w.alloc (.cells #[.int .i64 a] 3)) fun e w' => e = .returned (.tuple #[]) ∧ Hid (Gt B gb w' n (cs ++ [clF x [a]])) ∧ Hid (Bx w' cb gb) ∧ Hid (FG B w w') := by
  have b1 : Below w.heap.size w (w.alloc (.cells #[.int .i64 a] 3)) := (Below.refl _ _).alloc (Nat.le_refl _) _
  refine (add_any _ (h.below b1) (hb.below b1) hl x hx.1 hx.2 _ 1 1 [a] (row_one w a h0.1 h0.2) (by omega)).mono ?_
  rintro e w' ⟨he, h1, h2⟩
  exact ⟨he, h1, hid ((hb.below b1).fg h2.out), hid ((FG.below b1).trans h2.out)⟩

set_option maxHeartbeats 1000000 in
/-- New. -/
theorem new_any (w : World) : Calls Try.prog 7 #[] w fun e w' => ∃ gb, e = .returned (.pointer (some ⟨gb, 0, none⟩)) ∧ Hid (Gt ⟨w.heap.size, fun _ => False⟩ gb w' 1 [[0]]) ∧ Hid (FG ⟨w.heap.size, fun _ => False⟩ w w') := by
  have h1 : Gt ⟨w.heap.size, fun _ => False⟩ w.heap.size (w.alloc (.cells #[.int .i64 0, .slice none 0 0] 47)) 0 [] := ⟨Nat.le_refl _, fun b h => h.elim, _, new_same _ _, OwnC.nil _ _⟩
  have b1 : Below w.heap.size w (w.alloc (.cells #[.int .i64 0, .slice none 0 0] 47)) := (Below.refl _ _).alloc (Nat.le_refl _) _
  have HG := hid h1
  have HF : Hid (FG ⟨w.heap.size, fun _ => False⟩ w (w.alloc (.cells #[.int .i64 0, .slice none 0 0] 47))) := hid (FG.below b1)
  have hl0 : ([] : List (List Int)).length ≤ 100000 := by simp
  clear h1 b1
  go_enter Try.func7, Try.ntmps7
  go_wp2_with (first
    | (go_at_call 13; with_reducible (refine (output_any _ HG.out (by omega)).mono ?_); rintro e w1 ⟨cb, y, rfl, hy, y0, y1, g1, x1, f1⟩; have ym : -9223372036854775808 ≤ y := (by omega))
    | (go_at_call 35; with_reducible (refine (add_any _ g1.out x1.out hl0 _ ym y1 none 0 0 [] (row_none _) (by omega)).mono ?_); rintro e w2 ⟨rfl, g2, f2⟩))
  go_ret
  refine ⟨_, rfl, hid ?_, hid ((HF.out.trans f1.out).trans f2.out)⟩
  have := g2.out
  rw [hy.out] at this
  exact this

end Go.Proofs.Ytifecnnkkbpglaa
