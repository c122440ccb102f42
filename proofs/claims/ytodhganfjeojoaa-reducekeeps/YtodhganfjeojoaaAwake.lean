/-
  awake: the chapter's example, and others.
-/
import Derived.Test.YtodhganfjeojoaaKeep
namespace Go.Proofs.Ytodhganfjeojoaa
open Go.RowKit Go.Sort
set_option linter.unusedVariables false

def awD (j : Nat) : Dd := match j with
  | 0 => ⟨9, 5, 0⟩
  | 1 => ⟨9, 3, 0⟩
  | _ => ⟨9, 4, 0⟩
abbrev awO : Obj := .cells #[.int .i64 9, .int .i64 5, .int .i64 0, .int .i64 9, .int .i64 3, .int .i64 0, .int .i64 9, .int .i64 4, .int .i64 0] 26
def awB (j : Nat) : Bool := match j with
  | 0 => false
  | _ => true

section
variable {w W w2 : World} {g : Nat}

theorem aw_deeds (h : Below (w.alloc awO).heap.size (w.alloc awO) W) : Deeds W (some ⟨w.heap.size, 0, none⟩) 3 awD := by
  have hn := new_same w awO
  have c : ∀ j v, (#[.int .i64 9, .int .i64 5, .int .i64 0, .int .i64 9, .int .i64 3, .int .i64 0, .int .i64 9, .int .i64 4, .int .i64 0] : Array Value)[j]? = some v → W.cell? ⟨w.heap.size, j, none⟩ = some v := fun j v hv => by
    have hc : (w.alloc awO).cell? ⟨w.heap.size, j, none⟩ = some v := (cell_of hn).trans hv
    exact (h.cell (cell_lt hc)).trans hc
  intro _
  refine ⟨w.heap.size, 0, rfl, fun j hj => ?_⟩
  match j, hj with
  | 0, _ => exact ⟨c 0 _ rfl, c 1 _ rfl, c 2 _ rfl⟩
  | 1, _ => exact ⟨c 3 _ rfl, c 4 _ rfl, c 5 _ rfl⟩
  | 2, _ => exact ⟨c 6 _ rfl, c 7 _ rfl, c 8 _ rfl⟩

theorem aw_six (h : Below (w.alloc awO).heap.size (w.alloc awO) W) : W.cell? ⟨w.heap.size, 0, none⟩ = some (.int .i64 9) ∧ W.cell? ⟨w.heap.size, 1, none⟩ = some (.int .i64 5) ∧ W.cell? ⟨w.heap.size, 2, none⟩ = some (.int .i64 0) ∧ W.cell? ⟨w.heap.size, 3, none⟩ = some (.int .i64 9) ∧ W.cell? ⟨w.heap.size, 4, none⟩ = some (.int .i64 3) ∧ W.cell? ⟨w.heap.size, 5, none⟩ = some (.int .i64 0) := by
  obtain ⟨b, off, e, hc⟩ := aw_deeds h (by decide)
  cases e
  obtain ⟨a0, a1, a2⟩ := hc 0 (by decide)
  obtain ⟨b0, b1, b2⟩ := hc 1 (by decide)
  exact ⟨a0, a1, a2, b0, b1, b2⟩

theorem aw_same : ∀ j, j < 3 → keepF 3 awD j = awB j := fun j hj => by
  match j, hj with
  | 0, _ => decide
  | 1, _ => decide
  | 2, _ => decide

theorem aw_keep (h : Below (w.alloc awO).heap.size (w.alloc awO) W) : Calls Try.prog 9 #[.slice (some ⟨w.heap.size, 0, none⟩) 3 3] W fun e w' => ∃ g, e = .returned (.slice (some ⟨g, 0, none⟩) 3 3) ∧ Hid (Bls w' g 3 awB) ∧ Hid (Below (w.alloc awO).heap.size (w.alloc awO) w') ∧ Hid (Below W.heap.size W w') := by
  refine (keep_is (cap := 3) (aw_deeds h) (by decide)).mono ?_
  rintro e w' ⟨g, rfl, hB, hb⟩
  exact ⟨g, rfl, hid (hB.out.of aw_same), hid (Below.next h hb.out), hb⟩

theorem aw_new (W : World) : Bls (W.alloc (.cells #[.bool false, .bool true, .bool true] 4)) W.heap.size 3 awB := by
  have hn := new_same W (.cells #[.bool false, .bool true, .bool true] 4)
  intro j hj
  rw [cell_of hn]
  match j, hj with
  | 0, _ => rfl
  | 1, _ => rfl
  | 2, _ => rfl

theorem aw_two (h : Below (w.alloc awO).heap.size (w.alloc awO) w2) (hB : Bls w2 g 3 awB) : Calls Try.prog 8 #[.slice (some ⟨g, 0, none⟩) 3 3, .slice (some ⟨w2.heap.size, 0, none⟩) 3 3] (w2.alloc (.cells #[.bool false, .bool true, .bool true] 4)) fun e w' => e = .returned (.bool true) ∧ Hid (Below (w.alloc awO).heap.size (w.alloc awO) w') := by
  have b : Below w2.heap.size w2 (w2.alloc (.cells #[.bool false, .bool true, .bool true] 4)) := (Below.refl _ _).alloc (Nat.le_refl _) _
  refine (bools_same g _ 3 3 3 awB _ (hB.below b) (aw_new w2) (by decide)).mono ?_
  rintro e w' ⟨rfl, hb⟩
  exact ⟨rfl, hid (Below.next (Below.next h b) hb.out)⟩

theorem aw_back (h : Below (w.alloc awO).heap.size (w.alloc awO) w2) (hB : Bls w2 g 3 awB) (hC : Bls w2 (w.heap.size + 1) 3 awB) : Calls Try.prog 8 #[.slice (some ⟨g, 0, none⟩) 3 3, .slice (some ⟨w.heap.size + 1, 0, none⟩) 3 3] w2 fun e w' => e = .returned (.bool true) ∧ Hid (Below (w.alloc awO).heap.size (w.alloc awO) w') := by
  refine (bools_same g _ 3 3 3 awB _ hB hC (by decide)).mono ?_
  rintro e w' ⟨rfl, hb⟩
  exact ⟨rfl, hid (Below.next h hb.out)⟩

theorem aw_b1 (h : Below (w.alloc awO).heap.size (w.alloc awO) W) : Calls Try.prog 6 #[.agg #[.int .i64 9, .int .i64 3, .int .i64 0], .agg #[.int .i64 9, .int .i64 5, .int .i64 0]] W fun e w' => e = .returned (.bool true) ∧ Hid (Below (w.alloc awO).heap.size (w.alloc awO) w') :=
  (better_is ⟨9, 3, 0⟩ ⟨9, 5, 0⟩ W).mono fun e w' ⟨h1, h2⟩ => ⟨h1, hid (Below.next h h2.out.below)⟩
theorem aw_b2 (h : Below (w.alloc awO).heap.size (w.alloc awO) W) : Calls Try.prog 6 #[.agg #[.int .i64 9, .int .i64 5, .int .i64 0], .agg #[.int .i64 9, .int .i64 5, .int .i64 0]] W fun e w' => e = .returned (.bool false) ∧ Hid (Below (w.alloc awO).heap.size (w.alloc awO) w') :=
  (better_is ⟨9, 5, 0⟩ ⟨9, 5, 0⟩ W).mono fun e w' ⟨h1, h2⟩ => ⟨h1, hid (Below.next h h2.out.below)⟩
theorem aw_b3 (h : Below (w.alloc awO).heap.size (w.alloc awO) W) : Calls Try.prog 6 #[.agg #[.int .i64 0, .int .i64 0, .int .i64 2], .agg #[.int .i64 0, .int .i64 0, .int .i64 1]] W fun e w' => e = .returned (.bool true) ∧ Hid (Below (w.alloc awO).heap.size (w.alloc awO) w') :=
  (better_is ⟨0, 0, 2⟩ ⟨0, 0, 1⟩ W).mono fun e w' ⟨h1, h2⟩ => ⟨h1, hid (Below.next h h2.out.below)⟩
theorem aw_nil (h : Below (w.alloc awO).heap.size (w.alloc awO) W) : Calls Try.prog 9 #[.slice none 0 0] W fun e w' => ∃ g, e = .returned (.slice (some ⟨g, 0, none⟩) 0 0) ∧ Hid (Below (w.alloc awO).heap.size (w.alloc awO) w') := by
  refine (keep_is (cap := 0) (D := awD) (n := 0) (ao := none) (fun c => absurd c (by decide)) (by decide)).mono ?_
  rintro e w' ⟨g, rfl, hB, hb⟩
  exact ⟨g, rfl, hid (Below.next h hb.out)⟩

theorem aw_here (w : World) : Bls ((w.alloc awO).alloc (.cells #[.bool false, .bool true, .bool true] 4)).drew (w.heap.size + 1) 3 awB := by
  have h := aw_new (w.alloc awO)
  have e : (w.alloc awO).heap.size = w.heap.size + 1 := by show (w.heap.push _).size = _; rw [Array.size_push]
  rw [e] at h
  exact h

theorem aw_low (w : World) : Below (w.alloc awO).heap.size (w.alloc awO) ((w.alloc awO).alloc (.cells #[.bool false, .bool true, .bool true] 4)).drew := ((Below.refl _ _).alloc (Nat.le_refl _) _).drew

set_option maxHeartbeats 4000000 in
theorem awake_is (w : World) : Calls Try.prog 5 #[] w fun e w' => e = .returned (.bool true) ∧ Hid (Below w.heap.size w w') := by
  have HZ : Hid (∀ W, Below (w.alloc awO).heap.size (w.alloc awO) W → Below w.heap.size w W) := hid (fun W h => Below.next ((Below.refl _ _).alloc (Nat.le_refl _) _) h)
  have B0 : Hid (Below (w.alloc awO).heap.size (w.alloc awO) (w.alloc awO).drew) := hid (below_drew _)
  have C0 := hid (aw_low w)
  have HC := hid (aw_here w)
  go_enter Try.func5, Try.ntmps5
  go_wp2_with fail
  go_region_held3 (fun W => W.cell? ⟨w.heap.size, 0, none⟩ = some (.int .i64 9) ∧ W.cell? ⟨w.heap.size, 1, none⟩ = some (.int .i64 5) ∧ W.cell? ⟨w.heap.size, 2, none⟩ = some (.int .i64 0) ∧ W.cell? ⟨w.heap.size, 3, none⟩ = some (.int .i64 9) ∧ W.cell? ⟨w.heap.size, 4, none⟩ = some (.int .i64 3) ∧ W.cell? ⟨w.heap.size, 5, none⟩ = some (.int .i64 0)) (first | exact aw_six B0.out | exact aw_six C0.out | exact aw_six b7.out | exact aw_six b6.out | exact aw_six b5.out | exact aw_six b4.out | exact aw_six b3.out | exact aw_six b1.out | exact aw_six (Below.next b1.out ((Below.refl _ _).alloc (Nat.le_refl _) _))) (first
    | (go_at_call 9; with_reducible (refine (aw_keep B0.out).mono ?_); rintro e w2 ⟨g, rfl, hB, b1, b2⟩)
    | (go_at_call 9; with_reducible (refine (aw_keep C0.out).mono ?_); rintro e w2 ⟨g, rfl, hB, b1, b2⟩; have hC := hid (HC.out.below b2.out))
    | (go_at_call 9; with_reducible (refine (aw_nil b6.out).mono ?_); rintro e w7 ⟨gn, rfl, b7⟩)
    | (go_at_call 8; with_reducible (refine (aw_two b1.out hB.out).mono ?_); rintro e w3 ⟨rfl, b3⟩)
    | (go_at_call 8; with_reducible (refine (aw_back b1.out hB.out hC.out).mono ?_); rintro e w3 ⟨rfl, b3⟩)
    | (go_at_call 6; with_reducible (refine (aw_b1 b3.out).mono ?_); rintro e w4 ⟨rfl, b4⟩)
    | (go_at_call 6; with_reducible (refine (aw_b2 b4.out).mono ?_); rintro e w5 ⟨rfl, b5⟩)
    | (go_at_call 6; with_reducible (refine (aw_b3 b5.out).mono ?_); rintro e w6 ⟨rfl, b6⟩))
  all_goals go_wp2_with fail
  all_goals go_ret
  all_goals exact ⟨rfl, hid (HZ.out _ b7.out)⟩
end

end Go.Proofs.Ytodhganfjeojoaa
