/-
  The calls that make terms: Extract, Concat, Extend.
-/
import Derived.Test.YtefielnmlekhaaaDoorMkB
namespace Go.Proofs.YtefielnmlekhaaaDoor
open Go.RowKit Go.Maps
set_option linter.unusedVariables false
set_option maxRecDepth 100000

set_option maxHeartbeats 1000000 in
theorem extract_any {k : K} {w : World} {N : List Nd} {P : Nat → Prop} (s : Dg k w N P) (a lo q : Int) (bl : B64 lo) (bq : B64 q) :
    Calls Tryd.prog 15 #[.pointer (some ⟨k.DB, 0, none⟩), .int .i64 a, .int .i64 lo, .int .i64 q] w fun e w' => e = .returned (.tuple #[.int .i64 (resI k.M N (extP N a lo q)), .int .i64 (resE k.M N (extP N a lo q))]) ∧ Hid (MkEnd k N P (extP N a lo q) w w') := by
  have HS := hid s
  cases hi : isN N a
  · refine tells (q := .inl (0, 11)) (by simp only [extP, hi]; rfl) ?_
    have HI := hid hi
    clear s hi
    go_enter Tryd.func15, Tryd.ntmps15
    go_wp2_with (go_at_call 27; with_reducible (refine (has1 (N := N) (len_any (HS.out.below (by go_grown))) _ a (by simp)).mono ?_); rintro e w2 ⟨rfl, rfl⟩; rw [HI.out])
    go_ret2
    exact ⟨rfl, hid (end_no HS.out (by go_grown) 0 11)⟩
  · have HI := hid hi
    obtain ⟨x, hx⟩ : ∃ x, wdF N a = x := ⟨_, rfl⟩
    have hax := wdF_in s.1 hi
    rw [hx] at hax
    have ba := isN_bd s hi
    have HX := hid hx
    have bq' := bq.out
    have bl' := bl.out
    by_cases h1 : q < 1
    · refine tells (q := .inl (0, 2)) (by simp [extP, hi, h1]) ?_
      clear s hi hx
      go_enter Tryd.func15, Tryd.ntmps15
      go_wp2_with (go_at_call 27; with_reducible (refine (has1 (N := N) (len_any (HS.out.below (by go_grown))) _ a (by simp)).mono ?_); rintro e w2 ⟨rfl, rfl⟩; rw [HI.out])
      go_ret2
      exact ⟨rfl, hid (end_no HS.out (by go_grown) 0 2)⟩
    by_cases h2 : lo < 0
    · refine tells (q := .inl (0, 2)) (by simp [extP, hi, h2]) ?_
      clear s hi hx
      go_enter Tryd.func15, Tryd.ntmps15
      go_wp2_with (go_at_call 27; with_reducible (refine (has1 (N := N) (len_any (HS.out.below (by go_grown))) _ a (by simp)).mono ?_); rintro e w2 ⟨rfl, rfl⟩; rw [HI.out])
      go_ret2
      exact ⟨rfl, hid (end_no HS.out (by go_grown) 0 2)⟩
    by_cases h3 : x - q < lo
    · refine tells (q := .inl (0, 2)) (by simp [extP, hi, hx, h3]) ?_
      have h3' : decide (x - q < lo) = true := by simpa using h3
      clear s hi hx
      go_enter Tryd.func15, Tryd.ntmps15
      go_wp2_with (first
      | (go_at_call 27; with_reducible (refine (has1 (N := N) (len_any (HS.out.below (by go_grown))) _ a (by simp)).mono ?_); rintro e w2 ⟨rfl, rfl⟩; rw [HI.out])
      | (go_at_call 28; with_reducible (refine (width_is (HS.out.below (by go_grown)) a HX.out).mono ?_); rintro e w3 ⟨rfl, b3⟩; have c3 := hid (Below.next (show Below w.heap.size w _ by go_grown) b3.out); have s3 := hid (HS.out.below c3.out)))
      go_ret2
      exact ⟨rfl, hid (end_no HS.out c3.out 0 2)⟩
    · refine tells (q := .inr ⟨23, q, a, lo, 0, 0⟩) (by simp [extP, hi, hx, h3, h1, h2]) ?_
      have h3' : decide (x - q < lo) = false := by simpa using h3
      have HF : Hid (Ft ⟨23, q, a, lo, 0, 0⟩) := hid (ft_mk (by omega) (by omega) (by omega) (by omega) (by omega) (by omega))
      have HW : Hid (1 ≤ q ∧ q ≤ 64) := hid (by omega)
      clear s hi hx
      go_enter Tryd.func15, Tryd.ntmps15
      go_wp2_with (first
      | (go_at_call 27; with_reducible (refine (has1 (N := N) (len_any (HS.out.below (by go_grown))) _ a (by simp)).mono ?_); rintro e w2 ⟨rfl, rfl⟩; rw [HI.out])
      | (go_at_call 25; with_reducible (refine (num_at s3.out 23 q a lo 0 0 HF.out (by decide) HW.out).mono ?_); rintro e w9 ⟨rfl, h9⟩)
      | (go_at_call 28; with_reducible (refine (width_is (HS.out.below (by go_grown)) a HX.out).mono ?_); rintro e w3 ⟨rfl, b3⟩; have c3 := hid (Below.next (show Below w.heap.size w _ by go_grown) b3.out); have s3 := hid (HS.out.below c3.out)))
      go_ret2
      exact ⟨rfl, hid (end_yes c3.out h9.out)⟩

set_option maxHeartbeats 1000000 in
theorem concat_any {k : K} {w : World} {N : List Nd} {P : Nat → Prop} (s : Dg k w N P) (a b : Int) :
    Calls Tryd.prog 32 #[.pointer (some ⟨k.DB, 0, none⟩), .int .i64 a, .int .i64 b] w fun e w' => e = .returned (.tuple #[.int .i64 (resI k.M N (catP N a b)), .int .i64 (resE k.M N (catP N a b))]) ∧ Hid (MkEnd k N P (catP N a b) w w') := by
  have HS := hid s
  cases hi : (isN N a && isN N b)
  · refine tells (q := .inl (0, 11)) (by simp only [catP, hi]; rfl) ?_
    have HI := hid hi
    clear s hi
    go_enter Tryd.func32, Tryd.ntmps32
    go_wp2_with (go_at_call 27; with_reducible (refine (has2 (N := N) (len_any (HS.out.below (by go_grown))) _ a b (by simp) (by simp)).mono ?_); rintro e w2 ⟨rfl, rfl⟩; rw [HI.out])
    go_ret2
    exact ⟨rfl, hid (end_no HS.out (by go_grown) 0 11)⟩
  · have HI := hid hi
    obtain ⟨x, hx⟩ : ∃ x, wdF N a = x := ⟨_, rfl⟩
    obtain ⟨y, hy⟩ : ∃ y, wdF N b = y := ⟨_, rfl⟩
    have hax := wdF_in s.1 (both hi).1
    have hay := wdF_in s.1 (both hi).2
    rw [hx] at hax
    rw [hy] at hay
    have ba := isN_bd s (both hi).1
    have bb := isN_bd s (both hi).2
    have HX := hid hx
    have HY := hid hy
    by_cases h1 : 64 < x + y
    · refine tells (q := .inl (0, 2)) (by simp only [catP, hi, hx, hy]; simp [h1]) ?_
      clear s hi hx hy
      go_enter Tryd.func32, Tryd.ntmps32
      go_wp2_with (first
      | (go_at_call 27; with_reducible (refine (has2 (N := N) (len_any (HS.out.below (by go_grown))) _ a b (by simp) (by simp)).mono ?_); rintro e w2 ⟨rfl, rfl⟩; rw [HI.out])
      | (go_at_call 28; with_reducible (refine (width_is s3.out b HY.out).mono ?_); rintro e w4 ⟨rfl, b4⟩; have c4 := hid (Below.next c3.out b4.out); have s4 := hid (HS.out.below c4.out))
      | (go_at_call 28; with_reducible (refine (width_is (HS.out.below (by go_grown)) a HX.out).mono ?_); rintro e w3 ⟨rfl, b3⟩; have c3 := hid (Below.next (show Below w.heap.size w _ by go_grown) b3.out); have s3 := hid (HS.out.below c3.out)))
      go_ret2
      exact ⟨rfl, hid (end_no HS.out c4.out 0 2)⟩
    · refine tells (q := .inr ⟨24, x + y, a, b, 0, 0⟩) (by simp only [catP, hi, hx, hy]; simp [h1]) ?_
      have HF : Hid (Ft ⟨24, x + y, a, b, 0, 0⟩) := hid (ft_mk (by omega) (by omega) (by omega) (by omega) (by omega) (by omega))
      have HW : Hid (1 ≤ x + y ∧ x + y ≤ 64) := hid (by omega)
      have h1' : decide (64 < x + y) = false := by simpa using h1
      clear s hi hx hy
      go_enter Tryd.func32, Tryd.ntmps32
      go_wp2_with (first
      | (go_at_call 27; with_reducible (refine (has2 (N := N) (len_any (HS.out.below (by go_grown))) _ a b (by simp) (by simp)).mono ?_); rintro e w2 ⟨rfl, rfl⟩; rw [HI.out])
      | (go_at_call 25; with_reducible (refine (num_at s6.out 24 (x + y) a b 0 0 HF.out (by decide) HW.out).mono ?_); rintro e w9 ⟨rfl, h9⟩)
      | (go_at_call 28; with_reducible (refine (width_is s5.out b HY.out).mono ?_); rintro e w6 ⟨rfl, b6⟩; have c6 := hid (Below.next c5.out b6.out); have s6 := hid (HS.out.below c6.out))
      | (go_at_call 28; with_reducible (refine (width_is s4.out a HX.out).mono ?_); rintro e w5 ⟨rfl, b5⟩; have c5 := hid (Below.next c4.out b5.out); have s5 := hid (HS.out.below c5.out))
      | (go_at_call 28; with_reducible (refine (width_is s3.out b HY.out).mono ?_); rintro e w4 ⟨rfl, b4⟩; have c4 := hid (Below.next c3.out b4.out); have s4 := hid (HS.out.below c4.out))
      | (go_at_call 28; with_reducible (refine (width_is (HS.out.below (by go_grown)) a HX.out).mono ?_); rintro e w3 ⟨rfl, b3⟩; have c3 := hid (Below.next (show Below w.heap.size w _ by go_grown) b3.out); have s3 := hid (HS.out.below c3.out)))
      go_ret2
      exact ⟨rfl, hid (end_yes c6.out h9.out)⟩

set_option maxHeartbeats 1000000 in
theorem extend_any {k : K} {w : World} {N : List Nd} {P : Nat → Prop} (s : Dg k w N P) (a q : Int) (sg : Bool) :
    Calls Tryd.prog 33 #[.pointer (some ⟨k.DB, 0, none⟩), .int .i64 a, .int .i64 q, .bool sg] w fun e w' => e = .returned (.tuple #[.int .i64 (resI k.M N (widP N a q sg)), .int .i64 (resE k.M N (widP N a q sg))]) ∧ Hid (MkEnd k N P (widP N a q sg) w w') := by
  have HS := hid s
  cases hi : isN N a
  · refine tells (q := .inl (0, 11)) (by simp only [widP, hi]; rfl) ?_
    have HI := hid hi
    clear s hi
    go_enter Tryd.func33, Tryd.ntmps33
    go_wp2_with (go_at_call 27; with_reducible (refine (has1 (N := N) (len_any (HS.out.below (by go_grown))) _ a (by simp)).mono ?_); rintro e w2 ⟨rfl, rfl⟩; rw [HI.out])
    go_ret2
    exact ⟨rfl, hid (end_no HS.out (by go_grown) 0 11)⟩
  · have HI := hid hi
    obtain ⟨x, hx⟩ : ∃ x, wdF N a = x := ⟨_, rfl⟩
    have hax := wdF_in s.1 hi
    rw [hx] at hax
    have ba := isN_bd s hi
    have HX := hid hx
    by_cases h1 : q < x
    · refine tells (q := .inl (0, 2)) (by simp [widP, hi, hx, h1]) ?_
      clear s hi hx
      go_enter Tryd.func33, Tryd.ntmps33
      go_wp2_with (first
      | (go_at_call 27; with_reducible (refine (has1 (N := N) (len_any (HS.out.below (by go_grown))) _ a (by simp)).mono ?_); rintro e w2 ⟨rfl, rfl⟩; rw [HI.out])
      | (go_at_call 28; with_reducible (refine (width_is (HS.out.below (by go_grown)) a HX.out).mono ?_); rintro e w3 ⟨rfl, b3⟩; have c3 := hid (Below.next (show Below w.heap.size w _ by go_grown) b3.out); have s3 := hid (HS.out.below c3.out)))
      go_ret2
      exact ⟨rfl, hid (end_no HS.out c3.out 0 2)⟩
    by_cases h2 : 64 < q
    · refine tells (q := .inl (0, 2)) (by simp [widP, hi, hx, h2]) ?_
      clear s hi hx
      go_enter Tryd.func33, Tryd.ntmps33
      go_wp2_with (first
      | (go_at_call 27; with_reducible (refine (has1 (N := N) (len_any (HS.out.below (by go_grown))) _ a (by simp)).mono ?_); rintro e w2 ⟨rfl, rfl⟩; rw [HI.out])
      | (go_at_call 28; with_reducible (refine (width_is (HS.out.below (by go_grown)) a HX.out).mono ?_); rintro e w3 ⟨rfl, b3⟩; have c3 := hid (Below.next (show Below w.heap.size w _ by go_grown) b3.out); have s3 := hid (HS.out.below c3.out)))
      go_ret2
      exact ⟨rfl, hid (end_no HS.out c3.out 0 2)⟩
    by_cases h3 : q = x
    · subst h3
      refine tells (q := .inl (a, 0)) (by simp [widP, hi, hx, h2]) ?_
      clear s hi hx
      go_enter Tryd.func33, Tryd.ntmps33
      go_wp2_with (first
      | (go_at_call 27; with_reducible (refine (has1 (N := N) (len_any (HS.out.below (by go_grown))) _ a (by simp)).mono ?_); rintro e w2 ⟨rfl, rfl⟩; rw [HI.out])
      | (go_at_call 28; with_reducible (refine (width_is s3.out a HX.out).mono ?_); rintro e w4 ⟨rfl, b4⟩; have c4 := hid (Below.next c3.out b4.out); have s4 := hid (HS.out.below c4.out))
      | (go_at_call 28; with_reducible (refine (width_is (HS.out.below (by go_grown)) a HX.out).mono ?_); rintro e w3 ⟨rfl, b3⟩; have c3 := hid (Below.next (show Below w.heap.size w _ by go_grown) b3.out); have s3 := hid (HS.out.below c3.out)))
      go_ret2
      exact ⟨rfl, hid (end_no HS.out c4.out a 0)⟩
    have hq : (q == x) = false := by simpa using h3
    have hw0 : 1 ≤ q ∧ q ≤ 64 := by omega
    have HW := hid hw0
    cases sg
    · refine tells (q := .inr ⟨25, q, a, 0, 0, 0⟩) (by simp [widP, hi, hx, h1, h2, h3]) ?_
      have HF : Hid (Ft ⟨25, q, a, 0, 0, 0⟩) := hid (ft_mk (by omega) (by omega) (by omega) (by omega) (by omega) (by omega))
      clear s hi hx hw0
      go_enter Tryd.func33, Tryd.ntmps33
      go_wp2_with (first
      | (go_at_call 27; with_reducible (refine (has1 (N := N) (len_any (HS.out.below (by go_grown))) _ a (by simp)).mono ?_); rintro e w2 ⟨rfl, rfl⟩; rw [HI.out])
      | (go_at_call 25; with_reducible (refine (num_at s4.out 25 q a 0 0 0 HF.out (by decide) HW.out).mono ?_); rintro e w9 ⟨rfl, h9⟩)
      | (go_at_call 28; with_reducible (refine (width_is s3.out a HX.out).mono ?_); rintro e w4 ⟨rfl, b4⟩; have c4 := hid (Below.next c3.out b4.out); have s4 := hid (HS.out.below c4.out))
      | (go_at_call 28; with_reducible (refine (width_is (HS.out.below (by go_grown)) a HX.out).mono ?_); rintro e w3 ⟨rfl, b3⟩; have c3 := hid (Below.next (show Below w.heap.size w _ by go_grown) b3.out); have s3 := hid (HS.out.below c3.out)))
      go_ret2
      exact ⟨rfl, hid (end_yes c4.out h9.out)⟩
    · refine tells (q := .inr ⟨26, q, a, 0, 0, 0⟩) (by simp [widP, hi, hx, h1, h2, h3]) ?_
      have HF : Hid (Ft ⟨26, q, a, 0, 0, 0⟩) := hid (ft_mk (by omega) (by omega) (by omega) (by omega) (by omega) (by omega))
      clear s hi hx hw0
      go_enter Tryd.func33, Tryd.ntmps33
      go_wp2_with (first
      | (go_at_call 27; with_reducible (refine (has1 (N := N) (len_any (HS.out.below (by go_grown))) _ a (by simp)).mono ?_); rintro e w2 ⟨rfl, rfl⟩; rw [HI.out])
      | (go_at_call 25; with_reducible (refine (num_at s4.out 26 q a 0 0 0 HF.out (by decide) HW.out).mono ?_); rintro e w9 ⟨rfl, h9⟩)
      | (go_at_call 28; with_reducible (refine (width_is s3.out a HX.out).mono ?_); rintro e w4 ⟨rfl, b4⟩; have c4 := hid (Below.next c3.out b4.out); have s4 := hid (HS.out.below c4.out))
      | (go_at_call 28; with_reducible (refine (width_is (HS.out.below (by go_grown)) a HX.out).mono ?_); rintro e w3 ⟨rfl, b3⟩; have c3 := hid (Below.next (show Below w.heap.size w _ by go_grown) b3.out); have s3 := hid (HS.out.below c3.out)))
      go_ret2
      exact ⟨rfl, hid (end_yes c4.out h9.out)⟩
end Go.Proofs.YtefielnmlekhaaaDoor
