/-
  The calls that make terms: Binary, Ite.
-/
import Derived.Test.YtefielnmlekhaaaDoorMkA
namespace Go.Proofs.YtefielnmlekhaaaDoor
open Go.RowKit Go.Maps
set_option linter.unusedVariables false
set_option maxRecDepth 100000

theorem ft_mk {op wd a b c v : Int} (h0 : -9223372036854775808 ≤ op ∧ op ≤ 9223372036854775807) (h1 : -9223372036854775808 ≤ wd ∧ wd ≤ 9223372036854775807) (h2 : -9223372036854775808 ≤ a ∧ a ≤ 9223372036854775807) (h3 : -9223372036854775808 ≤ b ∧ b ≤ 9223372036854775807) (h4 : -9223372036854775808 ≤ c ∧ c ≤ 9223372036854775807) (h5 : 0 ≤ v ∧ v < 18446744073709551616) : Ft ⟨op, wd, a, b, c, v⟩ := ⟨h0, h1, h2, h3, h4, h5⟩
theorem isN_bd {k : K} {w : World} {N : List Nd} {P : Nat → Prop} (s : Dg k w N P) {a : Int} (h : isN N a = true) : 0 ≤ a ∧ a ≤ 65536 := by
  obtain ⟨_, _, _, r⟩ := s
  obtain ⟨i, rfl, hi⟩ := isN_yes h
  have := r.len; have := r.hM; omega
theorem both {a b : Bool} (h : (a && b) = true) : a = true ∧ b = true := by simpa using h

set_option maxHeartbeats 1000000 in
theorem binary_any {k : K} {w : World} {N : List Nd} {P : Nat → Prop} (s : Dg k w N P) (op a b : Int) :
    Calls Tryd.prog 14 #[.pointer (some ⟨k.DB, 0, none⟩), .int .i64 op, .int .i64 a, .int .i64 b] w fun e w' => e = .returned (.tuple #[.int .i64 (resI k.M N (binP N op a b)), .int .i64 (resE k.M N (binP N op a b))]) ∧ Hid (MkEnd k N P (binP N op a b) w w') := by
  have HS := hid s
  by_cases h1 : op < 1
  · refine tells (q := .inl (0, 3)) (by simp [binP, h1]) ?_
    clear s
    go_enter Tryd.func14, Tryd.ntmps14
    go_wp2
    go_ret2
    exact ⟨rfl, hid (end_no HS.out (Below.refl _ _) 0 3)⟩
  by_cases h2 : 14 < op
  · refine tells (q := .inl (0, 3)) (by simp [binP, h2]) ?_
    clear s
    go_enter Tryd.func14, Tryd.ntmps14
    go_wp2
    go_ret2
    exact ⟨rfl, hid (end_no HS.out (Below.refl _ _) 0 3)⟩
  have d1 : (decide (op < 1) || decide (14 < op)) = false := by simp; omega
  cases hi : (isN N a && isN N b)
  · refine tells (q := .inl (0, 11)) (by simp only [binP, d1, hi]; rfl) ?_
    have HI := hid hi
    clear s hi d1
    go_enter Tryd.func14, Tryd.ntmps14
    go_wp2_with (go_at_call 27; with_reducible (refine (has2 (N := N) (len_any (HS.out.below (by go_grown))) _ a b (by simp) (by simp)).mono ?_); rintro e w2 ⟨rfl, rfl⟩; rw [HI.out])
    go_ret2
    exact ⟨rfl, hid (end_no HS.out (by go_grown) 0 11)⟩
  · have HI := hid hi
    obtain ⟨x, hx⟩ : ∃ x, wdF N a = x := ⟨_, rfl⟩
    obtain ⟨y, hy⟩ : ∃ y, wdF N b = y := ⟨_, rfl⟩
    have hax := wdF_in s.1 (both hi).1
    have ba := isN_bd s (both hi).1
    have bb := isN_bd s (both hi).2
    by_cases hxy : x = y
    · subst hxy
      refine tells (q := .inr ⟨op, opW op x, a, b, 0, 0⟩) (by simp only [binP, d1, hi, hx, hy]; simp) ?_
      rw [hx] at hax
      have hW : 1 ≤ opW op x ∧ opW op x ≤ 64 := by unfold opW; split <;> omega
      have HF : Hid (Ft ⟨op, opW op x, a, b, 0, 0⟩) := hid ⟨⟨by simp; omega, by simp; omega⟩, ⟨by simp; omega, by simp; omega⟩, ⟨by simp; omega, by simp; omega⟩, ⟨by simp; omega, by simp; omega⟩, b_zero, u_zero⟩
      have HW := hid hW
      have HX := hid hx
      have HY := hid hy
      have h21 : Hid (op ≠ 21) := hid (by omega)
      have o1 : 1 ≤ op := by omega
      have o2 : op ≤ 14 := by omega
      clear s hi d1 hx hy hax ba bb hW h1 h2
      go_enter Tryd.func14, Tryd.ntmps14
      go_wp2_with (first
      | (go_at_call 27; with_reducible (refine (has2 (N := N) (len_any (HS.out.below (by go_grown))) _ a b (by simp) (by simp)).mono ?_); rintro e w2 ⟨rfl, rfl⟩; rw [HI.out])
      | (go_at_call 29; with_reducible (refine (widthOf_any _ _ _ o1 o2).mono ?_); rintro e w6 ⟨rfl, rfl⟩)
      | (go_at_call 25; with_reducible (refine (num_at s5.out op (opW op x) a b 0 0 HF.out h21.out HW.out).mono ?_); rintro e w9 ⟨rfl, h9⟩)
      | (go_at_call 28; with_reducible (refine (width_is s4.out a HX.out).mono ?_); rintro e w5 ⟨rfl, b5⟩; have c5 := hid (Below.next c4.out b5.out); have s5 := hid (HS.out.below c5.out))
      | (go_at_call 28; with_reducible (refine (width_is s3.out b HY.out).mono ?_); rintro e w4 ⟨rfl, b4⟩; have c4 := hid (Below.next c3.out b4.out); have s4 := hid (HS.out.below c4.out))
      | (go_at_call 28; with_reducible (refine (width_is (HS.out.below (by go_grown)) a HX.out).mono ?_); rintro e w3 ⟨rfl, b3⟩; have c3 := hid (Below.next (show Below w.heap.size w _ by go_grown) b3.out); have s3 := hid (HS.out.below c3.out)))
      go_ret2
      exact ⟨rfl, hid (end_yes c5.out h9.out)⟩
    · refine tells (q := .inl (0, 2)) (by simp only [binP, d1, hi, hx, hy]; simp [hxy]) ?_
      have HX := hid hx
      have HY := hid hy
      have hne : (x != y) = true := by simpa using hxy
      clear s hi d1 hx hy hax ba bb
      go_enter Tryd.func14, Tryd.ntmps14
      go_wp2_with (first
      | (go_at_call 27; with_reducible (refine (has2 (N := N) (len_any (HS.out.below (by go_grown))) _ a b (by simp) (by simp)).mono ?_); rintro e w2 ⟨rfl, rfl⟩; rw [HI.out])
      | (go_at_call 28; with_reducible (refine (width_is s3.out b HY.out).mono ?_); rintro e w4 ⟨rfl, b4⟩; have c4 := hid (Below.next c3.out b4.out); have s4 := hid (HS.out.below c4.out))
      | (go_at_call 28; with_reducible (refine (width_is (HS.out.below (by go_grown)) a HX.out).mono ?_); rintro e w3 ⟨rfl, b3⟩; have c3 := hid (Below.next (show Below w.heap.size w _ by go_grown) b3.out); have s3 := hid (HS.out.below c3.out)))
      go_ret2
      exact ⟨rfl, hid (end_no HS.out c4.out 0 2)⟩

set_option maxHeartbeats 1000000 in
theorem ite_any {k : K} {w : World} {N : List Nd} {P : Nat → Prop} (s : Dg k w N P) (c a b : Int) :
    Calls Tryd.prog 31 #[.pointer (some ⟨k.DB, 0, none⟩), .int .i64 c, .int .i64 a, .int .i64 b] w fun e w' => e = .returned (.tuple #[.int .i64 (resI k.M N (iteP N c a b)), .int .i64 (resE k.M N (iteP N c a b))]) ∧ Hid (MkEnd k N P (iteP N c a b) w w') := by
  have HS := hid s
  cases hi : (isN N c && (isN N a && isN N b))
  · refine tells (q := .inl (0, 11)) (by simp only [iteP, hi]; rfl) ?_
    have HI := hid hi
    clear s hi
    go_enter Tryd.func31, Tryd.ntmps31
    go_wp2_with (go_at_call 27; with_reducible (refine (has3 (N := N) (len_any (HS.out.below (by go_grown))) _ c a b (by simp) (by simp) (by simp)).mono ?_); rintro e w2 ⟨rfl, rfl⟩; rw [HI.out])
    go_ret2
    exact ⟨rfl, hid (end_no HS.out (by go_grown) 0 11)⟩
  · have HI := hid hi
    obtain ⟨z, hz⟩ : ∃ z, wdF N c = z := ⟨_, rfl⟩
    obtain ⟨x, hx⟩ : ∃ x, wdF N a = x := ⟨_, rfl⟩
    obtain ⟨y, hy⟩ : ∃ y, wdF N b = y := ⟨_, rfl⟩
    have hax := wdF_in s.1 (both (both hi).2).1
    have bc := isN_bd s (both hi).1
    have ba := isN_bd s (both (both hi).2).1
    have bb := isN_bd s (both (both hi).2).2
    have HX := hid hx
    have HY := hid hy
    have HZ := hid hz
    by_cases hz1 : z = 1
    · by_cases hxy : x = y
      · subst hxy hz1
        refine tells (q := .inr ⟨22, x, c, a, b, 0⟩) (by simp only [iteP, hi, hx, hy, hz]; simp) ?_
        rw [hx] at hax
        have HF : Hid (Ft ⟨22, x, c, a, b, 0⟩) := hid (ft_mk (by omega) (by omega) (by omega) (by omega) (by omega) (by omega))
        have HW := hid hax
        clear s hi hx hy hz hax ba bb bc
        go_enter Tryd.func31, Tryd.ntmps31
        go_wp2_with (first
      | (go_at_call 27; with_reducible (refine (has3 (N := N) (len_any (HS.out.below (by go_grown))) _ c a b (by simp) (by simp) (by simp)).mono ?_); rintro e w2 ⟨rfl, rfl⟩; rw [HI.out])
      | (go_at_call 25; with_reducible (refine (num_at s6.out 22 x c a b 0 HF.out (by decide) HW.out).mono ?_); rintro e w9 ⟨rfl, h9⟩)
      | (go_at_call 28; with_reducible (refine (width_is s5.out a HX.out).mono ?_); rintro e w6 ⟨rfl, b6⟩; have c6 := hid (Below.next c5.out b6.out); have s6 := hid (HS.out.below c6.out))
      | (go_at_call 28; with_reducible (refine (width_is s4.out b HY.out).mono ?_); rintro e w5 ⟨rfl, b5⟩; have c5 := hid (Below.next c4.out b5.out); have s5 := hid (HS.out.below c5.out))
      | (go_at_call 28; with_reducible (refine (width_is s3.out a HX.out).mono ?_); rintro e w4 ⟨rfl, b4⟩; have c4 := hid (Below.next c3.out b4.out); have s4 := hid (HS.out.below c4.out))
      | (go_at_call 28; with_reducible (refine (width_is (HS.out.below (by go_grown)) c HZ.out).mono ?_); rintro e w3 ⟨rfl, b3⟩; have c3 := hid (Below.next (show Below w.heap.size w _ by go_grown) b3.out); have s3 := hid (HS.out.below c3.out)))
        go_ret2
        exact ⟨rfl, hid (end_yes c6.out h9.out)⟩
      · subst hz1
        refine tells (q := .inl (0, 2)) (by simp only [iteP, hi, hx, hy, hz]; simp [hxy]) ?_
        have hne : (x != y) = true := by simpa using hxy
        clear s hi hx hy hz hax ba bb bc
        go_enter Tryd.func31, Tryd.ntmps31
        go_wp2_with (first
      | (go_at_call 27; with_reducible (refine (has3 (N := N) (len_any (HS.out.below (by go_grown))) _ c a b (by simp) (by simp) (by simp)).mono ?_); rintro e w2 ⟨rfl, rfl⟩; rw [HI.out])
      | (go_at_call 28; with_reducible (refine (width_is s4.out b HY.out).mono ?_); rintro e w5 ⟨rfl, b5⟩; have c5 := hid (Below.next c4.out b5.out); have s5 := hid (HS.out.below c5.out))
      | (go_at_call 28; with_reducible (refine (width_is s3.out a HX.out).mono ?_); rintro e w4 ⟨rfl, b4⟩; have c4 := hid (Below.next c3.out b4.out); have s4 := hid (HS.out.below c4.out))
      | (go_at_call 28; with_reducible (refine (width_is (HS.out.below (by go_grown)) c HZ.out).mono ?_); rintro e w3 ⟨rfl, b3⟩; have c3 := hid (Below.next (show Below w.heap.size w _ by go_grown) b3.out); have s3 := hid (HS.out.below c3.out)))
        go_ret2
        exact ⟨rfl, hid (end_no HS.out c5.out 0 2)⟩
    · refine tells (q := .inl (0, 2)) (by simp only [iteP, hi, hx, hy, hz]; simp [hz1]) ?_
      have hne : (z != 1) = true := by simpa using hz1
      clear s hi hx hy hz hax ba bb bc
      go_enter Tryd.func31, Tryd.ntmps31
      go_wp2_with (first
      | (go_at_call 27; with_reducible (refine (has3 (N := N) (len_any (HS.out.below (by go_grown))) _ c a b (by simp) (by simp) (by simp)).mono ?_); rintro e w2 ⟨rfl, rfl⟩; rw [HI.out])
      | (go_at_call 28; with_reducible (refine (width_is (HS.out.below (by go_grown)) c HZ.out).mono ?_); rintro e w3 ⟨rfl, b3⟩; have c3 := hid (Below.next (show Below w.heap.size w _ by go_grown) b3.out); have s3 := hid (HS.out.below c3.out)))
      go_ret2
      exact ⟨rfl, hid (end_no HS.out c3.out 0 2)⟩
end Go.Proofs.YtefielnmlekhaaaDoor
