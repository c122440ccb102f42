/- What the reference's Binary and Unary return, for every input of their kinds. -/
import Derived.Test.YtjaaicaejbbhbaaRbin
namespace Go.Proofs.Ytjaaicaejbbhbaa
open Go.RowKit
set_option linter.unusedVariables false

theorem rbinary_yes (op : Int) (n : Nat) (x y : Int) (w : World) (g1 : 1 ≤ op) (g2 : op ≤ 14) (hn1 : 1 ≤ n) (hn2 : n ≤ 64) (x0 : 0 ≤ x) (x1 : x < 18446744073709551616) (y0 : 0 ≤ y) (y1 : y < 18446744073709551616) :
    Calls Try.prog 17 #[.int .i64 op, .int .i64 n, .int .u64 x, .int .u64 y] w fun e w' => e = .returned (.tuple #[.int .u64 (cutF n (rawF op n (cutF n x) (cutF n y))), .int .i64 0]) ∧ w' = w := by
  have h : op = 1 ∨ op = 2 ∨ op = 3 ∨ op = 4 ∨ op = 5 ∨ op = 6 ∨ op = 7 ∨ op = 8 ∨ op = 9 ∨ op = 10 ∨ op = 11 ∨ op = 12 ∨ op = 13 ∨ op = 14 := by omega
  rcases h with rfl | rfl | rfl | rfl | rfl | rfl | rfl | rfl | rfl | rfl | rfl | rfl | rfl | rfl
  · exact rbinary_1 n x y w hn1 hn2 x0 x1 y0 y1
  · exact rbinary_2 n x y w hn1 hn2 x0 x1 y0 y1
  · exact rbinary_3 n x y w hn1 hn2 x0 x1 y0 y1
  · by_cases hB : cutF n y = 0
    · exact rbinary_4z n x y w hn1 hn2 x0 x1 y0 y1 hB
    · exact rbinary_4p n x y w hn1 hn2 x0 x1 y0 y1 hB
  · by_cases hB : cutF n y = 0
    · exact rbinary_5z n x y w hn1 hn2 x0 x1 y0 y1 hB
    · exact rbinary_5p n x y w hn1 hn2 x0 x1 y0 y1 hB
  · exact rbinary_6 n x y w hn1 hn2 x0 x1 y0 y1
  · exact rbinary_7 n x y w hn1 hn2 x0 x1 y0 y1
  · exact rbinary_8 n x y w hn1 hn2 x0 x1 y0 y1
  · exact rbinary_9 n x y w hn1 hn2 x0 x1 y0 y1
  · exact rbinary_10 n x y w hn1 hn2 x0 x1 y0 y1
  · exact rbinary_11 n x y w hn1 hn2 x0 x1 y0 y1
  · exact rbinary_12 n x y w hn1 hn2 x0 x1 y0 y1
  · exact rbinary_13 n x y w hn1 hn2 x0 x1 y0 y1
  · exact rbinary_14 n x y w hn1 hn2 x0 x1 y0 y1

theorem rbinary_any (op a x y : Int) (w : World) (x0 : 0 ≤ x) (x1 : x < 18446744073709551616) (y0 : 0 ≤ y) (y1 : y < 18446744073709551616) :
    Calls Try.prog 17 #[.int .i64 op, .int .i64 a, .int .u64 x, .int .u64 y] w fun e w' => e = .returned (.tuple #[.int .u64 (binF op a x y), .int .i64 (binE op a)]) ∧ w' = w := by
  by_cases h : 1 ≤ op ∧ op ≤ 14
  · by_cases hw : 1 ≤ a ∧ a ≤ 64
    · obtain ⟨n, rfl, hn1, hn2⟩ := width_nat hw.1 hw.2
      rw [(bin_yes h hw).1, (bin_yes (a := x) (b := y) h hw).2]
      exact rbinary_yes op n x y w h.1 h.2 hn1 hn2 x0 x1 y0 y1
    · have hf := fits_no hw
      rw [(bin_width h hw).1, (bin_width (a := x) (b := y) h hw).2]
      obtain ⟨g1, g2⟩ := h
      have hg1 : ¬ op < 1 := by omega
      have hg2 : ¬ 14 < op := by omega
      go_enter Try.func17, Try.ntmps17
      go_wp2_with (first | (go_at_call 21; refine (rfits_any _ _).mono ?_; rintro e w' ⟨rfl, rfl⟩))
      go_ret2
      exact ⟨rfl, rfl⟩
  · rw [(bin_op h).1, (bin_op (w := a) (a := x) (b := y) h).2]
    by_cases hg : op < 1
    · go_enter Try.func17, Try.ntmps17
      go_wp2
      go_ret2
      exact ⟨rfl, rfl⟩
    · have hg2 : 14 < op := by omega
      go_enter Try.func17, Try.ntmps17
      go_wp2
      go_ret2
      exact ⟨rfl, rfl⟩

theorem runary_any (op a x : Int) (w : World) (x0 : 0 ≤ x) (x1 : x < 18446744073709551616) :
    Calls Try.prog 19 #[.int .i64 op, .int .i64 a, .int .u64 x] w fun e w' => e = .returned (.tuple #[.int .u64 (unF op a x), .int .i64 (unE op a)]) ∧ w' = w := by
  have hu : IntKind.u64.signed = false := rfl
  by_cases h : op = 15 ∨ op = 16
  · by_cases hw : 1 ≤ a ∧ a ≤ 64
    · have hf := fits_yes hw.1 hw.2
      have e1 : unE op a = 0 := by unfold unE; rw [if_pos h, if_pos hw]
      rw [e1]
      clear hw e1
      rcases h with rfl | rfl
      · have hv : cutF a (bits .xor .u64 IntKind.u64.max x) = unF 15 a x := by rw [not_eq x x0 x1, cut_not]; rfl
        have HV : Hid (cutF a (bits .xor .u64 IntKind.u64.max x) = unF 15 a x) := hv
        have b0 := (bits_bd .xor IntKind.u64.max x).1
        have b1 := (bits_bd .xor IntKind.u64.max x).2
        clear hv x0 x1
        go_enter Try.func19, Try.ntmps19
        go_wp2_with (first | (go_at_call 21; refine (rfits_any _ _).mono ?_; rintro e w' ⟨rfl, rfl⟩) | (go_at_call 12; refine (ref_cut_any _ _ _ b0 b1).mono ?_; rintro e w' ⟨rfl, rfl⟩))
        go_ret2
        exact ⟨ret_two HV.out, rfl⟩
      · have hv : cutF a (IntKind.u64.wrap (-x)) = unF 16 a x := by rw [cut_wrap]; rfl
        have HV : Hid (cutF a (IntKind.u64.wrap (-x)) = unF 16 a x) := hv
        have b0 := (u64_bd (-x)).1
        have b1 := (u64_bd (-x)).2
        clear hv x0 x1
        go_enter Try.func19, Try.ntmps19
        go_wp2_with (first | (go_at_call 21; refine (rfits_any _ _).mono ?_; rintro e w' ⟨rfl, rfl⟩) | (go_at_call 12; refine (ref_cut_any _ _ _ b0 b1).mono ?_; rintro e w' ⟨rfl, rfl⟩))
        go_ret2
        exact ⟨ret_two HV.out, rfl⟩
    · have hf := fits_no hw
      have e1 : unE op a = 2 := by unfold unE; rw [if_pos h, if_neg hw]
      have e2 : unF op a x = 0 := by unfold unF; rcases h with rfl | rfl <;> simp [cut_no hw]
      rw [e1, e2]
      clear e1 e2 hw
      rcases h with rfl | rfl
      all_goals
        go_enter Try.func19, Try.ntmps19
        go_wp2_with (go_at_call 21; refine (rfits_any _ _).mono ?_; rintro e w' ⟨rfl, rfl⟩)
        go_ret2
        exact ⟨rfl, rfl⟩
  · have e1 : unE op a = 3 := by unfold unE; rw [if_neg h]
    have e2 : unF op a x = 0 := by unfold unF; rw [if_neg (by omega), if_neg (by omega)]
    rw [e1, e2]
    have g1 : (op != 15) = true := by simp; omega
    have g2 : (op != 16) = true := by simp; omega
    clear e1 e2 h
    go_enter Try.func19, Try.ntmps19
    go_wp2
    go_ret2
    exact ⟨rfl, rfl⟩
end Go.Proofs.Ytjaaicaejbbhbaa
