/- What Binary and Unary of the package word return, for every input of their kinds. -/
import Derived.Test.YtamiifgdpdfjnaaWOps
namespace Go.Proofs.Ytamiifgdpdfjnaa.Wd
open Go.RowKit
set_option linter.unusedVariables false

theorem combine_14 (n : Nat) (a b : Int) (w : World) (hn1 : 1 ≤ n) (hn2 : n ≤ 64) (a0 : 0 ≤ a) (a1 : a < 2 ^ n) (b0 : 0 ≤ b) (b1 : b < 2 ^ n) :
    Calls Try.prog 55 #[.int .i64 14, .int .i64 n, .int .u64 a, .int .u64 b] w (Made 14 n a b w) := by
  have hle := pow_le64 n hn2
  have A1 : a < 18446744073709551616 := by omega
  have B1 : b < 18446744073709551616 := by omega
  have HE : Hid (cutF n (b01 (decide (bits .xor .u64 a (IntKind.u64.wrap (2 ^ (n - 1))) < bits .xor .u64 b (IntKind.u64.wrap (2 ^ (n - 1)))))) = cutF n (rawF 14 n a b)) := slt_wrap n a b hn1 hn2 a0 a1 b0 b1
  clear a1 b1 hle
  go_enter Try.func55, Try.ntmps55
  go_wp2_with (go_at_call 59; refine (truth_any _ _).mono ?_; rintro e w' ⟨rfl, rfl⟩)
  go_ret
  exact ⟨_, rfl, (b01_bd _).1, (b01_bd _).2, HE.out, rfl⟩

theorem combine_any (op : Int) (n : Nat) (a b : Int) (w : World) (h1 : 1 ≤ op) (h2 : op ≤ 14) (hn1 : 1 ≤ n) (hn2 : n ≤ 64)
    (a0 : 0 ≤ a) (a1 : a < 2 ^ n) (b0 : 0 ≤ b) (b1 : b < 2 ^ n) :
    Calls Try.prog 55 #[.int .i64 op, .int .i64 n, .int .u64 a, .int .u64 b] w (Made op n a b w) := by
  have hle := pow_le64 n hn2
  have A1 : a < 18446744073709551616 := by omega
  have B1 : b < 18446744073709551616 := by omega
  have h : op = 1 ∨ op = 2 ∨ op = 3 ∨ op = 4 ∨ op = 5 ∨ op = 6 ∨ op = 7 ∨ op = 8 ∨ op = 9 ∨ op = 10 ∨ op = 11 ∨ op = 12 ∨ op = 13 ∨ op = 14 := by omega
  rcases h with rfl | rfl | rfl | rfl | rfl | rfl | rfl | rfl | rfl | rfl | rfl | rfl | rfl | rfl
  · exact combine_1 n a b w a0 A1 b0 B1
  · exact combine_2 n a b w a0 A1 b0 B1
  · exact combine_3 n a b w a0 A1 b0 B1
  · exact combine_4 n a b w a0 A1 b0 B1
  · exact combine_5 n a b w a0 A1 b0 B1
  · exact combine_6 n a b w a0 A1 b0 B1
  · exact combine_7 n a b w a0 A1 b0 B1
  · exact combine_8 n a b w a0 A1 b0 B1
  · exact combine_9 n a b w a0 A1 b0 B1
  · exact combine_10 n a b w a0 A1 b0 B1
  · exact combine_11 n a b w a0 A1 b0 B1
  · exact combine_12 n a b w a0 A1 b0 B1
  · exact combine_13 n a b w a0 A1 b0 B1
  · exact combine_14 n a b w hn1 hn2 a0 a1 b0 b1

theorem binary_any (op a x y : Int) (w : World) (x0 : 0 ≤ x) (x1 : x < 18446744073709551616) (y0 : 0 ≤ y) (y1 : y < 18446744073709551616) :
    Calls Try.prog 46 #[.int .i64 op, .int .i64 a, .int .u64 x, .int .u64 y] w fun e w' => e = .returned (.tuple #[.int .u64 (binF op a x y), .int .i64 (binE op a)]) ∧ w' = w := by
  by_cases h : 1 ≤ op ∧ op ≤ 14
  · obtain ⟨g1, g2⟩ := h
    have hg1 : ¬ op < 1 := by omega
    have hg2 : ¬ 14 < op := by omega
    by_cases hw : 1 ≤ a ∧ a ≤ 64
    · obtain ⟨n, rfl, hn1, hn2⟩ := width_nat hw.1 hw.2
      have hf := fits_yes hw.1 hw.2
      rw [(bin_yes ⟨g1, g2⟩ hw).1, (bin_yes (a := x) (b := y) ⟨g1, g2⟩ hw).2]
      have cx := cut_lt n x hn1 hn2
      have cy := cut_lt n y hn1 hn2
      have hcomb := fun (w : World) => combine_any op n (cutF n x) (cutF n y) w g1 g2 hn1 hn2 cx.1 cx.2 cy.1 cy.2
      clear hw cx cy
      go_enter Try.func46, Try.ntmps46
      go_wp2_with (first | (go_at_call 48; refine (isWidth_any _ _).mono ?_; rintro e w' ⟨rfl, rfl⟩) | (go_at_call 21; refine (word_cut_any _ _ _ ‹_› ‹_›).mono ?_; rintro e w' ⟨rfl, rfl⟩) | (go_at_call 55; refine (hcomb _).mono ?_; rintro e w' ⟨v, rfl, v0, v1, hv, rfl⟩))
      go_ret2
      exact ⟨rfl, rfl⟩
    · have hf := fits_no hw
      rw [(bin_width ⟨g1, g2⟩ hw).1, (bin_width (a := x) (b := y) ⟨g1, g2⟩ hw).2]
      go_enter Try.func46, Try.ntmps46
      go_wp2_with (first | (go_at_call 48; refine (isWidth_any _ _).mono ?_; rintro e w' ⟨rfl, rfl⟩))
      go_ret2
      exact ⟨rfl, rfl⟩
  · rw [(bin_op h).1, (bin_op (w := a) (a := x) (b := y) h).2]
    by_cases hg : op < 1
    · go_enter Try.func46, Try.ntmps46
      go_wp2
      go_ret2
      exact ⟨rfl, rfl⟩
    · have hg2 : 14 < op := by omega
      go_enter Try.func46, Try.ntmps46
      go_wp2
      go_ret2
      exact ⟨rfl, rfl⟩

theorem turn_15 (a : Int) (w : World) (a0 : 0 ≤ a) (a1 : a < 18446744073709551616) :
    Calls Try.prog 49 #[.int .i64 15, .int .u64 a] w fun e w' => e = .returned (.int .u64 (18446744073709551615 - a)) ∧ w' = w := by
  have hu : IntKind.u64.signed = false := rfl
  go_enter Try.func49, Try.ntmps49
  go_wp2
  go_ret
  exact ⟨ret_int (not_eq a a0 a1), rfl⟩
theorem turn_16 (a : Int) (w : World) (a0 : 0 ≤ a) (a1 : a < 18446744073709551616) :
    Calls Try.prog 49 #[.int .i64 16, .int .u64 a] w fun e w' => e = .returned (.int .u64 (18446744073709551615 - IntKind.u64.wrap (a - 1))) ∧ w' = w := by
  have hu : IntKind.u64.signed = false := rfl
  go_enter Try.func49, Try.ntmps49
  go_wp2
  go_ret
  exact ⟨ret_int (not_eq _ (u64_bd _).1 (u64_bd _).2), rfl⟩

theorem unary_any (op a x : Int) (w : World) (x0 : 0 ≤ x) (x1 : x < 18446744073709551616) :
    Calls Try.prog 28 #[.int .i64 op, .int .i64 a, .int .u64 x] w fun e w' => e = .returned (.tuple #[.int .u64 (unF op a x), .int .i64 (unE op a)]) ∧ w' = w := by
  by_cases h : op = 15 ∨ op = 16
  · by_cases hw : 1 ≤ a ∧ a ≤ 64
    · have hf := fits_yes hw.1 hw.2
      have e1 : unE op a = 0 := by unfold unE; rw [if_pos h, if_pos hw]
      rw [e1]
      clear hw e1
      rcases h with rfl | rfl
      · have hv := cut_not a x
        have e2 : unF 15 a x = cutF a (-1 - x) := rfl
        rw [e2, ← hv]
        clear e2 hv
        have b0 : 0 ≤ 18446744073709551615 - x := by omega
        have b1 : 18446744073709551615 - x < 18446744073709551616 := by omega
        go_enter Try.func28, Try.ntmps28
        go_wp2_with (first | (go_at_call 48; refine (isWidth_any _ _).mono ?_; rintro e w' ⟨rfl, rfl⟩) | (go_at_call 49; refine (turn_15 _ _ x0 x1).mono ?_; rintro e w' ⟨rfl, rfl⟩) | (go_at_call 21; refine (word_cut_any _ _ _ b0 b1).mono ?_; rintro e w' ⟨rfl, rfl⟩))
        go_ret2
        exact ⟨rfl, rfl⟩
      · have hv := cut_neg a x
        have e2 : unF 16 a x = cutF a (-x) := rfl
        rw [e2, ← hv]
        clear e2 hv
        have hb := u64_bd (x - 1)
        have b0 : 0 ≤ 18446744073709551615 - IntKind.u64.wrap (x - 1) := by omega
        have b1 : 18446744073709551615 - IntKind.u64.wrap (x - 1) < 18446744073709551616 := by omega
        clear hb
        go_enter Try.func28, Try.ntmps28
        go_wp2_with (first | (go_at_call 48; refine (isWidth_any _ _).mono ?_; rintro e w' ⟨rfl, rfl⟩) | (go_at_call 49; refine (turn_16 _ _ x0 x1).mono ?_; rintro e w' ⟨rfl, rfl⟩) | (go_at_call 21; refine (word_cut_any _ _ _ b0 b1).mono ?_; rintro e w' ⟨rfl, rfl⟩))
        go_ret2
        exact ⟨rfl, rfl⟩
    · have hf := fits_no hw
      have e1 : unE op a = 2 := by unfold unE; rw [if_pos h, if_neg hw]
      have e2 : unF op a x = 0 := by unfold unF; rcases h with rfl | rfl <;> simp [cut_no hw]
      rw [e1, e2]
      clear e1 e2 hw
      rcases h with rfl | rfl
      all_goals
        go_enter Try.func28, Try.ntmps28
        go_wp2_with (go_at_call 48; refine (isWidth_any _ _).mono ?_; rintro e w' ⟨rfl, rfl⟩)
        go_ret2
        exact ⟨rfl, rfl⟩
  · have e1 : unE op a = 3 := by unfold unE; rw [if_neg h]
    have e2 : unF op a x = 0 := by unfold unF; rw [if_neg (by omega), if_neg (by omega)]
    rw [e1, e2]
    have g1 : (op != 15) = true := by simp; omega
    have g2 : (op != 16) = true := by simp; omega
    clear e1 e2 h
    go_enter Try.func28, Try.ntmps28
    go_wp2
    go_ret2
    exact ⟨rfl, rfl⟩
end Go.Proofs.Ytamiifgdpdfjnaa.Wd
