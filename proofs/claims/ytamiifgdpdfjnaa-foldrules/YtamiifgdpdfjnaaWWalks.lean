/- What each function of the package word, and of the reference beside it, returns: a contract a function, for every input of its kinds. -/
import Derived.Test.YtamiifgdpdfjnaaProg
import Derived.WalkKit
import Derived.Test.YtamiifgdpdfjnaaWMath
namespace Go.Proofs.Ytamiifgdpdfjnaa.Wd
open Go.RowKit
set_option linter.unusedVariables false

theorem ret_int {k : IntKind} {a b : Int} (h : a = b) : Ending.returned (.int k a) = .returned (.int k b) := by rw [h]
theorem ret_bool {a b : Bool} (h : a = b) : Ending.returned (.bool a) = .returned (.bool b) := by rw [h]

/-! ### widths -/
def fitsB (w : Int) : Bool := decide (1 ≤ w ∧ w ≤ 64)
theorem fits_yes {a : Int} (h1 : 1 ≤ a) (h2 : a ≤ 64) : fitsB a = true := by simp [fitsB, h1, h2]
theorem fits_no {a : Int} (h : ¬ (1 ≤ a ∧ a ≤ 64)) : fitsB a = false := by simp [fitsB]; omega

theorem isWidth_any (a : Int) (w : World) :
    Calls Try.prog 48 #[.int .i64 a] w fun e w' => e = .returned (.bool (fitsB a)) ∧ w' = w := by
  by_cases h1 : 1 ≤ a
  · by_cases h2 : a ≤ 64
    · rw [fits_yes h1 h2]
      go_enter Try.func48, Try.ntmps48
      go_wp2
      go_ret
      exact ⟨rfl, rfl⟩
    · rw [fits_no (by omega)]
      go_enter Try.func48, Try.ntmps48
      go_wp2
      go_ret
      exact ⟨rfl, rfl⟩
  · rw [fits_no (by omega)]
    go_enter Try.func48, Try.ntmps48
    go_wp2
    go_ret
    exact ⟨rfl, rfl⟩
theorem rfits_any (a : Int) (w : World) :
    Calls Try.prog 50 #[.int .i64 a] w fun e w' => e = .returned (.bool (fitsB a)) ∧ w' = w := by
  by_cases h1 : 1 ≤ a
  · by_cases h2 : a ≤ 64
    · rw [fits_yes h1 h2]
      go_enter Try.func50, Try.ntmps50
      go_wp2
      go_ret
      exact ⟨rfl, rfl⟩
    · rw [fits_no (by omega)]
      go_enter Try.func50, Try.ntmps50
      go_wp2
      go_ret
      exact ⟨rfl, rfl⟩
  · rw [fits_no (by omega)]
    go_enter Try.func50, Try.ntmps50
    go_wp2
    go_ret
    exact ⟨rfl, rfl⟩

/-! ### masks -/
theorem mask_any (a : Int) (w : World)  :
    Calls Try.prog 43 #[.int .i64 a] w fun e w' => e = .returned (.int .u64 (mskF a)) ∧ w' = w := by
  by_cases h : 1 ≤ a ∧ a ≤ 64
  · obtain ⟨h1, h2⟩ := h
    have hf := fits_yes h1 h2
    go_enter Try.func43, Try.ntmps43
    go_wp2_with (go_at_call 48; refine (isWidth_any _ _).mono ?_; rintro e w' ⟨rfl, rfl⟩)
    go_ret
    exact ⟨ret_int (mask_eq a h1 h2), rfl⟩
  · have hf := fits_no h
    go_enter Try.func43, Try.ntmps43
    go_wp2_with (go_at_call 48; refine (isWidth_any _ _).mono ?_; rintro e w' ⟨rfl, rfl⟩)
    go_ret
    exact ⟨ret_int (msk_no h).symm, rfl⟩

theorem rmask_any (a : Int) (w : World) :
    Calls Try.prog 56 #[.int .i64 a] w fun e w' => e = .returned (.int .u64 (mskF a)) ∧ w' = w := by
  by_cases h : 1 ≤ a ∧ a ≤ 64
  · obtain ⟨n, rfl, hn1, hn2⟩ := width_nat h.1 h.2
    have hf := fits_yes h.1 h.2
    clear h
    go_enter Try.func56, Try.ntmps56
    go_wp2
    go_loop [3, 4] (fun x i => ∃ k : Nat, k ≤ n ∧ i = .int .i64 k ∧ x = .int .u64 (2 ^ k - 1)) (fun _ i => (n - intOf i).toNat)
    case atStart => exact ⟨0, by omega, rfl, rfl⟩
    case round =>
      obtain ⟨k, hk, rfl, rfl⟩ := hrel
      by_cases hlt : k < n
      · go_wp2_with (go_at_call 50; refine (rfits_any _ _).mono ?_; rintro e w' ⟨rfl, rfl⟩)
        go_round
        case rel => exact ⟨k + 1, by omega, by go_num, by rw [mask_step k (by omega)]⟩
        case measure => simp [intOf]; omega
      · go_wp2_with (go_at_call 50; refine (rfits_any _ _).mono ?_; rintro e w' ⟨rfl, rfl⟩)
        go_ret
        exact ⟨ret_int (by rw [msk_yes n hn1 hn2, show k = n by omega]), rfl⟩
  · have hf := fits_no h
    go_enter Try.func56, Try.ntmps56
    go_wp2
    go_loop [3, 4] (fun x i => i = .int .i64 0 ∧ x = .int .u64 0) (fun _ i => 0)
    case atStart => exact ⟨rfl, rfl⟩
    case round =>
      obtain ⟨rfl, rfl⟩ := hrel
      by_cases hlt : 0 < a
      · go_wp2_with (go_at_call 50; refine (rfits_any _ _).mono ?_; rintro e w' ⟨rfl, rfl⟩)
        go_ret
        exact ⟨ret_int (msk_no h).symm, rfl⟩
      · go_wp2_with (go_at_call 50; refine (rfits_any _ _).mono ?_; rintro e w' ⟨rfl, rfl⟩)
        go_ret
        exact ⟨ret_int (msk_no h).symm, rfl⟩

/-! ### cuts -/
theorem word_cut_any (a x : Int) (w : World) (x0 : 0 ≤ x) (x1 : x < 18446744073709551616) :
    Calls Try.prog 21 #[.int .i64 a, .int .u64 x] w fun e w' => e = .returned (.int .u64 (cutF a x)) ∧ w' = w := by
  go_enter Try.func21, Try.ntmps21
  go_wp2_with (go_at_call 43; refine (mask_any _ _).mono ?_; rintro e w' ⟨rfl, rfl⟩)
  go_ret
  exact ⟨ret_int (cut_eq a x x0 x1), rfl⟩
theorem ref_cut_any (a x : Int) (w : World) (x0 : 0 ≤ x) (x1 : x < 18446744073709551616) :
    Calls Try.prog 52 #[.int .i64 a, .int .u64 x] w fun e w' => e = .returned (.int .u64 (cutF a x)) ∧ w' = w := by
  go_enter Try.func52, Try.ntmps52
  go_wp2_with (go_at_call 56; refine (rmask_any _ _).mono ?_; rintro e w' ⟨rfl, rfl⟩)
  go_ret
  exact ⟨ret_int (cut_eq a x x0 x1), rfl⟩

/-! ### numbers with a sign -/
theorem signed_any (a x : Int) (w : World) (x0 : 0 ≤ x) (x1 : x < 18446744073709551616) :
    Calls Try.prog 60 #[.int .i64 a, .int .u64 x] w fun e w' => e = .returned (.int .i64 (sgnF a x)) ∧ w' = w := by
  by_cases h : 1 ≤ a ∧ a ≤ 64
  · obtain ⟨h1, h2⟩ := h
    have hf := fits_yes h1 h2
    go_enter Try.func60, Try.ntmps60
    go_wp2_with (go_at_call 48; refine (isWidth_any _ _).mono ?_; rintro e w' ⟨rfl, rfl⟩)
    go_ret
    exact ⟨ret_int (signed_eq a x h1 h2), rfl⟩
  · have hf := fits_no h
    go_enter Try.func60, Try.ntmps60
    go_wp2_with (go_at_call 48; refine (isWidth_any _ _).mono ?_; rintro e w' ⟨rfl, rfl⟩)
    go_ret
    exact ⟨ret_int (sgn_no h).symm, rfl⟩

/-! ### the operators of the package word -/
theorem truth_any (b : Bool) (w : World) :
    Calls Try.prog 59 #[.bool b] w fun e w' => e = .returned (.int .u64 (b01 b)) ∧ w' = w := by
  cases b
  all_goals
    go_enter Try.func59, Try.ntmps59
    go_wp2
    go_ret
    exact ⟨rfl, rfl⟩

theorem divide_4 (a b : Int) (w : World) (a0 : 0 ≤ a) (a1 : a < 18446744073709551616) (b0 : 0 ≤ b) (b1 : b < 18446744073709551616) :
    Calls Try.prog 57 #[.int .i64 4, .int .u64 a, .int .u64 b] w fun e w' => e = .returned (.int .u64 (udivF a b)) ∧ w' = w := by
  by_cases h : b = 0
  · subst h
    go_enter Try.func57, Try.ntmps57
    go_wp2
    go_ret
    exact ⟨ret_int (by simp [udivF]), rfl⟩
  · have hb : (b == 0) = false := by simp [h]
    go_enter Try.func57, Try.ntmps57
    go_wp2
    go_ret
    exact ⟨ret_int (by simp [udivF, h]), rfl⟩
theorem divide_5 (a b : Int) (w : World) (a0 : 0 ≤ a) (a1 : a < 18446744073709551616) (b0 : 0 ≤ b) (b1 : b < 18446744073709551616) :
    Calls Try.prog 57 #[.int .i64 5, .int .u64 a, .int .u64 b] w fun e w' => e = .returned (.int .u64 (uremF a b)) ∧ w' = w := by
  by_cases h : b = 0
  · subst h
    go_enter Try.func57, Try.ntmps57
    go_wp2
    go_ret
    exact ⟨ret_int (by simp [uremF]), rfl⟩
  · have hb : (b == 0) = false := by simp [h]
    go_enter Try.func57, Try.ntmps57
    go_wp2
    go_ret
    exact ⟨ret_int (by simp [uremF, h]), rfl⟩
theorem move_9 (a b c : Int) (w : World) (a0 : 0 ≤ a) (a1 : a < 18446744073709551616) (b0 : 0 ≤ b) (b1 : b < 18446744073709551616) :
    Calls Try.prog 58 #[.int .i64 9, .int .i64 c, .int .u64 a, .int .u64 b] w fun e w' => e = .returned (.int .u64 (IntKind.u64.wrap (a * 2 ^ min b.toNat 64))) ∧ w' = w := by
  go_enter Try.func58, Try.ntmps58
  go_wp2
  go_ret
  exact ⟨ret_int (by simp), rfl⟩
theorem move_10 (a b c : Int) (w : World) (a0 : 0 ≤ a) (a1 : a < 18446744073709551616) (b0 : 0 ≤ b) (b1 : b < 18446744073709551616) :
    Calls Try.prog 58 #[.int .i64 10, .int .i64 c, .int .u64 a, .int .u64 b] w fun e w' => e = .returned (.int .u64 (a / 2 ^ min b.toNat 64)) ∧ w' = w := by
  go_enter Try.func58, Try.ntmps58
  go_wp2
  go_ret
  exact ⟨ret_int (by simp), rfl⟩
theorem move_11 (a b c : Int) (w : World) (a0 : 0 ≤ a) (a1 : a < 18446744073709551616) (b0 : 0 ≤ b) (b1 : b < 18446744073709551616) :
    Calls Try.prog 58 #[.int .i64 11, .int .i64 c, .int .u64 a, .int .u64 b] w fun e w' => e = .returned (.int .u64 (IntKind.u64.wrap (sgnF c a / 2 ^ min b.toNat 64))) ∧ w' = w := by
  go_enter Try.func58, Try.ntmps58
  go_wp2_with (go_at_call 60; refine (signed_any _ _ _ a0 a1).mono ?_; rintro e w' ⟨rfl, rfl⟩)
  go_ret
  exact ⟨ret_int (by simp), rfl⟩

end Go.Proofs.Ytamiifgdpdfjnaa.Wd
