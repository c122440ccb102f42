/- What each function of the package word, and of the reference beside it, returns: a contract a function, for every input of its kinds. -/
import Derived.Test.YtbekgejbgmdbdaaProg
import Derived.WalkKit
import Derived.Test.YtbekgejbgmdbdaaWMath
namespace Go.Proofs.Ytbekgejbgmdbdaa.Wd
open Go.RowKit
set_option linter.unusedVariables false

theorem ret_int {k : IntKind} {a b : Int} (h : a = b) : Ending.returned (.int k a) = .returned (.int k b) := by rw [h]
theorem ret_bool {a b : Bool} (h : a = b) : Ending.returned (.bool a) = .returned (.bool b) := by rw [h]

/-! ### widths -/
def fitsB (w : Int) : Bool := decide (1 ≤ w ∧ w ≤ 64)
theorem fits_yes {a : Int} (h1 : 1 ≤ a) (h2 : a ≤ 64) : fitsB a = true := by simp [fitsB, h1, h2]
theorem fits_no {a : Int} (h : ¬ (1 ≤ a ∧ a ≤ 64)) : fitsB a = false := by simp [fitsB]; omega

theorem isWidth_any (a : Int) (w : World) :
    Calls Try.prog 74 #[.int .i64 a] w fun e w' => e = .returned (.bool (fitsB a)) ∧ w' = w := by
  by_cases h1 : 1 ≤ a
  · by_cases h2 : a ≤ 64
    · rw [fits_yes h1 h2]
      go_enter Try.func74, Try.ntmps74
      go_wp2
      go_ret
      exact ⟨rfl, rfl⟩
    · rw [fits_no (by omega)]
      go_enter Try.func74, Try.ntmps74
      go_wp2
      go_ret
      exact ⟨rfl, rfl⟩
  · rw [fits_no (by omega)]
    go_enter Try.func74, Try.ntmps74
    go_wp2
    go_ret
    exact ⟨rfl, rfl⟩
theorem rfits_any (a : Int) (w : World) :
    Calls Try.prog 68 #[.int .i64 a] w fun e w' => e = .returned (.bool (fitsB a)) ∧ w' = w := by
  by_cases h1 : 1 ≤ a
  · by_cases h2 : a ≤ 64
    · rw [fits_yes h1 h2]
      go_enter Try.func68, Try.ntmps68
      go_wp2
      go_ret
      exact ⟨rfl, rfl⟩
    · rw [fits_no (by omega)]
      go_enter Try.func68, Try.ntmps68
      go_wp2
      go_ret
      exact ⟨rfl, rfl⟩
  · rw [fits_no (by omega)]
    go_enter Try.func68, Try.ntmps68
    go_wp2
    go_ret
    exact ⟨rfl, rfl⟩

/-! ### masks -/
theorem mask_any (a : Int) (w : World)  :
    Calls Try.prog 69 #[.int .i64 a] w fun e w' => e = .returned (.int .u64 (mskF a)) ∧ w' = w := by
  by_cases h : 1 ≤ a ∧ a ≤ 64
  · obtain ⟨h1, h2⟩ := h
    have hf := fits_yes h1 h2
    go_enter Try.func69, Try.ntmps69
    go_wp2_with (go_at_call 74; refine (isWidth_any _ _).mono ?_; rintro e w' ⟨rfl, rfl⟩)
    go_ret
    exact ⟨ret_int (mask_eq a h1 h2), rfl⟩
  · have hf := fits_no h
    go_enter Try.func69, Try.ntmps69
    go_wp2_with (go_at_call 74; refine (isWidth_any _ _).mono ?_; rintro e w' ⟨rfl, rfl⟩)
    go_ret
    exact ⟨ret_int (msk_no h).symm, rfl⟩

theorem rmask_any (a : Int) (w : World) :
    Calls Try.prog 36 #[.int .i64 a] w fun e w' => e = .returned (.int .u64 (mskF a)) ∧ w' = w := by
  by_cases h : 1 ≤ a ∧ a ≤ 64
  · obtain ⟨n, rfl, hn1, hn2⟩ := width_nat h.1 h.2
    have hf := fits_yes h.1 h.2
    clear h
    go_enter Try.func36, Try.ntmps36
    go_wp2
    go_loop [3, 4] (fun x i => ∃ k : Nat, k ≤ n ∧ i = .int .i64 k ∧ x = .int .u64 (2 ^ k - 1)) (fun _ i => (n - intOf i).toNat)
    case atStart => exact ⟨0, by omega, rfl, rfl⟩
    case round =>
      obtain ⟨k, hk, rfl, rfl⟩ := hrel
      by_cases hlt : k < n
      · go_wp2_with (go_at_call 68; refine (rfits_any _ _).mono ?_; rintro e w' ⟨rfl, rfl⟩)
        go_round
        case rel => exact ⟨k + 1, by omega, by go_num, by rw [mask_step k (by omega)]⟩
        case measure => simp [intOf]; omega
      · go_wp2_with (go_at_call 68; refine (rfits_any _ _).mono ?_; rintro e w' ⟨rfl, rfl⟩)
        go_ret
        exact ⟨ret_int (by rw [msk_yes n hn1 hn2, show k = n by omega]), rfl⟩
  · have hf := fits_no h
    go_enter Try.func36, Try.ntmps36
    go_wp2
    go_loop [3, 4] (fun x i => i = .int .i64 0 ∧ x = .int .u64 0) (fun _ i => 0)
    case atStart => exact ⟨rfl, rfl⟩
    case round =>
      obtain ⟨rfl, rfl⟩ := hrel
      by_cases hlt : 0 < a
      · go_wp2_with (go_at_call 68; refine (rfits_any _ _).mono ?_; rintro e w' ⟨rfl, rfl⟩)
        go_ret
        exact ⟨ret_int (msk_no h).symm, rfl⟩
      · go_wp2_with (go_at_call 68; refine (rfits_any _ _).mono ?_; rintro e w' ⟨rfl, rfl⟩)
        go_ret
        exact ⟨ret_int (msk_no h).symm, rfl⟩

/-! ### cuts -/
theorem word_cut_any (a x : Int) (w : World) (x0 : 0 ≤ x) (x1 : x < 18446744073709551616) :
    Calls Try.prog 39 #[.int .i64 a, .int .u64 x] w fun e w' => e = .returned (.int .u64 (cutF a x)) ∧ w' = w := by
  go_enter Try.func39, Try.ntmps39
  go_wp2_with (go_at_call 69; refine (mask_any _ _).mono ?_; rintro e w' ⟨rfl, rfl⟩)
  go_ret
  exact ⟨ret_int (cut_eq a x x0 x1), rfl⟩
theorem ref_cut_any (a x : Int) (w : World) (x0 : 0 ≤ x) (x1 : x < 18446744073709551616) :
    Calls Try.prog 15 #[.int .i64 a, .int .u64 x] w fun e w' => e = .returned (.int .u64 (cutF a x)) ∧ w' = w := by
  go_enter Try.func15, Try.ntmps15
  go_wp2_with (go_at_call 36; refine (rmask_any _ _).mono ?_; rintro e w' ⟨rfl, rfl⟩)
  go_ret
  exact ⟨ret_int (cut_eq a x x0 x1), rfl⟩

/-! ### numbers with a sign -/
theorem signed_any (a x : Int) (w : World) (x0 : 0 ≤ x) (x1 : x < 18446744073709551616) :
    Calls Try.prog 61 #[.int .i64 a, .int .u64 x] w fun e w' => e = .returned (.int .i64 (sgnF a x)) ∧ w' = w := by
  by_cases h : 1 ≤ a ∧ a ≤ 64
  · obtain ⟨h1, h2⟩ := h
    have hf := fits_yes h1 h2
    go_enter Try.func61, Try.ntmps61
    go_wp2_with (go_at_call 74; refine (isWidth_any _ _).mono ?_; rintro e w' ⟨rfl, rfl⟩)
    go_ret
    exact ⟨ret_int (signed_eq a x h1 h2), rfl⟩
  · have hf := fits_no h
    go_enter Try.func61, Try.ntmps61
    go_wp2_with (go_at_call 74; refine (isWidth_any _ _).mono ?_; rintro e w' ⟨rfl, rfl⟩)
    go_ret
    exact ⟨ret_int (sgn_no h).symm, rfl⟩

def bitB (x : Int) (k : Nat) : Bool := (x / 2 ^ k).tmod 2 == 1
theorem rbit_any (x : Int) (k : Nat) (w : World) (x0 : 0 ≤ x) (x1 : x < 18446744073709551616) (hk : k < 64) :
    Calls Try.prog 71 #[.int .u64 x, .int .i64 k] w fun e w' => e = .returned (.bool (bitB x k)) ∧ w' = w := by
  go_enter Try.func71, Try.ntmps71
  go_wp2
  go_ret
  exact ⟨ret_bool (by unfold bitB; simp), rfl⟩

theorem rsigned_any (a x : Int) (w : World) (x0 : 0 ≤ x) (x1 : x < 18446744073709551616) :
    Calls Try.prog 55 #[.int .i64 a, .int .u64 x] w fun e w' => e = .returned (.int .i64 (sgnF a x)) ∧ w' = w := by
  by_cases h : 1 ≤ a ∧ a ≤ 64
  · obtain ⟨n, rfl, hn1, hn2⟩ := width_nat h.1 h.2
    have hf := fits_yes h.1 h.2
    have hu : IntKind.u64.signed = false := rfl
    have hb := cut_bd n x
    have hl := cut_lt n x hn1 hn2
    have e1 : (n : Int) - 1 = ((n - 1 : Nat) : Int) := by omega
    have htop : bitB (cutF n x) (n - 1) = decide (¬ x % 2 ^ n < 2 ^ (n - 1)) := by
      unfold bitB; rw [top_bit n _ hn1 hl.1 hl.2, cut_yes n x hn1 hn2]
    have hbit := fun (w : World) => rbit_any (cutF n x) (n - 1) w hb.1 hb.2 (by omega)
    rw [← e1] at hbit
    clear h e1 hl hb
    by_cases hr : x % 2 ^ n < 2 ^ (n - 1)
    · have ht : bitB (cutF n x) (n - 1) = false := by rw [htop]; simp [hr]
      have E := rsigned_small n x hn1 hn2 hr
      clear htop hr
      go_enter Try.func55, Try.ntmps55
      go_wp2_with (first | (go_at_call 68; refine (rfits_any _ _).mono ?_; rintro e w' ⟨rfl, rfl⟩) | (go_at_call 15; refine (ref_cut_any _ _ _ x0 x1).mono ?_; rintro e w' ⟨rfl, rfl⟩) | (go_at_call 71; refine (hbit _).mono ?_; rintro e w' ⟨rfl, rfl⟩) | (go_at_call 36; refine (rmask_any _ _).mono ?_; rintro e w' ⟨rfl, rfl⟩))
      go_ret
      exact ⟨ret_int E, rfl⟩
    · have ht : bitB (cutF n x) (n - 1) = true := by rw [htop]; simp [hr]
      have E := rsigned_great n x hn1 hn2 hr
      clear htop hr
      go_enter Try.func55, Try.ntmps55
      go_wp2_with (first | (go_at_call 68; refine (rfits_any _ _).mono ?_; rintro e w' ⟨rfl, rfl⟩) | (go_at_call 15; refine (ref_cut_any _ _ _ x0 x1).mono ?_; rintro e w' ⟨rfl, rfl⟩) | (go_at_call 71; refine (hbit _).mono ?_; rintro e w' ⟨rfl, rfl⟩) | (go_at_call 36; refine (rmask_any _ _).mono ?_; rintro e w' ⟨rfl, rfl⟩))
      go_ret
      exact ⟨ret_int E, rfl⟩
  · have hf := fits_no h
    go_enter Try.func55, Try.ntmps55
    go_wp2_with (go_at_call 68; refine (rfits_any _ _).mono ?_; rintro e w' ⟨rfl, rfl⟩)
    go_ret
    exact ⟨ret_int (sgn_no h).symm, rfl⟩

/-! ### the operators of the package word -/
theorem truth_any (b : Bool) (w : World) :
    Calls Try.prog 91 #[.bool b] w fun e w' => e = .returned (.int .u64 (b01 b)) ∧ w' = w := by
  cases b
  all_goals
    go_enter Try.func91, Try.ntmps91
    go_wp2
    go_ret
    exact ⟨rfl, rfl⟩

theorem divide_4 (a b : Int) (w : World) (a0 : 0 ≤ a) (a1 : a < 18446744073709551616) (b0 : 0 ≤ b) (b1 : b < 18446744073709551616) :
    Calls Try.prog 89 #[.int .i64 4, .int .u64 a, .int .u64 b] w fun e w' => e = .returned (.int .u64 (udivF a b)) ∧ w' = w := by
  by_cases h : b = 0
  · subst h
    go_enter Try.func89, Try.ntmps89
    go_wp2
    go_ret
    exact ⟨ret_int (by simp [udivF]), rfl⟩
  · have hb : (b == 0) = false := by simp [h]
    go_enter Try.func89, Try.ntmps89
    go_wp2
    go_ret
    exact ⟨ret_int (by simp [udivF, h]), rfl⟩
theorem divide_5 (a b : Int) (w : World) (a0 : 0 ≤ a) (a1 : a < 18446744073709551616) (b0 : 0 ≤ b) (b1 : b < 18446744073709551616) :
    Calls Try.prog 89 #[.int .i64 5, .int .u64 a, .int .u64 b] w fun e w' => e = .returned (.int .u64 (uremF a b)) ∧ w' = w := by
  by_cases h : b = 0
  · subst h
    go_enter Try.func89, Try.ntmps89
    go_wp2
    go_ret
    exact ⟨ret_int (by simp [uremF]), rfl⟩
  · have hb : (b == 0) = false := by simp [h]
    go_enter Try.func89, Try.ntmps89
    go_wp2
    go_ret
    exact ⟨ret_int (by simp [uremF, h]), rfl⟩
theorem move_9 (a b c : Int) (w : World) (a0 : 0 ≤ a) (a1 : a < 18446744073709551616) (b0 : 0 ≤ b) (b1 : b < 18446744073709551616) :
    Calls Try.prog 90 #[.int .i64 9, .int .i64 c, .int .u64 a, .int .u64 b] w fun e w' => e = .returned (.int .u64 (IntKind.u64.wrap (a * 2 ^ min b.toNat 64))) ∧ w' = w := by
  go_enter Try.func90, Try.ntmps90
  go_wp2
  go_ret
  exact ⟨ret_int (by simp), rfl⟩
theorem move_10 (a b c : Int) (w : World) (a0 : 0 ≤ a) (a1 : a < 18446744073709551616) (b0 : 0 ≤ b) (b1 : b < 18446744073709551616) :
    Calls Try.prog 90 #[.int .i64 10, .int .i64 c, .int .u64 a, .int .u64 b] w fun e w' => e = .returned (.int .u64 (a / 2 ^ min b.toNat 64)) ∧ w' = w := by
  go_enter Try.func90, Try.ntmps90
  go_wp2
  go_ret
  exact ⟨ret_int (by simp), rfl⟩
theorem move_11 (a b c : Int) (w : World) (a0 : 0 ≤ a) (a1 : a < 18446744073709551616) (b0 : 0 ≤ b) (b1 : b < 18446744073709551616) :
    Calls Try.prog 90 #[.int .i64 11, .int .i64 c, .int .u64 a, .int .u64 b] w fun e w' => e = .returned (.int .u64 (IntKind.u64.wrap (sgnF c a / 2 ^ min b.toNat 64))) ∧ w' = w := by
  go_enter Try.func90, Try.ntmps90
  go_wp2_with (go_at_call 61; refine (signed_any _ _ _ a0 a1).mono ?_; rintro e w' ⟨rfl, rfl⟩)
  go_ret
  exact ⟨ret_int (by simp), rfl⟩

end Go.Proofs.Ytbekgejbgmdbdaa.Wd
