/-
  The document's words: cuts, bits, signs; what its operators make of two words.
-/
import Derived.Test.YtplhlfmibeennaaWm
import Derived.Test.YtplhlfmibeennaaProg
import Derived.WalkKit
import Derived.Lib.SmallJoins
namespace Go.Proofs.Ytplhlfmibeennaa.Wd
open Go.RowKit
set_option linter.unusedVariables false

theorem ret_int {k : IntKind} {a b : Int} (h : a = b) : Ending.returned (.int k a) = .returned (.int k b) := by rw [h]

theorem ret_bool {a b : Bool} (h : a = b) : Ending.returned (.bool a) = .returned (.bool b) := by rw [h]

def fitsB (w : Int) : Bool := decide (1 ≤ w ∧ w ≤ 64)

theorem fits_yes {a : Int} (h1 : 1 ≤ a) (h2 : a ≤ 64) : fitsB a = true := by simp [fitsB, h1, h2]

theorem fits_no {a : Int} (h : ¬ (1 ≤ a ∧ a ≤ 64)) : fitsB a = false := by simp [fitsB]; omega

theorem rfits_any (a : Int) (w : World) :
    Calls Try.prog 27 #[.int .i64 a] w fun e w' => e = .returned (.bool (fitsB a)) ∧ w' = w := by
  by_cases h1 : 1 ≤ a
  · by_cases h2 : a ≤ 64
    · rw [fits_yes h1 h2]
      go_enter Try.func27, Try.ntmps27
      go_wp2
      go_ret
      exact ⟨rfl, rfl⟩
    · rw [fits_no (by omega)]
      go_enter Try.func27, Try.ntmps27
      go_wp2
      go_ret
      exact ⟨rfl, rfl⟩
  · rw [fits_no (by omega)]
    go_enter Try.func27, Try.ntmps27
    go_wp2
    go_ret
    exact ⟨rfl, rfl⟩

theorem rmask_any (a : Int) (w : World) :
    Calls Try.prog 29 #[.int .i64 a] w fun e w' => e = .returned (.int .u64 (mskF a)) ∧ w' = w := by
  by_cases h : 1 ≤ a ∧ a ≤ 64
  · obtain ⟨n, rfl, hn1, hn2⟩ := width_nat h.1 h.2
    have hf := fits_yes h.1 h.2
    clear h
    go_enter Try.func29, Try.ntmps29
    go_wp2
    go_loop [3, 4] (fun x i => ∃ k : Nat, k ≤ n ∧ i = .int .i64 k ∧ x = .int .u64 (2 ^ k - 1)) (fun _ i => (n - intOf i).toNat)
    case atStart => exact ⟨0, by omega, rfl, rfl⟩
    case round =>
      obtain ⟨k, hk, rfl, rfl⟩ := hrel
      by_cases hlt : k < n
      · go_wp2_with (go_at_call 27; refine (rfits_any _ _).mono ?_; rintro e w' ⟨rfl, rfl⟩)
        go_round
        case rel => exact ⟨k + 1, by omega, by go_num, by rw [mask_step k (by omega)]⟩
        case measure => simp [intOf]; omega
      · go_wp2_with (go_at_call 27; refine (rfits_any _ _).mono ?_; rintro e w' ⟨rfl, rfl⟩)
        go_ret
        exact ⟨ret_int (by rw [msk_yes n hn1 hn2, show k = n by omega]), rfl⟩
  · have hf := fits_no h
    go_enter Try.func29, Try.ntmps29
    go_wp2
    go_loop [3, 4] (fun x i => i = .int .i64 0 ∧ x = .int .u64 0) (fun _ i => 0)
    case atStart => exact ⟨rfl, rfl⟩
    case round =>
      obtain ⟨rfl, rfl⟩ := hrel
      by_cases hlt : 0 < a
      · go_wp2_with (go_at_call 27; refine (rfits_any _ _).mono ?_; rintro e w' ⟨rfl, rfl⟩)
        go_ret
        exact ⟨ret_int (msk_no h).symm, rfl⟩
      · go_wp2_with (go_at_call 27; refine (rfits_any _ _).mono ?_; rintro e w' ⟨rfl, rfl⟩)
        go_ret
        exact ⟨ret_int (msk_no h).symm, rfl⟩

theorem ref_cut_any (a x : Int) (w : World) (x0 : 0 ≤ x) (x1 : x < 18446744073709551616) :
    Calls Try.prog 28 #[.int .i64 a, .int .u64 x] w fun e w' => e = .returned (.int .u64 (cutF a x)) ∧ w' = w := by
  go_enter Try.func28, Try.ntmps28
  go_wp2_with (go_at_call 29; refine (rmask_any _ _).mono ?_; rintro e w' ⟨rfl, rfl⟩)
  go_ret
  exact ⟨ret_int (cut_eq a x x0 x1), rfl⟩

def bitB (x : Int) (k : Nat) : Bool := (x / 2 ^ k).tmod 2 == 1

theorem rbit_any (x : Int) (k : Nat) (w : World) (x0 : 0 ≤ x) (x1 : x < 18446744073709551616) (hk : k < 64) :
    Calls Try.prog 18 #[.int .u64 x, .int .i64 k] w fun e w' => e = .returned (.bool (bitB x k)) ∧ w' = w := by
  go_enter Try.func18, Try.ntmps18
  go_wp2
  go_ret
  exact ⟨ret_bool (by unfold bitB; simp), rfl⟩

theorem one_any (b : Bool) (w : World) :
    Calls Try.prog 30 #[.bool b] w fun e w' => e = .returned (.int .u64 (b01 b)) ∧ w' = w := by
  cases b
  all_goals
    go_enter Try.func30, Try.ntmps30
    go_wp2
    go_ret
    exact ⟨rfl, rfl⟩

theorem bitB_eq (x : Int) (k : Nat) (x0 : 0 ≤ x) : b01 (bitB x k) = x / 2 ^ k % 2 := by
  unfold bitB
  have h0 := Int.ediv_nonneg x0 (Int.le_of_lt (pos2 k))
  rw [Int.tmod_eq_emod_of_nonneg h0]
  have : x / 2 ^ k % 2 = 0 ∨ x / 2 ^ k % 2 = 1 := by omega
  rcases this with h | h <;> rw [h] <;> rfl

theorem move_step (T x : Int) (k : Nat) (b : Bool) (hk : k < 64) (hx : x = T % 2 ^ k) (hb : b01 b = T / 2 ^ k % 2) :
    bits .or .u64 x (IntKind.u64.wrap (b01 b * 2 ^ k)) = T % 2 ^ (k + 1) := by
  have p := pos2 k
  rw [or_bit x k b hk (by rw [hx]; exact Int.emod_nonneg _ (by omega)) (by rw [hx]; exact Int.emod_lt_of_pos _ p), hx, hb, bit_more]


theorem cut_msk (n : Nat) (h1 : 1 ≤ n) (h2 : n ≤ 64) : cutF n (mskF n) = cutF n (-1) := by
  rw [msk_yes n h1 h2, cut_yes n _ h1 h2, cut_yes n _ h1 h2]
  have : (2 : Int) ^ n - 1 = -1 + 2 ^ n * 1 := by omega
  rw [this, Int.add_mul_emod_self_left]

theorem ret_two {a b : Int} (h : a = b) : Ending.returned (.tuple #[.int .u64 a, .int .i64 0]) = .returned (.tuple #[.int .u64 b, .int .i64 0]) := by rw [h]

theorem rbinary_3 (n : Nat) (x y : Int) (w : World) (hn1 : 1 ≤ n) (hn2 : n ≤ 64) (x0 : 0 ≤ x) (x1 : x < 18446744073709551616) (y0 : 0 ≤ y) (y1 : y < 18446744073709551616) :
    Calls Try.prog 12 #[.int .i64 3, .int .i64 n, .int .u64 x, .int .u64 y] w fun e w' => e = .returned (.tuple #[.int .u64 (cutF n (rawF 3 n (cutF n x) (cutF n y))), .int .i64 0]) ∧ w' = w := by
  have hf : fitsB n = true := fits_yes (by omega) (by omega)
  have ca := cut_bd n x
  have cb := cut_bd n y
  have la := cut_lt n x hn1 hn2
  have lb := cut_lt n y hn1 hn2
  have z0 : 0 ≤ IntKind.u64.wrap (cutF n x * cutF n y) := (u64_bd _).1
  have z1 : IntKind.u64.wrap (cutF n x * cutF n y) < 18446744073709551616 := (u64_bd _).2
  have hv : cutF n (IntKind.u64.wrap (cutF n x * cutF n y)) = cutF n (rawF 3 n (cutF n x) (cutF n y)) := by rw [cut_wrap]; simp [rawF]
  have HV : Hid (cutF n (IntKind.u64.wrap (cutF n x * cutF n y)) = cutF n (rawF 3 n (cutF n x) (cutF n y))) := hv
  clear ca cb la lb hv
  go_enter Try.func12, Try.ntmps12
  go_wp2_with (first | (go_at_call 27; refine (rfits_any _ _).mono ?_; rintro e w' ⟨rfl, rfl⟩) | (go_at_call 28; with_reducible (refine (ref_cut_any _ _ _ ‹_› ‹_›).mono ?_); rintro e w' ⟨rfl, rfl⟩))
  go_ret2
  exact ⟨ret_two HV.out, rfl⟩

theorem rbinary_4z (n : Nat) (x y : Int) (w : World) (hn1 : 1 ≤ n) (hn2 : n ≤ 64) (x0 : 0 ≤ x) (x1 : x < 18446744073709551616) (y0 : 0 ≤ y) (y1 : y < 18446744073709551616) (hB : cutF n y = 0) :
    Calls Try.prog 12 #[.int .i64 4, .int .i64 n, .int .u64 x, .int .u64 y] w fun e w' => e = .returned (.tuple #[.int .u64 (cutF n (rawF 4 n (cutF n x) (cutF n y))), .int .i64 0]) ∧ w' = w := by
  have hf : fitsB n = true := fits_yes (by omega) (by omega)
  have ca := cut_bd n x
  have cb := cut_bd n y
  have la := cut_lt n x hn1 hn2
  have lb := cut_lt n y hn1 hn2
  have z0 : 0 ≤ mskF n := (msk_bd _).1
  have z1 : mskF n < 18446744073709551616 := (msk_bd _).2
  have hv : cutF n (mskF n) = cutF n (rawF 4 n (cutF n x) (cutF n y)) := by rw [cut_msk n hn1 hn2]; simp [rawF, hB]
  have HV : Hid (cutF n (mskF n) = cutF n (rawF 4 n (cutF n x) (cutF n y))) := hv
  clear ca cb la lb hv
  go_enter Try.func12, Try.ntmps12
  go_wp2_with (first | (go_at_call 27; refine (rfits_any _ _).mono ?_; rintro e w' ⟨rfl, rfl⟩) | (go_at_call 28; with_reducible (refine (ref_cut_any _ _ _ ‹_› ‹_›).mono ?_); rintro e w' ⟨rfl, rfl⟩) | (go_at_call 29; refine (rmask_any _ _).mono ?_; rintro e w' ⟨rfl, rfl⟩))
  go_ret2
  exact ⟨ret_two HV.out, rfl⟩

theorem rbinary_4p (n : Nat) (x y : Int) (w : World) (hn1 : 1 ≤ n) (hn2 : n ≤ 64) (x0 : 0 ≤ x) (x1 : x < 18446744073709551616) (y0 : 0 ≤ y) (y1 : y < 18446744073709551616) (hB : ¬ cutF n y = 0) :
    Calls Try.prog 12 #[.int .i64 4, .int .i64 n, .int .u64 x, .int .u64 y] w fun e w' => e = .returned (.tuple #[.int .u64 (cutF n (rawF 4 n (cutF n x) (cutF n y))), .int .i64 0]) ∧ w' = w := by
  have hf : fitsB n = true := fits_yes (by omega) (by omega)
  have ca := cut_bd n x
  have cb := cut_bd n y
  have la := cut_lt n x hn1 hn2
  have lb := cut_lt n y hn1 hn2
  have z0 : 0 ≤ cutF n x / cutF n y := (div_bd _ _ ca.1 ca.2 cb.1).1
  have z1 : cutF n x / cutF n y < 18446744073709551616 := (div_bd _ _ ca.1 ca.2 cb.1).2
  have hv : cutF n (cutF n x / cutF n y) = cutF n (rawF 4 n (cutF n x) (cutF n y)) := by simp [rawF, hB]
  have HV : Hid (cutF n (cutF n x / cutF n y) = cutF n (rawF 4 n (cutF n x) (cutF n y))) := hv
  have hq : (cutF n y == 0) = false := by simp [hB]
  have ca0 := ca.1; have ca1 := ca.2; have cb0 := cb.1; have cb1 := cb.2
  clear ca cb la lb hv
  go_enter Try.func12, Try.ntmps12
  go_wp2_with (first | (go_at_call 27; refine (rfits_any _ _).mono ?_; rintro e w' ⟨rfl, rfl⟩) | (go_at_call 28; with_reducible (refine (ref_cut_any _ _ _ ‹_› ‹_›).mono ?_); rintro e w' ⟨rfl, rfl⟩) | (go_at_call 29; refine (rmask_any _ _).mono ?_; rintro e w' ⟨rfl, rfl⟩))
  go_ret2
  exact ⟨ret_two HV.out, rfl⟩

theorem rbinary_5z (n : Nat) (x y : Int) (w : World) (hn1 : 1 ≤ n) (hn2 : n ≤ 64) (x0 : 0 ≤ x) (x1 : x < 18446744073709551616) (y0 : 0 ≤ y) (y1 : y < 18446744073709551616) (hB : cutF n y = 0) :
    Calls Try.prog 12 #[.int .i64 5, .int .i64 n, .int .u64 x, .int .u64 y] w fun e w' => e = .returned (.tuple #[.int .u64 (cutF n (rawF 5 n (cutF n x) (cutF n y))), .int .i64 0]) ∧ w' = w := by
  have hf : fitsB n = true := fits_yes (by omega) (by omega)
  have ca := cut_bd n x
  have cb := cut_bd n y
  have la := cut_lt n x hn1 hn2
  have lb := cut_lt n y hn1 hn2
  have z0 : 0 ≤ cutF n x := (ca).1
  have z1 : cutF n x < 18446744073709551616 := (ca).2
  have hv : cutF n (cutF n x) = cutF n (rawF 5 n (cutF n x) (cutF n y)) := by simp [rawF, hB]
  have HV : Hid (cutF n (cutF n x) = cutF n (rawF 5 n (cutF n x) (cutF n y))) := hv
  clear ca cb la lb hv
  go_enter Try.func12, Try.ntmps12
  go_wp2_with (first | (go_at_call 27; refine (rfits_any _ _).mono ?_; rintro e w' ⟨rfl, rfl⟩) | (go_at_call 28; with_reducible (refine (ref_cut_any _ _ _ ‹_› ‹_›).mono ?_); rintro e w' ⟨rfl, rfl⟩))
  go_ret2
  exact ⟨ret_two HV.out, rfl⟩

theorem rbinary_5p (n : Nat) (x y : Int) (w : World) (hn1 : 1 ≤ n) (hn2 : n ≤ 64) (x0 : 0 ≤ x) (x1 : x < 18446744073709551616) (y0 : 0 ≤ y) (y1 : y < 18446744073709551616) (hB : ¬ cutF n y = 0) :
    Calls Try.prog 12 #[.int .i64 5, .int .i64 n, .int .u64 x, .int .u64 y] w fun e w' => e = .returned (.tuple #[.int .u64 (cutF n (rawF 5 n (cutF n x) (cutF n y))), .int .i64 0]) ∧ w' = w := by
  have hf : fitsB n = true := fits_yes (by omega) (by omega)
  have ca := cut_bd n x
  have cb := cut_bd n y
  have la := cut_lt n x hn1 hn2
  have lb := cut_lt n y hn1 hn2
  have z0 : 0 ≤ cutF n x % cutF n y := (mod_bd _ _ (by omega) cb.2).1
  have z1 : cutF n x % cutF n y < 18446744073709551616 := (mod_bd _ _ (by omega) cb.2).2
  have hv : cutF n (cutF n x % cutF n y) = cutF n (rawF 5 n (cutF n x) (cutF n y)) := by simp [rawF, hB]
  have HV : Hid (cutF n (cutF n x % cutF n y) = cutF n (rawF 5 n (cutF n x) (cutF n y))) := hv
  have hq : (cutF n y == 0) = false := by simp [hB]
  have ca0 := ca.1; have ca1 := ca.2; have cb0 := cb.1; have cb1 := cb.2
  clear ca cb la lb hv
  go_enter Try.func12, Try.ntmps12
  go_wp2_with (first | (go_at_call 27; refine (rfits_any _ _).mono ?_; rintro e w' ⟨rfl, rfl⟩) | (go_at_call 28; with_reducible (refine (ref_cut_any _ _ _ ‹_› ‹_›).mono ?_); rintro e w' ⟨rfl, rfl⟩))
  go_ret2
  exact ⟨ret_two HV.out, rfl⟩

end Go.Proofs.Ytplhlfmibeennaa.Wd
