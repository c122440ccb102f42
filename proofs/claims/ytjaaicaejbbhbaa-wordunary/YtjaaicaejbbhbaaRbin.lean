/- What the reference's Binary returns, operator by operator, for every input of its kinds. -/
import Derived.Test.YtjaaicaejbbhbaaShift
namespace Go.Proofs.Ytjaaicaejbbhbaa
open Go.RowKit
set_option linter.unusedVariables false

theorem cut_msk (n : Nat) (h1 : 1 ≤ n) (h2 : n ≤ 64) : cutF n (mskF n) = cutF n (-1) := by
  rw [msk_yes n h1 h2, cut_yes n _ h1 h2, cut_yes n _ h1 h2]
  have : (2 : Int) ^ n - 1 = -1 + 2 ^ n * 1 := by omega
  rw [this, Int.add_mul_emod_self_left]
theorem ret_two {a b : Int} (h : a = b) : Ending.returned (.tuple #[.int .u64 a, .int .i64 0]) = .returned (.tuple #[.int .u64 b, .int .i64 0]) := by rw [h]

theorem rbinary_1 (n : Nat) (x y : Int) (w : World) (hn1 : 1 ≤ n) (hn2 : n ≤ 64) (x0 : 0 ≤ x) (x1 : x < 18446744073709551616) (y0 : 0 ≤ y) (y1 : y < 18446744073709551616) :
    Calls Try.prog 17 #[.int .i64 1, .int .i64 n, .int .u64 x, .int .u64 y] w fun e w' => e = .returned (.tuple #[.int .u64 (cutF n (rawF 1 n (cutF n x) (cutF n y))), .int .i64 0]) ∧ w' = w := by
  have hf : fitsB n = true := fits_yes (by omega) (by omega)
  have ca := cut_bd n x
  have cb := cut_bd n y
  have la := cut_lt n x hn1 hn2
  have lb := cut_lt n y hn1 hn2
  have z0 : 0 ≤ IntKind.u64.wrap (cutF n x + cutF n y) := (u64_bd _).1
  have z1 : IntKind.u64.wrap (cutF n x + cutF n y) < 18446744073709551616 := (u64_bd _).2
  have hv : cutF n (IntKind.u64.wrap (cutF n x + cutF n y)) = cutF n (rawF 1 n (cutF n x) (cutF n y)) := by rw [cut_wrap]; simp [rawF]
  have HV : Hid (cutF n (IntKind.u64.wrap (cutF n x + cutF n y)) = cutF n (rawF 1 n (cutF n x) (cutF n y))) := hv
  clear ca cb la lb hv
  go_enter Try.func17, Try.ntmps17
  go_wp2_with (first | (go_at_call 21; refine (rfits_any _ _).mono ?_; rintro e w' ⟨rfl, rfl⟩) | (go_at_call 12; with_reducible (refine (ref_cut_any _ _ _ ‹_› ‹_›).mono ?_); rintro e w' ⟨rfl, rfl⟩))
  go_ret2
  exact ⟨ret_two HV.out, rfl⟩

theorem rbinary_2 (n : Nat) (x y : Int) (w : World) (hn1 : 1 ≤ n) (hn2 : n ≤ 64) (x0 : 0 ≤ x) (x1 : x < 18446744073709551616) (y0 : 0 ≤ y) (y1 : y < 18446744073709551616) :
    Calls Try.prog 17 #[.int .i64 2, .int .i64 n, .int .u64 x, .int .u64 y] w fun e w' => e = .returned (.tuple #[.int .u64 (cutF n (rawF 2 n (cutF n x) (cutF n y))), .int .i64 0]) ∧ w' = w := by
  have hf : fitsB n = true := fits_yes (by omega) (by omega)
  have ca := cut_bd n x
  have cb := cut_bd n y
  have la := cut_lt n x hn1 hn2
  have lb := cut_lt n y hn1 hn2
  have z0 : 0 ≤ IntKind.u64.wrap (cutF n x - cutF n y) := (u64_bd _).1
  have z1 : IntKind.u64.wrap (cutF n x - cutF n y) < 18446744073709551616 := (u64_bd _).2
  have hv : cutF n (IntKind.u64.wrap (cutF n x - cutF n y)) = cutF n (rawF 2 n (cutF n x) (cutF n y)) := by rw [cut_wrap]; simp [rawF]
  have HV : Hid (cutF n (IntKind.u64.wrap (cutF n x - cutF n y)) = cutF n (rawF 2 n (cutF n x) (cutF n y))) := hv
  clear ca cb la lb hv
  go_enter Try.func17, Try.ntmps17
  go_wp2_with (first | (go_at_call 21; refine (rfits_any _ _).mono ?_; rintro e w' ⟨rfl, rfl⟩) | (go_at_call 12; with_reducible (refine (ref_cut_any _ _ _ ‹_› ‹_›).mono ?_); rintro e w' ⟨rfl, rfl⟩))
  go_ret2
  exact ⟨ret_two HV.out, rfl⟩

theorem rbinary_3 (n : Nat) (x y : Int) (w : World) (hn1 : 1 ≤ n) (hn2 : n ≤ 64) (x0 : 0 ≤ x) (x1 : x < 18446744073709551616) (y0 : 0 ≤ y) (y1 : y < 18446744073709551616) :
    Calls Try.prog 17 #[.int .i64 3, .int .i64 n, .int .u64 x, .int .u64 y] w fun e w' => e = .returned (.tuple #[.int .u64 (cutF n (rawF 3 n (cutF n x) (cutF n y))), .int .i64 0]) ∧ w' = w := by
  have hf : fitsB n = true := fits_yes (by omega) (by omega)
  have ca := cut_bd n x
  have cb := cut_bd n y
  have la := cut_lt n x hn1 hn2
  have lb := cut_lt n y hn1 hn2
  have z0 : 0 ≤ IntKind.u64.wrap (cutF n x * cutF n y) := (u64_bd _).1
  have z1 : IntKind.u64.wrap (cutF n x * cutF n y) < 18446744073709551616 := (u64_bd _).2
  have hv : cutF n (IntKind.u64.wrap (cutF n x * cutF n y)) = cutF n (rawF 3 n (cutF n x) (cutF n y)) := by rw [cut_wrap]; simp [rawF]
  have HV : Hid (cutF n (IntKind.u64.wrap (cutF n x * cutF n y)) = cutF n (rawF 3 n (cutF n x) (cutF n y))) := hv
  clear ca cb la lb hv
  go_enter Try.func17, Try.ntmps17
  go_wp2_with (first | (go_at_call 21; refine (rfits_any _ _).mono ?_; rintro e w' ⟨rfl, rfl⟩) | (go_at_call 12; with_reducible (refine (ref_cut_any _ _ _ ‹_› ‹_›).mono ?_); rintro e w' ⟨rfl, rfl⟩))
  go_ret2
  exact ⟨ret_two HV.out, rfl⟩

theorem rbinary_4z (n : Nat) (x y : Int) (w : World) (hn1 : 1 ≤ n) (hn2 : n ≤ 64) (x0 : 0 ≤ x) (x1 : x < 18446744073709551616) (y0 : 0 ≤ y) (y1 : y < 18446744073709551616) (hB : cutF n y = 0) :
    Calls Try.prog 17 #[.int .i64 4, .int .i64 n, .int .u64 x, .int .u64 y] w fun e w' => e = .returned (.tuple #[.int .u64 (cutF n (rawF 4 n (cutF n x) (cutF n y))), .int .i64 0]) ∧ w' = w := by
  have hf : fitsB n = true := fits_yes (by omega) (by omega)
  have ca := cut_bd n x
  have cb := cut_bd n y
  have la := cut_lt n x hn1 hn2
  have lb := cut_lt n y hn1 hn2
  have z0 : 0 ≤ mskF n := (msk_bd _).1
  have z1 : mskF n < 18446744073709551616 := (msk_bd _).2
  have hv : cutF n (mskF n) = cutF n (rawF 4 n (cutF n x) (cutF n y)) := by rw [cut_msk n hn1 hn2]; simp [rawF, hB]
  have HV : Hid (cutF n (mskF n) = cutF n (rawF 4 n (cutF n x) (cutF n y))) := hv
  clear ca cb la lb hv
  go_enter Try.func17, Try.ntmps17
  go_wp2_with (first | (go_at_call 21; refine (rfits_any _ _).mono ?_; rintro e w' ⟨rfl, rfl⟩) | (go_at_call 12; with_reducible (refine (ref_cut_any _ _ _ ‹_› ‹_›).mono ?_); rintro e w' ⟨rfl, rfl⟩) | (go_at_call 10; refine (rmask_any _ _).mono ?_; rintro e w' ⟨rfl, rfl⟩))
  go_ret2
  exact ⟨ret_two HV.out, rfl⟩

theorem rbinary_4p (n : Nat) (x y : Int) (w : World) (hn1 : 1 ≤ n) (hn2 : n ≤ 64) (x0 : 0 ≤ x) (x1 : x < 18446744073709551616) (y0 : 0 ≤ y) (y1 : y < 18446744073709551616) (hB : ¬ cutF n y = 0) :
    Calls Try.prog 17 #[.int .i64 4, .int .i64 n, .int .u64 x, .int .u64 y] w fun e w' => e = .returned (.tuple #[.int .u64 (cutF n (rawF 4 n (cutF n x) (cutF n y))), .int .i64 0]) ∧ w' = w := by
  have hf : fitsB n = true := fits_yes (by omega) (by omega)
  have ca := cut_bd n x
  have cb := cut_bd n y
  have la := cut_lt n x hn1 hn2
  have lb := cut_lt n y hn1 hn2
  have z0 : 0 ≤ cutF n x / cutF n y := (div_bd _ _ ca.1 ca.2 cb.1).1
  have z1 : cutF n x / cutF n y < 18446744073709551616 := (div_bd _ _ ca.1 ca.2 cb.1).2
  have hv : cutF n (cutF n x / cutF n y) = cutF n (rawF 4 n (cutF n x) (cutF n y)) := by simp [rawF, hB]
  have HV : Hid (cutF n (cutF n x / cutF n y) = cutF n (rawF 4 n (cutF n x) (cutF n y))) := hv
  have hq : (cutF n y == 0) = false := by simp [hB]
  have ca0 := ca.1; have ca1 := ca.2; have cb0 := cb.1; have cb1 := cb.2
  clear ca cb la lb hv
  go_enter Try.func17, Try.ntmps17
  go_wp2_with (first | (go_at_call 21; refine (rfits_any _ _).mono ?_; rintro e w' ⟨rfl, rfl⟩) | (go_at_call 12; with_reducible (refine (ref_cut_any _ _ _ ‹_› ‹_›).mono ?_); rintro e w' ⟨rfl, rfl⟩) | (go_at_call 10; refine (rmask_any _ _).mono ?_; rintro e w' ⟨rfl, rfl⟩))
  go_ret2
  exact ⟨ret_two HV.out, rfl⟩

theorem rbinary_5z (n : Nat) (x y : Int) (w : World) (hn1 : 1 ≤ n) (hn2 : n ≤ 64) (x0 : 0 ≤ x) (x1 : x < 18446744073709551616) (y0 : 0 ≤ y) (y1 : y < 18446744073709551616) (hB : cutF n y = 0) :
    Calls Try.prog 17 #[.int .i64 5, .int .i64 n, .int .u64 x, .int .u64 y] w fun e w' => e = .returned (.tuple #[.int .u64 (cutF n (rawF 5 n (cutF n x) (cutF n y))), .int .i64 0]) ∧ w' = w := by
  have hf : fitsB n = true := fits_yes (by omega) (by omega)
  have ca := cut_bd n x
  have cb := cut_bd n y
  have la := cut_lt n x hn1 hn2
  have lb := cut_lt n y hn1 hn2
  have z0 : 0 ≤ cutF n x := (ca).1
  have z1 : cutF n x < 18446744073709551616 := (ca).2
  have hv : cutF n (cutF n x) = cutF n (rawF 5 n (cutF n x) (cutF n y)) := by simp [rawF, hB]
  have HV : Hid (cutF n (cutF n x) = cutF n (rawF 5 n (cutF n x) (cutF n y))) := hv
  clear ca cb la lb hv
  go_enter Try.func17, Try.ntmps17
  go_wp2_with (first | (go_at_call 21; refine (rfits_any _ _).mono ?_; rintro e w' ⟨rfl, rfl⟩) | (go_at_call 12; with_reducible (refine (ref_cut_any _ _ _ ‹_› ‹_›).mono ?_); rintro e w' ⟨rfl, rfl⟩))
  go_ret2
  exact ⟨ret_two HV.out, rfl⟩

theorem rbinary_5p (n : Nat) (x y : Int) (w : World) (hn1 : 1 ≤ n) (hn2 : n ≤ 64) (x0 : 0 ≤ x) (x1 : x < 18446744073709551616) (y0 : 0 ≤ y) (y1 : y < 18446744073709551616) (hB : ¬ cutF n y = 0) :
    Calls Try.prog 17 #[.int .i64 5, .int .i64 n, .int .u64 x, .int .u64 y] w fun e w' => e = .returned (.tuple #[.int .u64 (cutF n (rawF 5 n (cutF n x) (cutF n y))), .int .i64 0]) ∧ w' = w := by
  have hf : fitsB n = true := fits_yes (by omega) (by omega)
  have ca := cut_bd n x
  have cb := cut_bd n y
  have la := cut_lt n x hn1 hn2
  have lb := cut_lt n y hn1 hn2
  have z0 : 0 ≤ cutF n x % cutF n y := (mod_bd _ _ (by omega) cb.2).1
  have z1 : cutF n x % cutF n y < 18446744073709551616 := (mod_bd _ _ (by omega) cb.2).2
  have hv : cutF n (cutF n x % cutF n y) = cutF n (rawF 5 n (cutF n x) (cutF n y)) := by simp [rawF, hB]
  have HV : Hid (cutF n (cutF n x % cutF n y) = cutF n (rawF 5 n (cutF n x) (cutF n y))) := hv
  have hq : (cutF n y == 0) = false := by simp [hB]
  have ca0 := ca.1; have ca1 := ca.2; have cb0 := cb.1; have cb1 := cb.2
  clear ca cb la lb hv
  go_enter Try.func17, Try.ntmps17
  go_wp2_with (first | (go_at_call 21; refine (rfits_any _ _).mono ?_; rintro e w' ⟨rfl, rfl⟩) | (go_at_call 12; with_reducible (refine (ref_cut_any _ _ _ ‹_› ‹_›).mono ?_); rintro e w' ⟨rfl, rfl⟩))
  go_ret2
  exact ⟨ret_two HV.out, rfl⟩

theorem rbinary_6 (n : Nat) (x y : Int) (w : World) (hn1 : 1 ≤ n) (hn2 : n ≤ 64) (x0 : 0 ≤ x) (x1 : x < 18446744073709551616) (y0 : 0 ≤ y) (y1 : y < 18446744073709551616) :
    Calls Try.prog 17 #[.int .i64 6, .int .i64 n, .int .u64 x, .int .u64 y] w fun e w' => e = .returned (.tuple #[.int .u64 (cutF n (rawF 6 n (cutF n x) (cutF n y))), .int .i64 0]) ∧ w' = w := by
  have hf : fitsB n = true := fits_yes (by omega) (by omega)
  have ca := cut_bd n x
  have cb := cut_bd n y
  have la := cut_lt n x hn1 hn2
  have lb := cut_lt n y hn1 hn2
  have z0 : 0 ≤ bits .and .u64 (cutF n x) (cutF n y) := (bits_bd _ _ _).1
  have z1 : bits .and .u64 (cutF n x) (cutF n y) < 18446744073709551616 := (bits_bd _ _ _).2
  have hv : cutF n (bits .and .u64 (cutF n x) (cutF n y)) = cutF n (rawF 6 n (cutF n x) (cutF n y)) := by simp [rawF]
  have HV : Hid (cutF n (bits .and .u64 (cutF n x) (cutF n y)) = cutF n (rawF 6 n (cutF n x) (cutF n y))) := hv
  clear ca cb la lb hv
  go_enter Try.func17, Try.ntmps17
  go_wp2_with (first | (go_at_call 21; refine (rfits_any _ _).mono ?_; rintro e w' ⟨rfl, rfl⟩) | (go_at_call 12; with_reducible (refine (ref_cut_any _ _ _ ‹_› ‹_›).mono ?_); rintro e w' ⟨rfl, rfl⟩))
  go_ret2
  exact ⟨ret_two HV.out, rfl⟩

theorem rbinary_7 (n : Nat) (x y : Int) (w : World) (hn1 : 1 ≤ n) (hn2 : n ≤ 64) (x0 : 0 ≤ x) (x1 : x < 18446744073709551616) (y0 : 0 ≤ y) (y1 : y < 18446744073709551616) :
    Calls Try.prog 17 #[.int .i64 7, .int .i64 n, .int .u64 x, .int .u64 y] w fun e w' => e = .returned (.tuple #[.int .u64 (cutF n (rawF 7 n (cutF n x) (cutF n y))), .int .i64 0]) ∧ w' = w := by
  have hf : fitsB n = true := fits_yes (by omega) (by omega)
  have ca := cut_bd n x
  have cb := cut_bd n y
  have la := cut_lt n x hn1 hn2
  have lb := cut_lt n y hn1 hn2
  have z0 : 0 ≤ bits .or .u64 (cutF n x) (cutF n y) := (bits_bd _ _ _).1
  have z1 : bits .or .u64 (cutF n x) (cutF n y) < 18446744073709551616 := (bits_bd _ _ _).2
  have hv : cutF n (bits .or .u64 (cutF n x) (cutF n y)) = cutF n (rawF 7 n (cutF n x) (cutF n y)) := by simp [rawF]
  have HV : Hid (cutF n (bits .or .u64 (cutF n x) (cutF n y)) = cutF n (rawF 7 n (cutF n x) (cutF n y))) := hv
  clear ca cb la lb hv
  go_enter Try.func17, Try.ntmps17
  go_wp2_with (first | (go_at_call 21; refine (rfits_any _ _).mono ?_; rintro e w' ⟨rfl, rfl⟩) | (go_at_call 12; with_reducible (refine (ref_cut_any _ _ _ ‹_› ‹_›).mono ?_); rintro e w' ⟨rfl, rfl⟩))
  go_ret2
  exact ⟨ret_two HV.out, rfl⟩

theorem rbinary_8 (n : Nat) (x y : Int) (w : World) (hn1 : 1 ≤ n) (hn2 : n ≤ 64) (x0 : 0 ≤ x) (x1 : x < 18446744073709551616) (y0 : 0 ≤ y) (y1 : y < 18446744073709551616) :
    Calls Try.prog 17 #[.int .i64 8, .int .i64 n, .int .u64 x, .int .u64 y] w fun e w' => e = .returned (.tuple #[.int .u64 (cutF n (rawF 8 n (cutF n x) (cutF n y))), .int .i64 0]) ∧ w' = w := by
  have hf : fitsB n = true := fits_yes (by omega) (by omega)
  have ca := cut_bd n x
  have cb := cut_bd n y
  have la := cut_lt n x hn1 hn2
  have lb := cut_lt n y hn1 hn2
  have z0 : 0 ≤ bits .xor .u64 (cutF n x) (cutF n y) := (bits_bd _ _ _).1
  have z1 : bits .xor .u64 (cutF n x) (cutF n y) < 18446744073709551616 := (bits_bd _ _ _).2
  have hv : cutF n (bits .xor .u64 (cutF n x) (cutF n y)) = cutF n (rawF 8 n (cutF n x) (cutF n y)) := by simp [rawF]
  have HV : Hid (cutF n (bits .xor .u64 (cutF n x) (cutF n y)) = cutF n (rawF 8 n (cutF n x) (cutF n y))) := hv
  clear ca cb la lb hv
  go_enter Try.func17, Try.ntmps17
  go_wp2_with (first | (go_at_call 21; refine (rfits_any _ _).mono ?_; rintro e w' ⟨rfl, rfl⟩) | (go_at_call 12; with_reducible (refine (ref_cut_any _ _ _ ‹_› ‹_›).mono ?_); rintro e w' ⟨rfl, rfl⟩))
  go_ret2
  exact ⟨ret_two HV.out, rfl⟩

theorem rbinary_9 (n : Nat) (x y : Int) (w : World) (hn1 : 1 ≤ n) (hn2 : n ≤ 64) (x0 : 0 ≤ x) (x1 : x < 18446744073709551616) (y0 : 0 ≤ y) (y1 : y < 18446744073709551616) :
    Calls Try.prog 17 #[.int .i64 9, .int .i64 n, .int .u64 x, .int .u64 y] w fun e w' => e = .returned (.tuple #[.int .u64 (cutF n (rawF 9 n (cutF n x) (cutF n y))), .int .i64 0]) ∧ w' = w := by
  have hf : fitsB n = true := fits_yes (by omega) (by omega)
  have ca := cut_bd n x
  have cb := cut_bd n y
  have la := cut_lt n x hn1 hn2
  have lb := cut_lt n y hn1 hn2
  have zz : 0 ≤ cutF n x * 2 ^ min (cutF n y).toNat 64 % 2 ^ n ∧ cutF n x * 2 ^ min (cutF n y).toNat 64 % 2 ^ n < 18446744073709551616 := by have p := pos2 n; have q := pow_le64 n hn2; have r0 := Int.emod_nonneg (cutF n x * 2 ^ min (cutF n y).toNat 64) (show (2 : Int) ^ n ≠ 0 by omega); have r1 := Int.emod_lt_of_pos (cutF n x * 2 ^ min (cutF n y).toNat 64) p; exact (⟨r0, by omega⟩ : 0 ≤ cutF n x * 2 ^ min (cutF n y).toNat 64 % 2 ^ n ∧ cutF n x * 2 ^ min (cutF n y).toNat 64 % 2 ^ n < 18446744073709551616)
  have z0 := zz.1
  have z1 := zz.2
  clear zz
  have hv : cutF n (cutF n x * 2 ^ min (cutF n y).toNat 64 % 2 ^ n) = cutF n (rawF 9 n (cutF n x) (cutF n y)) := by rw [cut_mod n _ hn1 hn2]; simp [rawF]
  have HV : Hid (cutF n (cutF n x * 2 ^ min (cutF n y).toNat 64 % 2 ^ n) = cutF n (rawF 9 n (cutF n x) (cutF n y))) := hv
  have hsh := fun (w : World) => shift_9 n (cutF n x) (cutF n y) w hn1 hn2 ca.1 ca.2 cb.1 cb.2
  clear ca cb la lb hv
  go_enter Try.func17, Try.ntmps17
  go_wp2_with (first | (go_at_call 21; refine (rfits_any _ _).mono ?_; rintro e w' ⟨rfl, rfl⟩) | (go_at_call 12; with_reducible (refine (ref_cut_any _ _ _ ‹_› ‹_›).mono ?_); rintro e w' ⟨rfl, rfl⟩) | (go_at_call 25; refine (hsh _).mono ?_; rintro e w' ⟨rfl, rfl⟩))
  go_ret2
  exact ⟨ret_two HV.out, rfl⟩

theorem rbinary_10 (n : Nat) (x y : Int) (w : World) (hn1 : 1 ≤ n) (hn2 : n ≤ 64) (x0 : 0 ≤ x) (x1 : x < 18446744073709551616) (y0 : 0 ≤ y) (y1 : y < 18446744073709551616) :
    Calls Try.prog 17 #[.int .i64 10, .int .i64 n, .int .u64 x, .int .u64 y] w fun e w' => e = .returned (.tuple #[.int .u64 (cutF n (rawF 10 n (cutF n x) (cutF n y))), .int .i64 0]) ∧ w' = w := by
  have hf : fitsB n = true := fits_yes (by omega) (by omega)
  have ca := cut_bd n x
  have cb := cut_bd n y
  have la := cut_lt n x hn1 hn2
  have lb := cut_lt n y hn1 hn2
  have zz : 0 ≤ cutF n x / 2 ^ min (cutF n y).toNat 64 % 2 ^ n ∧ cutF n x / 2 ^ min (cutF n y).toNat 64 % 2 ^ n < 18446744073709551616 := by have p := pos2 n; have q := pow_le64 n hn2; have r0 := Int.emod_nonneg (cutF n x / 2 ^ min (cutF n y).toNat 64) (show (2 : Int) ^ n ≠ 0 by omega); have r1 := Int.emod_lt_of_pos (cutF n x / 2 ^ min (cutF n y).toNat 64) p; exact (⟨r0, by omega⟩ : 0 ≤ cutF n x / 2 ^ min (cutF n y).toNat 64 % 2 ^ n ∧ cutF n x / 2 ^ min (cutF n y).toNat 64 % 2 ^ n < 18446744073709551616)
  have z0 := zz.1
  have z1 := zz.2
  clear zz
  have hv : cutF n (cutF n x / 2 ^ min (cutF n y).toNat 64 % 2 ^ n) = cutF n (rawF 10 n (cutF n x) (cutF n y)) := by rw [cut_mod n _ hn1 hn2]; simp [rawF]
  have HV : Hid (cutF n (cutF n x / 2 ^ min (cutF n y).toNat 64 % 2 ^ n) = cutF n (rawF 10 n (cutF n x) (cutF n y))) := hv
  have hsh := fun (w : World) => shift_10 n (cutF n x) (cutF n y) w hn1 hn2 ca.1 la.2 cb.1 cb.2
  clear ca cb la lb hv
  go_enter Try.func17, Try.ntmps17
  go_wp2_with (first | (go_at_call 21; refine (rfits_any _ _).mono ?_; rintro e w' ⟨rfl, rfl⟩) | (go_at_call 12; with_reducible (refine (ref_cut_any _ _ _ ‹_› ‹_›).mono ?_); rintro e w' ⟨rfl, rfl⟩) | (go_at_call 25; refine (hsh _).mono ?_; rintro e w' ⟨rfl, rfl⟩))
  go_ret2
  exact ⟨ret_two HV.out, rfl⟩

theorem rbinary_11 (n : Nat) (x y : Int) (w : World) (hn1 : 1 ≤ n) (hn2 : n ≤ 64) (x0 : 0 ≤ x) (x1 : x < 18446744073709551616) (y0 : 0 ≤ y) (y1 : y < 18446744073709551616) :
    Calls Try.prog 17 #[.int .i64 11, .int .i64 n, .int .u64 x, .int .u64 y] w fun e w' => e = .returned (.tuple #[.int .u64 (cutF n (rawF 11 n (cutF n x) (cutF n y))), .int .i64 0]) ∧ w' = w := by
  have hf : fitsB n = true := fits_yes (by omega) (by omega)
  have ca := cut_bd n x
  have cb := cut_bd n y
  have la := cut_lt n x hn1 hn2
  have lb := cut_lt n y hn1 hn2
  have zz : 0 ≤ sgnF n (cutF n x) / 2 ^ min (cutF n y).toNat 64 % 2 ^ n ∧ sgnF n (cutF n x) / 2 ^ min (cutF n y).toNat 64 % 2 ^ n < 18446744073709551616 := by have p := pos2 n; have q := pow_le64 n hn2; have r0 := Int.emod_nonneg (sgnF n (cutF n x) / 2 ^ min (cutF n y).toNat 64) (show (2 : Int) ^ n ≠ 0 by omega); have r1 := Int.emod_lt_of_pos (sgnF n (cutF n x) / 2 ^ min (cutF n y).toNat 64) p; exact (⟨r0, by omega⟩ : 0 ≤ sgnF n (cutF n x) / 2 ^ min (cutF n y).toNat 64 % 2 ^ n ∧ sgnF n (cutF n x) / 2 ^ min (cutF n y).toNat 64 % 2 ^ n < 18446744073709551616)
  have z0 := zz.1
  have z1 := zz.2
  clear zz
  have hv : cutF n (sgnF n (cutF n x) / 2 ^ min (cutF n y).toNat 64 % 2 ^ n) = cutF n (rawF 11 n (cutF n x) (cutF n y)) := by rw [cut_mod n _ hn1 hn2]; simp [rawF]
  have HV : Hid (cutF n (sgnF n (cutF n x) / 2 ^ min (cutF n y).toNat 64 % 2 ^ n) = cutF n (rawF 11 n (cutF n x) (cutF n y))) := hv
  have hsh := fun (w : World) => shift_11 n (cutF n x) (cutF n y) w hn1 hn2 ca.1 la.2 cb.1 cb.2
  clear ca cb la lb hv
  go_enter Try.func17, Try.ntmps17
  go_wp2_with (first | (go_at_call 21; refine (rfits_any _ _).mono ?_; rintro e w' ⟨rfl, rfl⟩) | (go_at_call 12; with_reducible (refine (ref_cut_any _ _ _ ‹_› ‹_›).mono ?_); rintro e w' ⟨rfl, rfl⟩) | (go_at_call 25; refine (hsh _).mono ?_; rintro e w' ⟨rfl, rfl⟩))
  go_ret2
  exact ⟨ret_two HV.out, rfl⟩

theorem rbinary_12 (n : Nat) (x y : Int) (w : World) (hn1 : 1 ≤ n) (hn2 : n ≤ 64) (x0 : 0 ≤ x) (x1 : x < 18446744073709551616) (y0 : 0 ≤ y) (y1 : y < 18446744073709551616) :
    Calls Try.prog 17 #[.int .i64 12, .int .i64 n, .int .u64 x, .int .u64 y] w fun e w' => e = .returned (.tuple #[.int .u64 (cutF n (rawF 12 n (cutF n x) (cutF n y))), .int .i64 0]) ∧ w' = w := by
  have hf : fitsB n = true := fits_yes (by omega) (by omega)
  have ca := cut_bd n x
  have cb := cut_bd n y
  have la := cut_lt n x hn1 hn2
  have lb := cut_lt n y hn1 hn2
  have z0 : 0 ≤ b01 (cutF n x == cutF n y) := (b01_bd _).1
  have z1 : b01 (cutF n x == cutF n y) < 18446744073709551616 := (b01_bd _).2
  have hv : cutF n (b01 (cutF n x == cutF n y)) = cutF n (rawF 12 n (cutF n x) (cutF n y)) := by simp [rawF]
  have HV : Hid (cutF n (b01 (cutF n x == cutF n y)) = cutF n (rawF 12 n (cutF n x) (cutF n y))) := hv
  clear ca cb la lb hv
  go_enter Try.func17, Try.ntmps17
  go_wp2_with (first | (go_at_call 21; refine (rfits_any _ _).mono ?_; rintro e w' ⟨rfl, rfl⟩) | (go_at_call 12; with_reducible (refine (ref_cut_any _ _ _ ‹_› ‹_›).mono ?_); rintro e w' ⟨rfl, rfl⟩) | (go_at_call 24; refine (one_any _ _).mono ?_; rintro e w' ⟨rfl, rfl⟩))
  go_ret2
  exact ⟨ret_two HV.out, rfl⟩

theorem rbinary_13 (n : Nat) (x y : Int) (w : World) (hn1 : 1 ≤ n) (hn2 : n ≤ 64) (x0 : 0 ≤ x) (x1 : x < 18446744073709551616) (y0 : 0 ≤ y) (y1 : y < 18446744073709551616) :
    Calls Try.prog 17 #[.int .i64 13, .int .i64 n, .int .u64 x, .int .u64 y] w fun e w' => e = .returned (.tuple #[.int .u64 (cutF n (rawF 13 n (cutF n x) (cutF n y))), .int .i64 0]) ∧ w' = w := by
  have hf : fitsB n = true := fits_yes (by omega) (by omega)
  have ca := cut_bd n x
  have cb := cut_bd n y
  have la := cut_lt n x hn1 hn2
  have lb := cut_lt n y hn1 hn2
  have z0 : 0 ≤ b01 (decide (cutF n x < cutF n y)) := (b01_bd _).1
  have z1 : b01 (decide (cutF n x < cutF n y)) < 18446744073709551616 := (b01_bd _).2
  have hv : cutF n (b01 (decide (cutF n x < cutF n y))) = cutF n (rawF 13 n (cutF n x) (cutF n y)) := by simp [rawF]
  have HV : Hid (cutF n (b01 (decide (cutF n x < cutF n y))) = cutF n (rawF 13 n (cutF n x) (cutF n y))) := hv
  clear ca cb la lb hv
  go_enter Try.func17, Try.ntmps17
  go_wp2_with (first | (go_at_call 21; refine (rfits_any _ _).mono ?_; rintro e w' ⟨rfl, rfl⟩) | (go_at_call 12; with_reducible (refine (ref_cut_any _ _ _ ‹_› ‹_›).mono ?_); rintro e w' ⟨rfl, rfl⟩) | (go_at_call 24; refine (one_any _ _).mono ?_; rintro e w' ⟨rfl, rfl⟩))
  go_ret2
  exact ⟨ret_two HV.out, rfl⟩

theorem rbinary_14 (n : Nat) (x y : Int) (w : World) (hn1 : 1 ≤ n) (hn2 : n ≤ 64) (x0 : 0 ≤ x) (x1 : x < 18446744073709551616) (y0 : 0 ≤ y) (y1 : y < 18446744073709551616) :
    Calls Try.prog 17 #[.int .i64 14, .int .i64 n, .int .u64 x, .int .u64 y] w fun e w' => e = .returned (.tuple #[.int .u64 (cutF n (rawF 14 n (cutF n x) (cutF n y))), .int .i64 0]) ∧ w' = w := by
  have hf : fitsB n = true := fits_yes (by omega) (by omega)
  have ca := cut_bd n x
  have cb := cut_bd n y
  have la := cut_lt n x hn1 hn2
  have lb := cut_lt n y hn1 hn2
  have z0 : 0 ≤ b01 (decide (sgnF n (cutF n x) < sgnF n (cutF n y))) := (b01_bd _).1
  have z1 : b01 (decide (sgnF n (cutF n x) < sgnF n (cutF n y))) < 18446744073709551616 := (b01_bd _).2
  have hv : cutF n (b01 (decide (sgnF n (cutF n x) < sgnF n (cutF n y)))) = cutF n (rawF 14 n (cutF n x) (cutF n y)) := by simp [rawF]
  have HV : Hid (cutF n (b01 (decide (sgnF n (cutF n x) < sgnF n (cutF n y)))) = cutF n (rawF 14 n (cutF n x) (cutF n y))) := hv
  have ca0 := ca.1; have ca1 := ca.2; have cb0 := cb.1; have cb1 := cb.2
  clear ca cb la lb hv
  go_enter Try.func17, Try.ntmps17
  go_wp2_with (first | (go_at_call 21; refine (rfits_any _ _).mono ?_; rintro e w' ⟨rfl, rfl⟩) | (go_at_call 12; with_reducible (refine (ref_cut_any _ _ _ ‹_› ‹_›).mono ?_); rintro e w' ⟨rfl, rfl⟩) | (go_at_call 24; refine (one_any _ _).mono ?_; rintro e w' ⟨rfl, rfl⟩) | (go_at_call 14; refine (rsigned_any _ _ _ ‹_› ‹_›).mono ?_; rintro e w' ⟨rfl, rfl⟩))
  go_ret2
  exact ⟨ret_two HV.out, rfl⟩
end Go.Proofs.Ytjaaicaejbbhbaa
