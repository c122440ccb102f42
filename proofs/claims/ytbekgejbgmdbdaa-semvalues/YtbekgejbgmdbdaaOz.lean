/-
  The document's words (stage 1), its one and its All.
-/
import Derived.Test.YtbekgejbgmdbdaaWCalls
import Derived.Test.YtbekgejbgmdbdaaPb
import Derived.Test.YtbekgejbgmdbdaaRef
import Derived.Test.YtbekgejbgmdbdaaVw
namespace Go.Proofs.Ytbekgejbgmdbdaa.Wd
section
open Go.RowKit
set_option linter.unusedVariables false

theorem one_any (b : Bool) (w : World) :
    Calls Try.prog 72 #[.bool b] w fun e w' => e = .returned (.int .u64 (b01 b)) ∧ w' = w := by
  cases b
  all_goals
    go_enter Try.func72, Try.ntmps72
    go_wp2
    go_ret
    exact ⟨rfl, rfl⟩

theorem bitB_eq (x : Int) (k : Nat) (x0 : 0 ≤ x) : b01 (bitB x k) = x / 2 ^ k % 2 := by
  unfold bitB
  have h0 := Int.ediv_nonneg x0 (Int.le_of_lt (pos2 k))
  rw [Int.tmod_eq_emod_of_nonneg h0]
  have : x / 2 ^ k % 2 = 0 ∨ x / 2 ^ k % 2 = 1 := by omega
  rcases this with h | h <;> rw [h] <;> rfl

theorem move_step (T x : Int) (k : Nat) (b : Bool) (hk : k < 64) (hx : x = T % 2 ^ k) (hb : b01 b = T / 2 ^ k % 2) :
    bits .or .u64 x (IntKind.u64.wrap (b01 b * 2 ^ k)) = T % 2 ^ (k + 1) := by
  have p := pos2 k
  rw [or_bit x k b hk (by rw [hx]; exact Int.emod_nonneg _ (by omega)) (by rw [hx]; exact Int.emod_lt_of_pos _ p), hx, hb, bit_more]

/-- Up. -/
theorem moved_up (n s : Nat) (a : Int) (w : World) (hn1 : 1 ≤ n) (hn2 : n ≤ 64) (hs : s ≤ 64) (a0 : 0 ≤ a) (a1 : a < 18446744073709551616) :
    Calls Try.prog 88 #[.int .i64 n, .int .u64 a, .int .i64 s, .bool false] w fun e w' => e = .returned (.int .u64 (a * 2 ^ s % 2 ^ n)) ∧ w' = w := by
  go_enter Try.func88, Try.ntmps88
  go_wp2
  go_loop [9, 10] (fun x i => ∃ k : Nat, k ≤ n ∧ i = .int .i64 k ∧ x = .int .u64 (a * 2 ^ s % 2 ^ k)) (fun _ i => (n - intOf i).toNat)
  case atStart => exact ⟨0, by omega, rfl, by simp [Int.emod_one]⟩
  case round =>
    obtain ⟨k, hk, rfl, rfl⟩ := hrel
    by_cases hlt : k < n
    · by_cases hf : s ≤ k
      · have e1 : (k : Int) - (s : Int) = ((k - s : Nat) : Int) := by omega
        have hbit := fun (w : World) => rbit_any a (k - s) w a0 a1 (by omega)
        rw [← e1] at hbit
        have HS : Hid (bits .or .u64 (a * 2 ^ s % 2 ^ k) (IntKind.u64.wrap (b01 (bitB a (k - s)) * 2 ^ k)) = a * 2 ^ s % 2 ^ (k + 1)) := move_step _ _ k _ (by omega) rfl (by rw [bitB_eq _ _ a0, up_bit, if_pos hf])
        clear e1
        go_wp2_with (first | (go_at_call 71; refine (hbit _).mono ?_; rintro e w' ⟨rfl, rfl⟩) | (go_at_call 72; refine (one_any _ _).mono ?_; rintro e w' ⟨rfl, rfl⟩))
        go_round
        case rel => exact ⟨k + 1, by omega, by go_num, by rw [← HS.out]⟩
        case measure => simp [intOf]; omega
      · have HS : Hid (bits .or .u64 (a * 2 ^ s % 2 ^ k) (IntKind.u64.wrap (b01 false * 2 ^ k)) = a * 2 ^ s % 2 ^ (k + 1)) := move_step _ _ k _ (by omega) rfl (by rw [up_bit, if_neg hf]; rfl)
        go_wp2_with (first | (go_at_call 72; refine (one_any _ _).mono ?_; rintro e w' ⟨rfl, rfl⟩))
        go_round
        case rel => exact ⟨k + 1, by omega, by go_num, by rw [← HS.out]⟩
        case measure => simp [intOf]; omega
    · go_wp2
      go_ret
      exact ⟨ret_int (by rw [show k = n by omega]), rfl⟩

/-- Down, filled. -/
def lowF (n : Nat) (a : Int) (fill : Bool) : Int := a - b01 fill * 2 ^ n
theorem low_in (n k : Nat) (a : Int) (fill : Bool) (h : k < n) : lowF n a fill / 2 ^ k % 2 = a / 2 ^ k % 2 := by
  unfold lowF
  cases fill
  · simp [b01]
  · have e : b01 true * 2 ^ n = 2 ^ n := by simp [b01]
    rw [e]; exact top_minus a n k h
theorem low_out (n k : Nat) (a : Int) (fill : Bool) (h : n ≤ k) (a0 : 0 ≤ a) (a1 : a < 2 ^ n) : lowF n a fill / 2 ^ k % 2 = b01 fill := by
  unfold lowF
  cases fill
  · simp only [b01]; simpa using top_none a n k h a0 a1
  · have e : b01 true * 2 ^ n = 2 ^ n := by simp [b01]
    rw [e, top_out a n k h a0 a1]; rfl

theorem moved_down (n s : Nat) (a : Int) (fill : Bool) (w : World) (hn1 : 1 ≤ n) (hn2 : n ≤ 64) (hs : s ≤ 64) (a0 : 0 ≤ a) (a1 : a < 2 ^ n) :
    Calls Try.prog 88 #[.int .i64 n, .int .u64 a, .int .i64 (-(s : Int)), .bool fill] w fun e w' => e = .returned (.int .u64 (lowF n a fill / 2 ^ s % 2 ^ n)) ∧ w' = w := by
  have A1 : a < 18446744073709551616 := by have := pow_le64 n hn2; omega
  have HA : Hid (a < 2 ^ n) := a1
  clear a1
  go_enter Try.func88, Try.ntmps88
  go_wp2
  go_loop [9, 10] (fun x i => ∃ k : Nat, k ≤ n ∧ i = .int .i64 k ∧ x = .int .u64 (lowF n a fill / 2 ^ s % 2 ^ k)) (fun _ i => (n - intOf i).toNat)
  case atStart => exact ⟨0, by omega, rfl, by simp [Int.emod_one]⟩
  case round =>
    obtain ⟨k, hk, rfl, rfl⟩ := hrel
    by_cases hlt : k < n
    · by_cases hf : k + s < n
      · have e1 : (k : Int) + (s : Int) = ((k + s : Nat) : Int) := by omega
        have hbit := fun (w : World) => rbit_any a (k + s) w a0 A1 (by omega)
        rw [← e1] at hbit
        have HS : Hid (bits .or .u64 (lowF n a fill / 2 ^ s % 2 ^ k) (IntKind.u64.wrap (b01 (bitB a (k + s)) * 2 ^ k)) = lowF n a fill / 2 ^ s % 2 ^ (k + 1)) := move_step _ _ k _ (by omega) rfl (by rw [bitB_eq _ _ a0, down_bit, low_in n (k + s) a fill hf])
        clear e1
        go_wp2_with (first | (go_at_call 71; refine (hbit _).mono ?_; rintro e w' ⟨rfl, rfl⟩) | (go_at_call 72; refine (one_any _ _).mono ?_; rintro e w' ⟨rfl, rfl⟩))
        go_round
        case rel => exact ⟨k + 1, by omega, by go_num, by rw [← HS.out]⟩
        case measure => simp [intOf]; omega
      · have HS : Hid (bits .or .u64 (lowF n a fill / 2 ^ s % 2 ^ k) (IntKind.u64.wrap (b01 fill * 2 ^ k)) = lowF n a fill / 2 ^ s % 2 ^ (k + 1)) := move_step _ _ k _ (by omega) rfl (by rw [down_bit, low_out n (k + s) a fill (by omega) a0 HA.out])
        go_wp2_with (first | (go_at_call 72; refine (one_any _ _).mono ?_; rintro e w' ⟨rfl, rfl⟩))
        go_round
        case rel => exact ⟨k + 1, by omega, by go_num, by rw [← HS.out]⟩
        case measure => simp [intOf]; omega
    · go_wp2
      go_ret
      exact ⟨ret_int (by rw [show k = n by omega]), rfl⟩
end
end Go.Proofs.Ytbekgejbgmdbdaa.Wd

namespace Go.Proofs.Ytbekgejbgmdbdaa.Wd
section
open Go.RowKit
set_option linter.unusedVariables false

theorem min64 (b : Int) (b0 : 0 ≤ b) : ∃ s : Nat, s = min b.toNat 64 ∧ s ≤ 64 := ⟨min b.toNat 64, rfl, by omega⟩

theorem low_false (n : Nat) (a : Int) : lowF n a false = a := by simp [lowF, b01]
theorem low_sign (n : Nat) (a : Int) (h1 : 1 ≤ n) (h2 : n ≤ 64) (a0 : 0 ≤ a) (a1 : a < 2 ^ n) : lowF n a (bitB a (n - 1)) = sgnF n a := by
  unfold bitB
  rw [top_bit n a h1 a0 a1, sgn_yes n a h1 h2, Int.emod_eq_of_lt a0 a1]
  by_cases h : a < 2 ^ (n - 1) <;> simp [lowF, b01, h]

theorem shift_9 (n : Nat) (a b : Int) (w : World) (hn1 : 1 ≤ n) (hn2 : n ≤ 64) (a0 : 0 ≤ a) (a1 : a < 18446744073709551616) (b0 : 0 ≤ b) (b1 : b < 18446744073709551616) :
    Calls Try.prog 73 #[.int .i64 9, .int .i64 n, .int .u64 a, .int .u64 b] w fun e w' => e = .returned (.int .u64 (a * 2 ^ min b.toNat 64 % 2 ^ n)) ∧ w' = w := by
  by_cases hb : b < 64
  · obtain ⟨s, rfl⟩ := Int.eq_ofNat_of_zero_le b0
    have hs : s < 64 := by omega
    have hm : min ((s : Int)).toNat 64 = s := by omega
    rw [hm]
    clear hm b1
    go_enter Try.func73, Try.ntmps73
    go_wp2_with (go_at_call 88; refine (moved_up n s a _ hn1 hn2 (by omega) a0 a1).mono ?_; rintro e w' ⟨rfl, rfl⟩)
    go_ret
    exact ⟨rfl, rfl⟩
  · have hm : min b.toNat 64 = 64 := by omega
    have hc := fun (w : World) => moved_up n 64 a w hn1 hn2 (by omega) a0 a1
    rw [hm]
    clear hm
    go_enter Try.func73, Try.ntmps73
    go_wp2_with (go_at_call 88; refine (hc _).mono ?_; rintro e w' ⟨rfl, rfl⟩)
    go_ret
    exact ⟨rfl, rfl⟩

theorem shift_10 (n : Nat) (a b : Int) (w : World) (hn1 : 1 ≤ n) (hn2 : n ≤ 64) (a0 : 0 ≤ a) (a1 : a < 2 ^ n) (b0 : 0 ≤ b) (b1 : b < 18446744073709551616) :
    Calls Try.prog 73 #[.int .i64 10, .int .i64 n, .int .u64 a, .int .u64 b] w fun e w' => e = .returned (.int .u64 (a / 2 ^ min b.toNat 64 % 2 ^ n)) ∧ w' = w := by
  have hd := fun (s : Nat) (hs : s ≤ 64) (w : World) => moved_down n s a false w hn1 hn2 hs a0 a1
  rw [low_false] at hd
  clear a1
  by_cases hb : b < 64
  · obtain ⟨s, rfl⟩ := Int.eq_ofNat_of_zero_le b0
    have hs : s < 64 := by omega
    have hm : min ((s : Int)).toNat 64 = s := by omega
    rw [hm]
    clear hm b1
    have hc := hd s (by omega)
    clear hd
    go_enter Try.func73, Try.ntmps73
    go_wp2_with (go_at_call 88; refine (hc _).mono ?_; rintro e w' ⟨rfl, rfl⟩)
    go_ret
    exact ⟨rfl, rfl⟩
  · have hm : min b.toNat 64 = 64 := by omega
    have hc := hd 64 (by omega)
    rw [hm]
    clear hm hd
    go_enter Try.func73, Try.ntmps73
    go_wp2_with (go_at_call 88; refine (hc _).mono ?_; rintro e w' ⟨rfl, rfl⟩)
    go_ret
    exact ⟨rfl, rfl⟩

theorem shift_11 (n : Nat) (a b : Int) (w : World) (hn1 : 1 ≤ n) (hn2 : n ≤ 64) (a0 : 0 ≤ a) (a1 : a < 2 ^ n) (b0 : 0 ≤ b) (b1 : b < 18446744073709551616) :
    Calls Try.prog 73 #[.int .i64 11, .int .i64 n, .int .u64 a, .int .u64 b] w fun e w' => e = .returned (.int .u64 (sgnF n a / 2 ^ min b.toNat 64 % 2 ^ n)) ∧ w' = w := by
  have hd := fun (s : Nat) (hs : s ≤ 64) (w : World) => moved_down n s a (bitB a (n - 1)) w hn1 hn2 hs a0 a1
  rw [low_sign n a hn1 hn2 a0 a1] at hd
  have A1 : a < 18446744073709551616 := by have := pow_le64 n hn2; omega
  have e1 : (n : Int) - 1 = ((n - 1 : Nat) : Int) := by omega
  have hbit := fun (w : World) => rbit_any a (n - 1) w a0 A1 (by omega)
  rw [← e1] at hbit
  clear a1 e1
  by_cases hb : b < 64
  · obtain ⟨s, rfl⟩ := Int.eq_ofNat_of_zero_le b0
    have hs : s < 64 := by omega
    have hm : min ((s : Int)).toNat 64 = s := by omega
    rw [hm]
    clear hm b1
    have hc := hd s (by omega)
    clear hd
    go_enter Try.func73, Try.ntmps73
    go_wp2_with (first | (go_at_call 71; refine (hbit _).mono ?_; rintro e w' ⟨rfl, rfl⟩) | (go_at_call 88; refine (hc _).mono ?_; rintro e w' ⟨rfl, rfl⟩))
    go_ret
    exact ⟨rfl, rfl⟩
  · have hm : min b.toNat 64 = 64 := by omega
    have hc := hd 64 (by omega)
    rw [hm]
    clear hm hd
    go_enter Try.func73, Try.ntmps73
    go_wp2_with (first | (go_at_call 71; refine (hbit _).mono ?_; rintro e w' ⟨rfl, rfl⟩) | (go_at_call 88; refine (hc _).mono ?_; rintro e w' ⟨rfl, rfl⟩))
    go_ret
    exact ⟨rfl, rfl⟩
end
end Go.Proofs.Ytbekgejbgmdbdaa.Wd

namespace Go.Proofs.Ytbekgejbgmdbdaa.Wd
section
open Go.RowKit
set_option linter.unusedVariables false

theorem cut_msk (n : Nat) (h1 : 1 ≤ n) (h2 : n ≤ 64) : cutF n (mskF n) = cutF n (-1) := by
  rw [msk_yes n h1 h2, cut_yes n _ h1 h2, cut_yes n _ h1 h2]
  have : (2 : Int) ^ n - 1 = -1 + 2 ^ n * 1 := by omega
  rw [this, Int.add_mul_emod_self_left]
theorem ret_two {a b : Int} (h : a = b) : Ending.returned (.tuple #[.int .u64 a, .int .i64 0]) = .returned (.tuple #[.int .u64 b, .int .i64 0]) := by rw [h]

theorem rbinary_1 (n : Nat) (x y : Int) (w : World) (hn1 : 1 ≤ n) (hn2 : n ≤ 64) (x0 : 0 ≤ x) (x1 : x < 18446744073709551616) (y0 : 0 ≤ y) (y1 : y < 18446744073709551616) :
    Calls Try.prog 57 #[.int .i64 1, .int .i64 n, .int .u64 x, .int .u64 y] w fun e w' => e = .returned (.tuple #[.int .u64 (cutF n (rawF 1 n (cutF n x) (cutF n y))), .int .i64 0]) ∧ w' = w := by
  have hf : fitsB n = true := fits_yes (by omega) (by omega)
  have ca := cut_bd n x
  have cb := cut_bd n y
  have la := cut_lt n x hn1 hn2
  have lb := cut_lt n y hn1 hn2
  have z0 : 0 ≤ IntKind.u64.wrap (cutF n x + cutF n y) := (u64_bd _).1
  have z1 : IntKind.u64.wrap (cutF n x + cutF n y) < 18446744073709551616 := (u64_bd _).2
  have hv : cutF n (IntKind.u64.wrap (cutF n x + cutF n y)) = cutF n (rawF 1 n (cutF n x) (cutF n y)) := by rw [cut_wrap]; simp [rawF]
  have HV : Hid (cutF n (IntKind.u64.wrap (cutF n x + cutF n y)) = cutF n (rawF 1 n (cutF n x) (cutF n y))) := hv
  clear ca cb la lb hv
  go_enter Try.func57, Try.ntmps57
  go_wp2_with (first | (go_at_call 68; refine (rfits_any _ _).mono ?_; rintro e w' ⟨rfl, rfl⟩) | (go_at_call 15; with_reducible (refine (ref_cut_any _ _ _ ‹_› ‹_›).mono ?_); rintro e w' ⟨rfl, rfl⟩))
  go_ret2
  exact ⟨ret_two HV.out, rfl⟩

theorem rbinary_2 (n : Nat) (x y : Int) (w : World) (hn1 : 1 ≤ n) (hn2 : n ≤ 64) (x0 : 0 ≤ x) (x1 : x < 18446744073709551616) (y0 : 0 ≤ y) (y1 : y < 18446744073709551616) :
    Calls Try.prog 57 #[.int .i64 2, .int .i64 n, .int .u64 x, .int .u64 y] w fun e w' => e = .returned (.tuple #[.int .u64 (cutF n (rawF 2 n (cutF n x) (cutF n y))), .int .i64 0]) ∧ w' = w := by
  have hf : fitsB n = true := fits_yes (by omega) (by omega)
  have ca := cut_bd n x
  have cb := cut_bd n y
  have la := cut_lt n x hn1 hn2
  have lb := cut_lt n y hn1 hn2
  have z0 : 0 ≤ IntKind.u64.wrap (cutF n x - cutF n y) := (u64_bd _).1
  have z1 : IntKind.u64.wrap (cutF n x - cutF n y) < 18446744073709551616 := (u64_bd _).2
  have hv : cutF n (IntKind.u64.wrap (cutF n x - cutF n y)) = cutF n (rawF 2 n (cutF n x) (cutF n y)) := by rw [cut_wrap]; simp [rawF]
  have HV : Hid (cutF n (IntKind.u64.wrap (cutF n x - cutF n y)) = cutF n (rawF 2 n (cutF n x) (cutF n y))) := hv
  clear ca cb la lb hv
  go_enter Try.func57, Try.ntmps57
  go_wp2_with (first | (go_at_call 68; refine (rfits_any _ _).mono ?_; rintro e w' ⟨rfl, rfl⟩) | (go_at_call 15; with_reducible (refine (ref_cut_any _ _ _ ‹_› ‹_›).mono ?_); rintro e w' ⟨rfl, rfl⟩))
  go_ret2
  exact ⟨ret_two HV.out, rfl⟩

theorem rbinary_3 (n : Nat) (x y : Int) (w : World) (hn1 : 1 ≤ n) (hn2 : n ≤ 64) (x0 : 0 ≤ x) (x1 : x < 18446744073709551616) (y0 : 0 ≤ y) (y1 : y < 18446744073709551616) :
    Calls Try.prog 57 #[.int .i64 3, .int .i64 n, .int .u64 x, .int .u64 y] w fun e w' => e = .returned (.tuple #[.int .u64 (cutF n (rawF 3 n (cutF n x) (cutF n y))), .int .i64 0]) ∧ w' = w := by
  have hf : fitsB n = true := fits_yes (by omega) (by omega)
  have ca := cut_bd n x
  have cb := cut_bd n y
  have la := cut_lt n x hn1 hn2
  have lb := cut_lt n y hn1 hn2
  have z0 : 0 ≤ IntKind.u64.wrap (cutF n x * cutF n y) := (u64_bd _).1
  have z1 : IntKind.u64.wrap (cutF n x * cutF n y) < 18446744073709551616 := (u64_bd _).2
  have hv : cutF n (IntKind.u64.wrap (cutF n x * cutF n y)) = cutF n (rawF 3 n (cutF n x) (cutF n y)) := by rw [cut_wrap]; simp [rawF]
  have HV : Hid (cutF n (IntKind.u64.wrap (cutF n x * cutF n y)) = cutF n (rawF 3 n (cutF n x) (cutF n y))) := hv
  clear ca cb la lb hv
  go_enter Try.func57, Try.ntmps57
  go_wp2_with (first | (go_at_call 68; refine (rfits_any _ _).mono ?_; rintro e w' ⟨rfl, rfl⟩) | (go_at_call 15; with_reducible (refine (ref_cut_any _ _ _ ‹_› ‹_›).mono ?_); rintro e w' ⟨rfl, rfl⟩))
  go_ret2
  exact ⟨ret_two HV.out, rfl⟩

theorem rbinary_4z (n : Nat) (x y : Int) (w : World) (hn1 : 1 ≤ n) (hn2 : n ≤ 64) (x0 : 0 ≤ x) (x1 : x < 18446744073709551616) (y0 : 0 ≤ y) (y1 : y < 18446744073709551616) (hB : cutF n y = 0) :
    Calls Try.prog 57 #[.int .i64 4, .int .i64 n, .int .u64 x, .int .u64 y] w fun e w' => e = .returned (.tuple #[.int .u64 (cutF n (rawF 4 n (cutF n x) (cutF n y))), .int .i64 0]) ∧ w' = w := by
  have hf : fitsB n = true := fits_yes (by omega) (by omega)
  have ca := cut_bd n x
  have cb := cut_bd n y
  have la := cut_lt n x hn1 hn2
  have lb := cut_lt n y hn1 hn2
  have z0 : 0 ≤ mskF n := (msk_bd _).1
  have z1 : mskF n < 18446744073709551616 := (msk_bd _).2
  have hv : cutF n (mskF n) = cutF n (rawF 4 n (cutF n x) (cutF n y)) := by rw [cut_msk n hn1 hn2]; simp [rawF, hB]
  have HV : Hid (cutF n (mskF n) = cutF n (rawF 4 n (cutF n x) (cutF n y))) := hv
  clear ca cb la lb hv
  go_enter Try.func57, Try.ntmps57
  go_wp2_with (first | (go_at_call 68; refine (rfits_any _ _).mono ?_; rintro e w' ⟨rfl, rfl⟩) | (go_at_call 15; with_reducible (refine (ref_cut_any _ _ _ ‹_› ‹_›).mono ?_); rintro e w' ⟨rfl, rfl⟩) | (go_at_call 36; refine (rmask_any _ _).mono ?_; rintro e w' ⟨rfl, rfl⟩))
  go_ret2
  exact ⟨ret_two HV.out, rfl⟩

theorem rbinary_4p (n : Nat) (x y : Int) (w : World) (hn1 : 1 ≤ n) (hn2 : n ≤ 64) (x0 : 0 ≤ x) (x1 : x < 18446744073709551616) (y0 : 0 ≤ y) (y1 : y < 18446744073709551616) (hB : ¬ cutF n y = 0) :
    Calls Try.prog 57 #[.int .i64 4, .int .i64 n, .int .u64 x, .int .u64 y] w fun e w' => e = .returned (.tuple #[.int .u64 (cutF n (rawF 4 n (cutF n x) (cutF n y))), .int .i64 0]) ∧ w' = w := by
  have hf : fitsB n = true := fits_yes (by omega) (by omega)
  have ca := cut_bd n x
  have cb := cut_bd n y
  have la := cut_lt n x hn1 hn2
  have lb := cut_lt n y hn1 hn2
  have z0 : 0 ≤ cutF n x / cutF n y := (div_bd _ _ ca.1 ca.2 cb.1).1
  have z1 : cutF n x / cutF n y < 18446744073709551616 := (div_bd _ _ ca.1 ca.2 cb.1).2
  have hv : cutF n (cutF n x / cutF n y) = cutF n (rawF 4 n (cutF n x) (cutF n y)) := by simp [rawF, hB]
  have HV : Hid (cutF n (cutF n x / cutF n y) = cutF n (rawF 4 n (cutF n x) (cutF n y))) := hv
  have hq : (cutF n y == 0) = false := by simp [hB]
  have ca0 := ca.1; have ca1 := ca.2; have cb0 := cb.1; have cb1 := cb.2
  clear ca cb la lb hv
  go_enter Try.func57, Try.ntmps57
  go_wp2_with (first | (go_at_call 68; refine (rfits_any _ _).mono ?_; rintro e w' ⟨rfl, rfl⟩) | (go_at_call 15; with_reducible (refine (ref_cut_any _ _ _ ‹_› ‹_›).mono ?_); rintro e w' ⟨rfl, rfl⟩) | (go_at_call 36; refine (rmask_any _ _).mono ?_; rintro e w' ⟨rfl, rfl⟩))
  go_ret2
  exact ⟨ret_two HV.out, rfl⟩

theorem rbinary_5z (n : Nat) (x y : Int) (w : World) (hn1 : 1 ≤ n) (hn2 : n ≤ 64) (x0 : 0 ≤ x) (x1 : x < 18446744073709551616) (y0 : 0 ≤ y) (y1 : y < 18446744073709551616) (hB : cutF n y = 0) :
    Calls Try.prog 57 #[.int .i64 5, .int .i64 n, .int .u64 x, .int .u64 y] w fun e w' => e = .returned (.tuple #[.int .u64 (cutF n (rawF 5 n (cutF n x) (cutF n y))), .int .i64 0]) ∧ w' = w := by
  have hf : fitsB n = true := fits_yes (by omega) (by omega)
  have ca := cut_bd n x
  have cb := cut_bd n y
  have la := cut_lt n x hn1 hn2
  have lb := cut_lt n y hn1 hn2
  have z0 : 0 ≤ cutF n x := (ca).1
  have z1 : cutF n x < 18446744073709551616 := (ca).2
  have hv : cutF n (cutF n x) = cutF n (rawF 5 n (cutF n x) (cutF n y)) := by simp [rawF, hB]
  have HV : Hid (cutF n (cutF n x) = cutF n (rawF 5 n (cutF n x) (cutF n y))) := hv
  clear ca cb la lb hv
  go_enter Try.func57, Try.ntmps57
  go_wp2_with (first | (go_at_call 68; refine (rfits_any _ _).mono ?_; rintro e w' ⟨rfl, rfl⟩) | (go_at_call 15; with_reducible (refine (ref_cut_any _ _ _ ‹_› ‹_›).mono ?_); rintro e w' ⟨rfl, rfl⟩))
  go_ret2
  exact ⟨ret_two HV.out, rfl⟩

theorem rbinary_5p (n : Nat) (x y : Int) (w : World) (hn1 : 1 ≤ n) (hn2 : n ≤ 64) (x0 : 0 ≤ x) (x1 : x < 18446744073709551616) (y0 : 0 ≤ y) (y1 : y < 18446744073709551616) (hB : ¬ cutF n y = 0) :
    Calls Try.prog 57 #[.int .i64 5, .int .i64 n, .int .u64 x, .int .u64 y] w fun e w' => e = .returned (.tuple #[.int .u64 (cutF n (rawF 5 n (cutF n x) (cutF n y))), .int .i64 0]) ∧ w' = w := by
  have hf : fitsB n = true := fits_yes (by omega) (by omega)
  have ca := cut_bd n x
  have cb := cut_bd n y
  have la := cut_lt n x hn1 hn2
  have lb := cut_lt n y hn1 hn2
  have z0 : 0 ≤ cutF n x % cutF n y := (mod_bd _ _ (by omega) cb.2).1
  have z1 : cutF n x % cutF n y < 18446744073709551616 := (mod_bd _ _ (by omega) cb.2).2
  have hv : cutF n (cutF n x % cutF n y) = cutF n (rawF 5 n (cutF n x) (cutF n y)) := by simp [rawF, hB]
  have HV : Hid (cutF n (cutF n x % cutF n y) = cutF n (rawF 5 n (cutF n x) (cutF n y))) := hv
  have hq : (cutF n y == 0) = false := by simp [hB]
  have ca0 := ca.1; have ca1 := ca.2; have cb0 := cb.1; have cb1 := cb.2
  clear ca cb la lb hv
  go_enter Try.func57, Try.ntmps57
  go_wp2_with (first | (go_at_call 68; refine (rfits_any _ _).mono ?_; rintro e w' ⟨rfl, rfl⟩) | (go_at_call 15; with_reducible (refine (ref_cut_any _ _ _ ‹_› ‹_›).mono ?_); rintro e w' ⟨rfl, rfl⟩))
  go_ret2
  exact ⟨ret_two HV.out, rfl⟩

theorem rbinary_6 (n : Nat) (x y : Int) (w : World) (hn1 : 1 ≤ n) (hn2 : n ≤ 64) (x0 : 0 ≤ x) (x1 : x < 18446744073709551616) (y0 : 0 ≤ y) (y1 : y < 18446744073709551616) :
    Calls Try.prog 57 #[.int .i64 6, .int .i64 n, .int .u64 x, .int .u64 y] w fun e w' => e = .returned (.tuple #[.int .u64 (cutF n (rawF 6 n (cutF n x) (cutF n y))), .int .i64 0]) ∧ w' = w := by
  have hf : fitsB n = true := fits_yes (by omega) (by omega)
  have ca := cut_bd n x
  have cb := cut_bd n y
  have la := cut_lt n x hn1 hn2
  have lb := cut_lt n y hn1 hn2
  have z0 : 0 ≤ bits .and .u64 (cutF n x) (cutF n y) := (bits_bd _ _ _).1
  have z1 : bits .and .u64 (cutF n x) (cutF n y) < 18446744073709551616 := (bits_bd _ _ _).2
  have hv : cutF n (bits .and .u64 (cutF n x) (cutF n y)) = cutF n (rawF 6 n (cutF n x) (cutF n y)) := by simp [rawF]
  have HV : Hid (cutF n (bits .and .u64 (cutF n x) (cutF n y)) = cutF n (rawF 6 n (cutF n x) (cutF n y))) := hv
  clear ca cb la lb hv
  go_enter Try.func57, Try.ntmps57
  go_wp2_with (first | (go_at_call 68; refine (rfits_any _ _).mono ?_; rintro e w' ⟨rfl, rfl⟩) | (go_at_call 15; with_reducible (refine (ref_cut_any _ _ _ ‹_› ‹_›).mono ?_); rintro e w' ⟨rfl, rfl⟩))
  go_ret2
  exact ⟨ret_two HV.out, rfl⟩

theorem rbinary_7 (n : Nat) (x y : Int) (w : World) (hn1 : 1 ≤ n) (hn2 : n ≤ 64) (x0 : 0 ≤ x) (x1 : x < 18446744073709551616) (y0 : 0 ≤ y) (y1 : y < 18446744073709551616) :
    Calls Try.prog 57 #[.int .i64 7, .int .i64 n, .int .u64 x, .int .u64 y] w fun e w' => e = .returned (.tuple #[.int .u64 (cutF n (rawF 7 n (cutF n x) (cutF n y))), .int .i64 0]) ∧ w' = w := by
  have hf : fitsB n = true := fits_yes (by omega) (by omega)
  have ca := cut_bd n x
  have cb := cut_bd n y
  have la := cut_lt n x hn1 hn2
  have lb := cut_lt n y hn1 hn2
  have z0 : 0 ≤ bits .or .u64 (cutF n x) (cutF n y) := (bits_bd _ _ _).1
  have z1 : bits .or .u64 (cutF n x) (cutF n y) < 18446744073709551616 := (bits_bd _ _ _).2
  have hv : cutF n (bits .or .u64 (cutF n x) (cutF n y)) = cutF n (rawF 7 n (cutF n x) (cutF n y)) := by simp [rawF]
  have HV : Hid (cutF n (bits .or .u64 (cutF n x) (cutF n y)) = cutF n (rawF 7 n (cutF n x) (cutF n y))) := hv
  clear ca cb la lb hv
  go_enter Try.func57, Try.ntmps57
  go_wp2_with (first | (go_at_call 68; refine (rfits_any _ _).mono ?_; rintro e w' ⟨rfl, rfl⟩) | (go_at_call 15; with_reducible (refine (ref_cut_any _ _ _ ‹_› ‹_›).mono ?_); rintro e w' ⟨rfl, rfl⟩))
  go_ret2
  exact ⟨ret_two HV.out, rfl⟩

theorem rbinary_8 (n : Nat) (x y : Int) (w : World) (hn1 : 1 ≤ n) (hn2 : n ≤ 64) (x0 : 0 ≤ x) (x1 : x < 18446744073709551616) (y0 : 0 ≤ y) (y1 : y < 18446744073709551616) :
    Calls Try.prog 57 #[.int .i64 8, .int .i64 n, .int .u64 x, .int .u64 y] w fun e w' => e = .returned (.tuple #[.int .u64 (cutF n (rawF 8 n (cutF n x) (cutF n y))), .int .i64 0]) ∧ w' = w := by
  have hf : fitsB n = true := fits_yes (by omega) (by omega)
  have ca := cut_bd n x
  have cb := cut_bd n y
  have la := cut_lt n x hn1 hn2
  have lb := cut_lt n y hn1 hn2
  have z0 : 0 ≤ bits .xor .u64 (cutF n x) (cutF n y) := (bits_bd _ _ _).1
  have z1 : bits .xor .u64 (cutF n x) (cutF n y) < 18446744073709551616 := (bits_bd _ _ _).2
  have hv : cutF n (bits .xor .u64 (cutF n x) (cutF n y)) = cutF n (rawF 8 n (cutF n x) (cutF n y)) := by simp [rawF]
  have HV : Hid (cutF n (bits .xor .u64 (cutF n x) (cutF n y)) = cutF n (rawF 8 n (cutF n x) (cutF n y))) := hv
  clear ca cb la lb hv
  go_enter Try.func57, Try.ntmps57
  go_wp2_with (first | (go_at_call 68; refine (rfits_any _ _).mono ?_; rintro e w' ⟨rfl, rfl⟩) | (go_at_call 15; with_reducible (refine (ref_cut_any _ _ _ ‹_› ‹_›).mono ?_); rintro e w' ⟨rfl, rfl⟩))
  go_ret2
  exact ⟨ret_two HV.out, rfl⟩

theorem rbinary_9 (n : Nat) (x y : Int) (w : World) (hn1 : 1 ≤ n) (hn2 : n ≤ 64) (x0 : 0 ≤ x) (x1 : x < 18446744073709551616) (y0 : 0 ≤ y) (y1 : y < 18446744073709551616) :
    Calls Try.prog 57 #[.int .i64 9, .int .i64 n, .int .u64 x, .int .u64 y] w fun e w' => e = .returned (.tuple #[.int .u64 (cutF n (rawF 9 n (cutF n x) (cutF n y))), .int .i64 0]) ∧ w' = w := by
  have hf : fitsB n = true := fits_yes (by omega) (by omega)
  have ca := cut_bd n x
  have cb := cut_bd n y
  have la := cut_lt n x hn1 hn2
  have lb := cut_lt n y hn1 hn2
  have zz : 0 ≤ cutF n x * 2 ^ min (cutF n y).toNat 64 % 2 ^ n ∧ cutF n x * 2 ^ min (cutF n y).toNat 64 % 2 ^ n < 18446744073709551616 := by have p := pos2 n; have q := pow_le64 n hn2; have r0 := Int.emod_nonneg (cutF n x * 2 ^ min (cutF n y).toNat 64) (show (2 : Int) ^ n ≠ 0 by omega); have r1 := Int.emod_lt_of_pos (cutF n x * 2 ^ min (cutF n y).toNat 64) p; exact (⟨r0, by omega⟩ : 0 ≤ cutF n x * 2 ^ min (cutF n y).toNat 64 % 2 ^ n ∧ cutF n x * 2 ^ min (cutF n y).toNat 64 % 2 ^ n < 18446744073709551616)
  have z0 := zz.1
  have z1 := zz.2
  clear zz
  have hv : cutF n (cutF n x * 2 ^ min (cutF n y).toNat 64 % 2 ^ n) = cutF n (rawF 9 n (cutF n x) (cutF n y)) := by rw [cut_mod n _ hn1 hn2]; simp [rawF]
  have HV : Hid (cutF n (cutF n x * 2 ^ min (cutF n y).toNat 64 % 2 ^ n) = cutF n (rawF 9 n (cutF n x) (cutF n y))) := hv
  have hsh := fun (w : World) => shift_9 n (cutF n x) (cutF n y) w hn1 hn2 ca.1 ca.2 cb.1 cb.2
  clear ca cb la lb hv
  go_enter Try.func57, Try.ntmps57
  go_wp2_with (first | (go_at_call 68; refine (rfits_any _ _).mono ?_; rintro e w' ⟨rfl, rfl⟩) | (go_at_call 15; with_reducible (refine (ref_cut_any _ _ _ ‹_› ‹_›).mono ?_); rintro e w' ⟨rfl, rfl⟩) | (go_at_call 73; refine (hsh _).mono ?_; rintro e w' ⟨rfl, rfl⟩))
  go_ret2
  exact ⟨ret_two HV.out, rfl⟩

theorem rbinary_10 (n : Nat) (x y : Int) (w : World) (hn1 : 1 ≤ n) (hn2 : n ≤ 64) (x0 : 0 ≤ x) (x1 : x < 18446744073709551616) (y0 : 0 ≤ y) (y1 : y < 18446744073709551616) :
    Calls Try.prog 57 #[.int .i64 10, .int .i64 n, .int .u64 x, .int .u64 y] w fun e w' => e = .returned (.tuple #[.int .u64 (cutF n (rawF 10 n (cutF n x) (cutF n y))), .int .i64 0]) ∧ w' = w := by
  have hf : fitsB n = true := fits_yes (by omega) (by omega)
  have ca := cut_bd n x
  have cb := cut_bd n y
  have la := cut_lt n x hn1 hn2
  have lb := cut_lt n y hn1 hn2
  have zz : 0 ≤ cutF n x / 2 ^ min (cutF n y).toNat 64 % 2 ^ n ∧ cutF n x / 2 ^ min (cutF n y).toNat 64 % 2 ^ n < 18446744073709551616 := by have p := pos2 n; have q := pow_le64 n hn2; have r0 := Int.emod_nonneg (cutF n x / 2 ^ min (cutF n y).toNat 64) (show (2 : Int) ^ n ≠ 0 by omega); have r1 := Int.emod_lt_of_pos (cutF n x / 2 ^ min (cutF n y).toNat 64) p; exact (⟨r0, by omega⟩ : 0 ≤ cutF n x / 2 ^ min (cutF n y).toNat 64 % 2 ^ n ∧ cutF n x / 2 ^ min (cutF n y).toNat 64 % 2 ^ n < 18446744073709551616)
  have z0 := zz.1
  have z1 := zz.2
  clear zz
  have hv : cutF n (cutF n x / 2 ^ min (cutF n y).toNat 64 % 2 ^ n) = cutF n (rawF 10 n (cutF n x) (cutF n y)) := by rw [cut_mod n _ hn1 hn2]; simp [rawF]
  have HV : Hid (cutF n (cutF n x / 2 ^ min (cutF n y).toNat 64 % 2 ^ n) = cutF n (rawF 10 n (cutF n x) (cutF n y))) := hv
  have hsh := fun (w : World) => shift_10 n (cutF n x) (cutF n y) w hn1 hn2 ca.1 la.2 cb.1 cb.2
  clear ca cb la lb hv
  go_enter Try.func57, Try.ntmps57
  go_wp2_with (first | (go_at_call 68; refine (rfits_any _ _).mono ?_; rintro e w' ⟨rfl, rfl⟩) | (go_at_call 15; with_reducible (refine (ref_cut_any _ _ _ ‹_› ‹_›).mono ?_); rintro e w' ⟨rfl, rfl⟩) | (go_at_call 73; refine (hsh _).mono ?_; rintro e w' ⟨rfl, rfl⟩))
  go_ret2
  exact ⟨ret_two HV.out, rfl⟩

theorem rbinary_11 (n : Nat) (x y : Int) (w : World) (hn1 : 1 ≤ n) (hn2 : n ≤ 64) (x0 : 0 ≤ x) (x1 : x < 18446744073709551616) (y0 : 0 ≤ y) (y1 : y < 18446744073709551616) :
    Calls Try.prog 57 #[.int .i64 11, .int .i64 n, .int .u64 x, .int .u64 y] w fun e w' => e = .returned (.tuple #[.int .u64 (cutF n (rawF 11 n (cutF n x) (cutF n y))), .int .i64 0]) ∧ w' = w := by
  have hf : fitsB n = true := fits_yes (by omega) (by omega)
  have ca := cut_bd n x
  have cb := cut_bd n y
  have la := cut_lt n x hn1 hn2
  have lb := cut_lt n y hn1 hn2
  have zz : 0 ≤ sgnF n (cutF n x) / 2 ^ min (cutF n y).toNat 64 % 2 ^ n ∧ sgnF n (cutF n x) / 2 ^ min (cutF n y).toNat 64 % 2 ^ n < 18446744073709551616 := by have p := pos2 n; have q := pow_le64 n hn2; have r0 := Int.emod_nonneg (sgnF n (cutF n x) / 2 ^ min (cutF n y).toNat 64) (show (2 : Int) ^ n ≠ 0 by omega); have r1 := Int.emod_lt_of_pos (sgnF n (cutF n x) / 2 ^ min (cutF n y).toNat 64) p; exact (⟨r0, by omega⟩ : 0 ≤ sgnF n (cutF n x) / 2 ^ min (cutF n y).toNat 64 % 2 ^ n ∧ sgnF n (cutF n x) / 2 ^ min (cutF n y).toNat 64 % 2 ^ n < 18446744073709551616)
  have z0 := zz.1
  have z1 := zz.2
  clear zz
  have hv : cutF n (sgnF n (cutF n x) / 2 ^ min (cutF n y).toNat 64 % 2 ^ n) = cutF n (rawF 11 n (cutF n x) (cutF n y)) := by rw [cut_mod n _ hn1 hn2]; simp [rawF]
  have HV : Hid (cutF n (sgnF n (cutF n x) / 2 ^ min (cutF n y).toNat 64 % 2 ^ n) = cutF n (rawF 11 n (cutF n x) (cutF n y))) := hv
  have hsh := fun (w : World) => shift_11 n (cutF n x) (cutF n y) w hn1 hn2 ca.1 la.2 cb.1 cb.2
  clear ca cb la lb hv
  go_enter Try.func57, Try.ntmps57
  go_wp2_with (first | (go_at_call 68; refine (rfits_any _ _).mono ?_; rintro e w' ⟨rfl, rfl⟩) | (go_at_call 15; with_reducible (refine (ref_cut_any _ _ _ ‹_› ‹_›).mono ?_); rintro e w' ⟨rfl, rfl⟩) | (go_at_call 73; refine (hsh _).mono ?_; rintro e w' ⟨rfl, rfl⟩))
  go_ret2
  exact ⟨ret_two HV.out, rfl⟩

theorem rbinary_12 (n : Nat) (x y : Int) (w : World) (hn1 : 1 ≤ n) (hn2 : n ≤ 64) (x0 : 0 ≤ x) (x1 : x < 18446744073709551616) (y0 : 0 ≤ y) (y1 : y < 18446744073709551616) :
    Calls Try.prog 57 #[.int .i64 12, .int .i64 n, .int .u64 x, .int .u64 y] w fun e w' => e = .returned (.tuple #[.int .u64 (cutF n (rawF 12 n (cutF n x) (cutF n y))), .int .i64 0]) ∧ w' = w := by
  have hf : fitsB n = true := fits_yes (by omega) (by omega)
  have ca := cut_bd n x
  have cb := cut_bd n y
  have la := cut_lt n x hn1 hn2
  have lb := cut_lt n y hn1 hn2
  have z0 : 0 ≤ b01 (cutF n x == cutF n y) := (b01_bd _).1
  have z1 : b01 (cutF n x == cutF n y) < 18446744073709551616 := (b01_bd _).2
  have hv : cutF n (b01 (cutF n x == cutF n y)) = cutF n (rawF 12 n (cutF n x) (cutF n y)) := by simp [rawF]
  have HV : Hid (cutF n (b01 (cutF n x == cutF n y)) = cutF n (rawF 12 n (cutF n x) (cutF n y))) := hv
  clear ca cb la lb hv
  go_enter Try.func57, Try.ntmps57
  go_wp2_with (first | (go_at_call 68; refine (rfits_any _ _).mono ?_; rintro e w' ⟨rfl, rfl⟩) | (go_at_call 15; with_reducible (refine (ref_cut_any _ _ _ ‹_› ‹_›).mono ?_); rintro e w' ⟨rfl, rfl⟩) | (go_at_call 72; refine (one_any _ _).mono ?_; rintro e w' ⟨rfl, rfl⟩))
  go_ret2
  exact ⟨ret_two HV.out, rfl⟩

theorem rbinary_13 (n : Nat) (x y : Int) (w : World) (hn1 : 1 ≤ n) (hn2 : n ≤ 64) (x0 : 0 ≤ x) (x1 : x < 18446744073709551616) (y0 : 0 ≤ y) (y1 : y < 18446744073709551616) :
    Calls Try.prog 57 #[.int .i64 13, .int .i64 n, .int .u64 x, .int .u64 y] w fun e w' => e = .returned (.tuple #[.int .u64 (cutF n (rawF 13 n (cutF n x) (cutF n y))), .int .i64 0]) ∧ w' = w := by
  have hf : fitsB n = true := fits_yes (by omega) (by omega)
  have ca := cut_bd n x
  have cb := cut_bd n y
  have la := cut_lt n x hn1 hn2
  have lb := cut_lt n y hn1 hn2
  have z0 : 0 ≤ b01 (decide (cutF n x < cutF n y)) := (b01_bd _).1
  have z1 : b01 (decide (cutF n x < cutF n y)) < 18446744073709551616 := (b01_bd _).2
  have hv : cutF n (b01 (decide (cutF n x < cutF n y))) = cutF n (rawF 13 n (cutF n x) (cutF n y)) := by simp [rawF]
  have HV : Hid (cutF n (b01 (decide (cutF n x < cutF n y))) = cutF n (rawF 13 n (cutF n x) (cutF n y))) := hv
  clear ca cb la lb hv
  go_enter Try.func57, Try.ntmps57
  go_wp2_with (first | (go_at_call 68; refine (rfits_any _ _).mono ?_; rintro e w' ⟨rfl, rfl⟩) | (go_at_call 15; with_reducible (refine (ref_cut_any _ _ _ ‹_› ‹_›).mono ?_); rintro e w' ⟨rfl, rfl⟩) | (go_at_call 72; refine (one_any _ _).mono ?_; rintro e w' ⟨rfl, rfl⟩))
  go_ret2
  exact ⟨ret_two HV.out, rfl⟩

theorem rbinary_14 (n : Nat) (x y : Int) (w : World) (hn1 : 1 ≤ n) (hn2 : n ≤ 64) (x0 : 0 ≤ x) (x1 : x < 18446744073709551616) (y0 : 0 ≤ y) (y1 : y < 18446744073709551616) :
    Calls Try.prog 57 #[.int .i64 14, .int .i64 n, .int .u64 x, .int .u64 y] w fun e w' => e = .returned (.tuple #[.int .u64 (cutF n (rawF 14 n (cutF n x) (cutF n y))), .int .i64 0]) ∧ w' = w := by
  have hf : fitsB n = true := fits_yes (by omega) (by omega)
  have ca := cut_bd n x
  have cb := cut_bd n y
  have la := cut_lt n x hn1 hn2
  have lb := cut_lt n y hn1 hn2
  have z0 : 0 ≤ b01 (decide (sgnF n (cutF n x) < sgnF n (cutF n y))) := (b01_bd _).1
  have z1 : b01 (decide (sgnF n (cutF n x) < sgnF n (cutF n y))) < 18446744073709551616 := (b01_bd _).2
  have hv : cutF n (b01 (decide (sgnF n (cutF n x) < sgnF n (cutF n y)))) = cutF n (rawF 14 n (cutF n x) (cutF n y)) := by simp [rawF]
  have HV : Hid (cutF n (b01 (decide (sgnF n (cutF n x) < sgnF n (cutF n y)))) = cutF n (rawF 14 n (cutF n x) (cutF n y))) := hv
  have ca0 := ca.1; have ca1 := ca.2; have cb0 := cb.1; have cb1 := cb.2
  clear ca cb la lb hv
  go_enter Try.func57, Try.ntmps57
  go_wp2_with (first | (go_at_call 68; refine (rfits_any _ _).mono ?_; rintro e w' ⟨rfl, rfl⟩) | (go_at_call 15; with_reducible (refine (ref_cut_any _ _ _ ‹_› ‹_›).mono ?_); rintro e w' ⟨rfl, rfl⟩) | (go_at_call 72; refine (one_any _ _).mono ?_; rintro e w' ⟨rfl, rfl⟩) | (go_at_call 55; refine (rsigned_any _ _ _ ‹_› ‹_›).mono ?_; rintro e w' ⟨rfl, rfl⟩))
  go_ret2
  exact ⟨ret_two HV.out, rfl⟩
end
end Go.Proofs.Ytbekgejbgmdbdaa.Wd

namespace Go.Proofs.Ytbekgejbgmdbdaa.Wd
section
open Go.RowKit
set_option linter.unusedVariables false

theorem rbinary_yes (op : Int) (n : Nat) (x y : Int) (w : World) (g1 : 1 ≤ op) (g2 : op ≤ 14) (hn1 : 1 ≤ n) (hn2 : n ≤ 64) (x0 : 0 ≤ x) (x1 : x < 18446744073709551616) (y0 : 0 ≤ y) (y1 : y < 18446744073709551616) :
    Calls Try.prog 57 #[.int .i64 op, .int .i64 n, .int .u64 x, .int .u64 y] w fun e w' => e = .returned (.tuple #[.int .u64 (cutF n (rawF op n (cutF n x) (cutF n y))), .int .i64 0]) ∧ w' = w := by
  have h : op = 1 ∨ op = 2 ∨ op = 3 ∨ op = 4 ∨ op = 5 ∨ op = 6 ∨ op = 7 ∨ op = 8 ∨ op = 9 ∨ op = 10 ∨ op = 11 ∨ op = 12 ∨ op = 13 ∨ op = 14 := by omega
  rcases h with rfl | rfl | rfl | rfl | rfl | rfl | rfl | rfl | rfl | rfl | rfl | rfl | rfl | rfl
  · exact rbinary_1 n x y w hn1 hn2 x0 x1 y0 y1
  · exact rbinary_2 n x y w hn1 hn2 x0 x1 y0 y1
  · exact rbinary_3 n x y w hn1 hn2 x0 x1 y0 y1
  · by_cases hB : cutF n y = 0
    · exact rbinary_4z n x y w hn1 hn2 x0 x1 y0 y1 hB
    · exact rbinary_4p n x y w hn1 hn2 x0 x1 y0 y1 hB
  · by_cases hB : cutF n y = 0
    · exact rbinary_5z n x y w hn1 hn2 x0 x1 y0 y1 hB
    · exact rbinary_5p n x y w hn1 hn2 x0 x1 y0 y1 hB
  · exact rbinary_6 n x y w hn1 hn2 x0 x1 y0 y1
  · exact rbinary_7 n x y w hn1 hn2 x0 x1 y0 y1
  · exact rbinary_8 n x y w hn1 hn2 x0 x1 y0 y1
  · exact rbinary_9 n x y w hn1 hn2 x0 x1 y0 y1
  · exact rbinary_10 n x y w hn1 hn2 x0 x1 y0 y1
  · exact rbinary_11 n x y w hn1 hn2 x0 x1 y0 y1
  · exact rbinary_12 n x y w hn1 hn2 x0 x1 y0 y1
  · exact rbinary_13 n x y w hn1 hn2 x0 x1 y0 y1
  · exact rbinary_14 n x y w hn1 hn2 x0 x1 y0 y1

theorem rbinary_any (op a x y : Int) (w : World) (x0 : 0 ≤ x) (x1 : x < 18446744073709551616) (y0 : 0 ≤ y) (y1 : y < 18446744073709551616) :
    Calls Try.prog 57 #[.int .i64 op, .int .i64 a, .int .u64 x, .int .u64 y] w fun e w' => e = .returned (.tuple #[.int .u64 (binF op a x y), .int .i64 (binE op a)]) ∧ w' = w := by
  by_cases h : 1 ≤ op ∧ op ≤ 14
  · by_cases hw : 1 ≤ a ∧ a ≤ 64
    · obtain ⟨n, rfl, hn1, hn2⟩ := width_nat hw.1 hw.2
      rw [(bin_yes h hw).1, (bin_yes (a := x) (b := y) h hw).2]
      exact rbinary_yes op n x y w h.1 h.2 hn1 hn2 x0 x1 y0 y1
    · have hf := fits_no hw
      rw [(bin_width h hw).1, (bin_width (a := x) (b := y) h hw).2]
      obtain ⟨g1, g2⟩ := h
      have hg1 : ¬ op < 1 := by omega
      have hg2 : ¬ 14 < op := by omega
      go_enter Try.func57, Try.ntmps57
      go_wp2_with (first | (go_at_call 68; refine (rfits_any _ _).mono ?_; rintro e w' ⟨rfl, rfl⟩))
      go_ret2
      exact ⟨rfl, rfl⟩
  · rw [(bin_op h).1, (bin_op (w := a) (a := x) (b := y) h).2]
    by_cases hg : op < 1
    · go_enter Try.func57, Try.ntmps57
      go_wp2
      go_ret2
      exact ⟨rfl, rfl⟩
    · have hg2 : 14 < op := by omega
      go_enter Try.func57, Try.ntmps57
      go_wp2
      go_ret2
      exact ⟨rfl, rfl⟩

theorem runary_any (op a x : Int) (w : World) (x0 : 0 ≤ x) (x1 : x < 18446744073709551616) :
    Calls Try.prog 56 #[.int .i64 op, .int .i64 a, .int .u64 x] w fun e w' => e = .returned (.tuple #[.int .u64 (unF op a x), .int .i64 (unE op a)]) ∧ w' = w := by
  have hu : IntKind.u64.signed = false := rfl
  by_cases h : op = 15 ∨ op = 16
  · by_cases hw : 1 ≤ a ∧ a ≤ 64
    · have hf := fits_yes hw.1 hw.2
      have e1 : unE op a = 0 := by unfold unE; rw [if_pos h, if_pos hw]
      rw [e1]
      clear hw e1
      rcases h with rfl | rfl
      · have hv : cutF a (bits .xor .u64 IntKind.u64.max x) = unF 15 a x := by rw [not_eq x x0 x1, cut_not]; rfl
        have HV : Hid (cutF a (bits .xor .u64 IntKind.u64.max x) = unF 15 a x) := hv
        have b0 := (bits_bd .xor IntKind.u64.max x).1
        have b1 := (bits_bd .xor IntKind.u64.max x).2
        clear hv x0 x1
        go_enter Try.func56, Try.ntmps56
        go_wp2_with (first | (go_at_call 68; refine (rfits_any _ _).mono ?_; rintro e w' ⟨rfl, rfl⟩) | (go_at_call 15; refine (ref_cut_any _ _ _ b0 b1).mono ?_; rintro e w' ⟨rfl, rfl⟩))
        go_ret2
        exact ⟨ret_two HV.out, rfl⟩
      · have hv : cutF a (IntKind.u64.wrap (-x)) = unF 16 a x := by rw [cut_wrap]; rfl
        have HV : Hid (cutF a (IntKind.u64.wrap (-x)) = unF 16 a x) := hv
        have b0 := (u64_bd (-x)).1
        have b1 := (u64_bd (-x)).2
        clear hv x0 x1
        go_enter Try.func56, Try.ntmps56
        go_wp2_with (first | (go_at_call 68; refine (rfits_any _ _).mono ?_; rintro e w' ⟨rfl, rfl⟩) | (go_at_call 15; refine (ref_cut_any _ _ _ b0 b1).mono ?_; rintro e w' ⟨rfl, rfl⟩))
        go_ret2
        exact ⟨ret_two HV.out, rfl⟩
    · have hf := fits_no hw
      have e1 : unE op a = 2 := by unfold unE; rw [if_pos h, if_neg hw]
      have e2 : unF op a x = 0 := by unfold unF; rcases h with rfl | rfl <;> simp [cut_no hw]
      rw [e1, e2]
      clear e1 e2 hw
      rcases h with rfl | rfl
      all_goals
        go_enter Try.func56, Try.ntmps56
        go_wp2_with (go_at_call 68; refine (rfits_any _ _).mono ?_; rintro e w' ⟨rfl, rfl⟩)
        go_ret2
        exact ⟨rfl, rfl⟩
  · have e1 : unE op a = 3 := by unfold unE; rw [if_neg h]
    have e2 : unF op a x = 0 := by unfold unF; rw [if_neg (by omega), if_neg (by omega)]
    rw [e1, e2]
    have g1 : (op != 15) = true := by simp; omega
    have g2 : (op != 16) = true := by simp; omega
    clear e1 e2 h
    go_enter Try.func56, Try.ntmps56
    go_wp2
    go_ret2
    exact ⟨rfl, rfl⟩
end
end Go.Proofs.Ytbekgejbgmdbdaa.Wd

namespace Go.Proofs.Ytbekgejbgmdbdaa
section
open Go.RowKit Go.Maps
set_option linter.unusedVariables false
set_option maxRecDepth 20000

theorem two_newd (w : World) (x y v0 v1 v2 v3 v4 v5 : Value) :
    ((w.alloc (.cells #[x, y] 28)).alloc (.cells #[v0, v1, v2, v3, v4, v5] 61)).heap[w.heap.size]? = some (.cells #[x, y] 28 (0, 0)) ∧ ((w.alloc (.cells #[x, y] 28)).alloc (.cells #[v0, v1, v2, v3, v4, v5] 61)).heap[w.heap.size + 1]? = some (.cells #[v0, v1, v2, v3, v4, v5] 61 (0, 0)) := by
  have b : Below (w.alloc (.cells #[x, y] 28)).heap.size (w.alloc (.cells #[x, y] 28)) ((w.alloc (.cells #[x, y] 28)).alloc (.cells #[v0, v1, v2, v3, v4, v5] 61)) := by go_grown
  refine ⟨by rw [b.block _ (by simp)]; exact new_same _ _, ?_⟩
  have := new_same (w.alloc (.cells #[x, y] 28)) (.cells #[v0, v1, v2, v3, v4, v5] 61)
  simpa using this

section
variable {w : World} {N : List Nd} {ao : Option Addr} {c M : Nat} {ea : Option Addr} {elen ecap : Nat} {E : List Int} {vb vo vl vcap : Nat}

theorem on20 (s : RD w ao c N) (hE : Us w ea elen E) (wd na nb nc nv : Int) (v : Value) :
    Calls Try.prog 26 #[.agg #[.slice ao N.length c, .int .i64 M], .agg #[.int .i64 20, .int .i64 wd, .int .i64 na, .int .i64 nb, .int .i64 nc, .int .u64 nv], v, .slice ea elen ecap] w fun e w' => e = .returned (.int .u64 nv) ∧ Hid (Below w.heap.size w w') := by
  clear s hE
  go_enter Try.func26, Try.ntmps26
  go_wp2
  go_ret
  exact ⟨rfl, hid (by go_grown)⟩

theorem on25 (s : RD w ao c N) (hE : Us w ea elen E) (wd nb nc nv p : Int) (pa : Nat) (hpa : pa < vl) (hp : w.cell? ⟨vb, vo + pa, none⟩ = some (.int .u64 p)) (kp : Wd64 p) :
    Calls Try.prog 26 #[.agg #[.slice ao N.length c, .int .i64 M], .agg #[.int .i64 25, .int .i64 wd, .int .i64 (pa : Int), .int .i64 nb, .int .i64 nc, .int .u64 nv], .slice (some ⟨vb, vo, none⟩) vl vcap, .slice ea elen ecap] w fun e w' => e = .returned (.int .u64 p) ∧ Hid (Below w.heap.size w w') := by
  clear s hE
  have ia : (pa : Int) < vl := by omega
  have vv := cell_lt hp
  simp only [] at vv
  have v1 : ¬ vb = w.heap.size := by omega
  have v2 : ¬ vb = w.heap.size + 1 := by omega
  go_enter Try.func26, Try.ntmps26
  go_wp2
  go_ret
  exact ⟨rfl, hid (by go_grown)⟩

theorem on22 (s : RD w ao c N) (hE : Us w ea elen E) (wd nv p q r : Int) (pa : Nat) (hpa : pa < vl) (hp : w.cell? ⟨vb, vo + pa, none⟩ = some (.int .u64 p)) (kp : Wd64 p) (pb : Nat) (hpb : pb < vl) (hq : w.cell? ⟨vb, vo + pb, none⟩ = some (.int .u64 q)) (kq : Wd64 q) (pc : Nat) (hpc : pc < vl) (hr : w.cell? ⟨vb, vo + pc, none⟩ = some (.int .u64 r)) {x : Int} (hx : (if p = 1 then q else r) = x) :
    Calls Try.prog 26 #[.agg #[.slice ao N.length c, .int .i64 M], .agg #[.int .i64 22, .int .i64 wd, .int .i64 (pa : Int), .int .i64 (pb : Int), .int .i64 (pc : Int), .int .u64 nv], .slice (some ⟨vb, vo, none⟩) vl vcap, .slice ea elen ecap] w fun e w' => e = .returned (.int .u64 x) ∧ Hid (Below w.heap.size w w') := by
  clear s hE
  have ia : (pa : Int) < vl := by omega
  have ib : (pb : Int) < vl := by omega
  have ic : (pc : Int) < vl := by omega
  have vv := cell_lt hp
  simp only [] at vv
  have v1 : ¬ vb = w.heap.size := by omega
  have v2 : ¬ vb = w.heap.size + 1 := by omega
  by_cases h1 : p = 1
  · rw [if_pos h1] at hx
    subst hx h1
    go_enter Try.func26, Try.ntmps26
    go_wp2
    go_ret
    exact ⟨rfl, hid (by go_grown)⟩
  · rw [if_neg h1] at hx
    subst hx
    have h2 := ne_b h1
    clear h1
    go_enter Try.func26, Try.ntmps26
    go_wp2
    go_ret
    exact ⟨rfl, hid (by go_grown)⟩

theorem on21a (s : RD w ao c N) (hE : Us w ea elen E) (wd nb nc nv : Int) (j : Nat) (hj : j < elen) {eb eo : Nat} (he : ea = some ⟨eb, eo, none⟩) {p : Int} (hp : w.cell? ⟨eb, eo + j, none⟩ = some (.int .u64 p)) (kp : Wd64 p) {x : Int} (hx : cutF wd p = x) (v : Value) :
    Calls Try.prog 26 #[.agg #[.slice ao N.length c, .int .i64 M], .agg #[.int .i64 21, .int .i64 wd, .int .i64 (j : Int), .int .i64 nb, .int .i64 nc, .int .u64 nv], v, .slice ea elen ecap] w fun e w' => e = .returned (.int .u64 x) ∧ Hid (Below w.heap.size w w') := by
  have HS := hid s
  have HE := hid hE
  clear s hE
  subst he hx
  have ij : (j : Int) < elen := by omega
  go_enter Try.func26, Try.ntmps26
  go_upto_region 6 with fail
  obtain ⟨z1, z2⟩ := two_newd w (.slice ao N.length c) (.int .i64 M) (.int .i64 21) (.int .i64 wd) (.int .i64 (j : Int)) (.int .i64 nb) (.int .i64 nc) (.int .u64 nv)
  have L4 : Hid (Below w.heap.size w ((w.alloc (.cells #[.slice ao N.length c, .int .i64 M] 28)).alloc (.cells #[.int .i64 21, .int .i64 wd, .int .i64 (j : Int), .int .i64 nb, .int .i64 nc, .int .u64 nv] 61))) := hid (by go_grown)
  revert z1 z2 L4
  generalize (w.alloc (.cells #[.slice ao N.length c, .int .i64 M] 28)).alloc (.cells #[.int .i64 21, .int .i64 wd, .int .i64 (j : Int), .int .i64 nb, .int .i64 nc, .int .u64 nv] 61) = w4
  intro z1 z2 L4
  have S4 := hid (HS.out.below L4.out)
  have c1 : ∀ y : BW w4, y.w.cell? ⟨w.heap.size + 1, 1, none⟩ = some (.int .i64 wd) := BW.cell (by rw [cell_of z2]; rfl)
  have c2 : ∀ y : BW w4, y.w.cell? ⟨w.heap.size + 1, 2, none⟩ = some (.int .i64 (j : Int)) := BW.cell (by rw [cell_of z2]; rfl)
  have dp : ∀ y : BW w4, y.w.cell? ⟨eb, eo + j, none⟩ = some (.int .u64 p) := BW.cell ((L4.out.cell (cell_lt hp)).trans hp)
  clear z1 z2 HS HE hp
  haveI : Inhabited (BW w4) := ⟨⟨w4, Below.refl _ _⟩⟩
  refine wp_region_below (by kernel_rfl) (by kernel_rfl) ?_
  repeat (go_big_quiet_step (first
    | (go_at_call 15; exact bw_same (rcut_any _ _ _ kp.1 kp.2))
    | fail))
  refine wpQuiet_nil ?_
  intro _ hw
  obtain ⟨yy, hw2⟩ := hw
  subst hw2
  go_wp2_with fail
  go_ret
  exact ⟨rfl, hid (Below.next L4.out yy.be)⟩

theorem on21b (s : RD w ao c N) (hE : Us w ea elen E) (wd nb nc nv : Int) (j : Nat) (hj : ¬ j < elen) (v : Value) :
    Calls Try.prog 26 #[.agg #[.slice ao N.length c, .int .i64 M], .agg #[.int .i64 21, .int .i64 wd, .int .i64 (j : Int), .int .i64 nb, .int .i64 nc, .int .u64 nv], v, .slice ea elen ecap] w fun e w' => e = .returned (.int .u64 0) ∧ Hid (Below w.heap.size w w') := by
  clear s hE
  have ij : ¬ (j : Int) < elen := by omega
  go_enter Try.func26, Try.ntmps26
  go_wp2
  go_ret
  exact ⟨rfl, hid (by go_grown)⟩

theorem on23 (s : RD w ao c N) (hE : Us w ea elen E) (wd nc nv p : Int) (pa : Nat) (hpa : pa < vl) (hp : w.cell? ⟨vb, vo + pa, none⟩ = some (.int .u64 p)) (kp : Wd64 p) (m : Nat) (hm : m < 64) {x : Int} (hx : cutF wd (p / 2 ^ m) = x) :
    Calls Try.prog 26 #[.agg #[.slice ao N.length c, .int .i64 M], .agg #[.int .i64 23, .int .i64 wd, .int .i64 (pa : Int), .int .i64 (m : Int), .int .i64 nc, .int .u64 nv], .slice (some ⟨vb, vo, none⟩) vl vcap, .slice ea elen ecap] w fun e w' => e = .returned (.int .u64 x) ∧ Hid (Below w.heap.size w w') := by
  have HS := hid s
  have HE := hid hE
  clear s hE
  have ia : (pa : Int) < vl := by omega
  have hb := shr_bd (b := (m : Int)) kp
  simp only [Int.toNat_natCast] at hb
  subst hx
  go_enter Try.func26, Try.ntmps26
  go_upto_region 13 with fail
  obtain ⟨z1, z2⟩ := two_newd w (.slice ao N.length c) (.int .i64 M) (.int .i64 23) (.int .i64 wd) (.int .i64 (pa : Int)) (.int .i64 (m : Int)) (.int .i64 nc) (.int .u64 nv)
  have L4 : Hid (Below w.heap.size w ((w.alloc (.cells #[.slice ao N.length c, .int .i64 M] 28)).alloc (.cells #[.int .i64 23, .int .i64 wd, .int .i64 (pa : Int), .int .i64 (m : Int), .int .i64 nc, .int .u64 nv] 61))) := hid (by go_grown)
  revert z1 z2 L4
  generalize (w.alloc (.cells #[.slice ao N.length c, .int .i64 M] 28)).alloc (.cells #[.int .i64 23, .int .i64 wd, .int .i64 (pa : Int), .int .i64 (m : Int), .int .i64 nc, .int .u64 nv] 61) = w4
  intro z1 z2 L4
  have S4 := hid (HS.out.below L4.out)
  have c1 : ∀ y : BW w4, y.w.cell? ⟨w.heap.size + 1, 1, none⟩ = some (.int .i64 wd) := BW.cell (by rw [cell_of z2]; rfl)
  have c2 : ∀ y : BW w4, y.w.cell? ⟨w.heap.size + 1, 2, none⟩ = some (.int .i64 (pa : Int)) := BW.cell (by rw [cell_of z2]; rfl)
  have c3 : ∀ y : BW w4, y.w.cell? ⟨w.heap.size + 1, 3, none⟩ = some (.int .i64 (m : Int)) := BW.cell (by rw [cell_of z2]; rfl)
  have dp : ∀ y : BW w4, y.w.cell? ⟨vb, vo + pa, none⟩ = some (.int .u64 p) := BW.cell ((L4.out.cell (cell_lt hp)).trans hp)
  clear z1 z2 HS HE hp
  haveI : Inhabited (BW w4) := ⟨⟨w4, Below.refl _ _⟩⟩
  refine wp_region_below (by kernel_rfl) (by kernel_rfl) ?_
  repeat (go_big_quiet_step (first
    | (go_at_call 15; exact bw_same (rcut_any _ _ _ hb.1 hb.2))
    | fail))
  refine wpQuiet_nil ?_
  intro _ hw
  obtain ⟨yy, hw2⟩ := hw
  subst hw2
  go_wp2_with fail
  go_ret
  exact ⟨rfl, hid (Below.next L4.out yy.be)⟩

theorem on24 (s : RD w ao c N) (hE : Us w ea elen E) (wd nc nv p q : Int) (pa : Nat) (hpa : pa < vl) (hp : w.cell? ⟨vb, vo + pa, none⟩ = some (.int .u64 p)) (kp : Wd64 p) (pb : Nat) (hpb : pb < vl) (hq : w.cell? ⟨vb, vo + pb, none⟩ = some (.int .u64 q)) (kq : Wd64 q) {m : Nat} (hm : wdF N (pb : Int) = (m : Int)) (h1 : m < 64) {x : Int} (hx : bits .or .u64 (IntKind.u64.wrap (p * 2 ^ m)) q = x) :
    Calls Try.prog 26 #[.agg #[.slice ao N.length c, .int .i64 M], .agg #[.int .i64 24, .int .i64 wd, .int .i64 (pa : Int), .int .i64 (pb : Int), .int .i64 nc, .int .u64 nv], .slice (some ⟨vb, vo, none⟩) vl vcap, .slice ea elen ecap] w fun e w' => e = .returned (.int .u64 x) ∧ Hid (Below w.heap.size w w') := by
  have HS := hid s
  have HE := hid hE
  clear s hE
  have ia : (pa : Int) < vl := by omega
  have ib : (pb : Int) < vl := by omega
  have HM := hid hm
  subst hx
  go_enter Try.func26, Try.ntmps26
  go_upto_region 15 with fail
  obtain ⟨z1, z2⟩ := two_newd w (.slice ao N.length c) (.int .i64 M) (.int .i64 24) (.int .i64 wd) (.int .i64 (pa : Int)) (.int .i64 (pb : Int)) (.int .i64 nc) (.int .u64 nv)
  have L4 : Hid (Below w.heap.size w ((w.alloc (.cells #[.slice ao N.length c, .int .i64 M] 28)).alloc (.cells #[.int .i64 24, .int .i64 wd, .int .i64 (pa : Int), .int .i64 (pb : Int), .int .i64 nc, .int .u64 nv] 61))) := hid (by go_grown)
  revert z1 z2 L4
  generalize (w.alloc (.cells #[.slice ao N.length c, .int .i64 M] 28)).alloc (.cells #[.int .i64 24, .int .i64 wd, .int .i64 (pa : Int), .int .i64 (pb : Int), .int .i64 nc, .int .u64 nv] 61) = w4
  intro z1 z2 L4
  have S4 := hid (HS.out.below L4.out)
  have c2 : ∀ y : BW w4, y.w.cell? ⟨w.heap.size + 1, 2, none⟩ = some (.int .i64 (pa : Int)) := BW.cell (by rw [cell_of z2]; rfl)
  have c3 : ∀ y : BW w4, y.w.cell? ⟨w.heap.size + 1, 3, none⟩ = some (.int .i64 (pb : Int)) := BW.cell (by rw [cell_of z2]; rfl)
  have g0 : ∀ y : BW w4, y.w.cell? ⟨w.heap.size, 0, none⟩ = some (.slice ao N.length c) := BW.cell (by rw [cell_of z1]; rfl)
  have g1 : ∀ y : BW w4, y.w.cell? ⟨w.heap.size, 1, none⟩ = some (.int .i64 M) := BW.cell (by rw [cell_of z1]; rfl)
  have dp : ∀ y : BW w4, y.w.cell? ⟨vb, vo + pa, none⟩ = some (.int .u64 p) := BW.cell ((L4.out.cell (cell_lt hp)).trans hp)
  have dq : ∀ y : BW w4, y.w.cell? ⟨vb, vo + pb, none⟩ = some (.int .u64 q) := BW.cell ((L4.out.cell (cell_lt hq)).trans hq)
  clear z1 z2 HS HE hp hq
  haveI : Inhabited (BW w4) := ⟨⟨w4, Below.refl _ _⟩⟩
  refine wp_region_below (by kernel_rfl) (by kernel_rfl) ?_
  repeat (go_big_quiet_step (first
    | (go_at_call 16; exact bw_of (rwidth_is (RD.below S4.out (BW.be _)) (pb : Int) HM.out))
    | fail))
  refine wpQuiet_nil ?_
  intro _ hw
  obtain ⟨yy, hw2⟩ := hw
  subst hw2
  go_wp2_with fail
  go_ret
  exact ⟨rfl, hid (Below.next L4.out yy.be)⟩

theorem on26 (s : RD w ao c N) (hE : Us w ea elen E) (wd nb nc nv p : Int) (pa : Nat) (hpa : pa < vl) (hp : w.cell? ⟨vb, vo + pa, none⟩ = some (.int .u64 p)) (kp : Wd64 p) {m : Int} (hm : wdF N (pa : Int) = m) {x : Int} (hx : cutF wd (IntKind.u64.wrap (Wd.sgnF m p)) = x) :
    Calls Try.prog 26 #[.agg #[.slice ao N.length c, .int .i64 M], .agg #[.int .i64 26, .int .i64 wd, .int .i64 (pa : Int), .int .i64 nb, .int .i64 nc, .int .u64 nv], .slice (some ⟨vb, vo, none⟩) vl vcap, .slice ea elen ecap] w fun e w' => e = .returned (.int .u64 x) ∧ Hid (Below w.heap.size w w') := by
  have HS := hid s
  have HE := hid hE
  clear s hE
  have ia : (pa : Int) < vl := by omega
  have HM := hid hm
  have hb := Wd.u64_bd (Wd.sgnF m p)
  subst hx
  go_enter Try.func26, Try.ntmps26
  go_upto_region 19 with fail
  obtain ⟨z1, z2⟩ := two_newd w (.slice ao N.length c) (.int .i64 M) (.int .i64 26) (.int .i64 wd) (.int .i64 (pa : Int)) (.int .i64 nb) (.int .i64 nc) (.int .u64 nv)
  have L4 : Hid (Below w.heap.size w ((w.alloc (.cells #[.slice ao N.length c, .int .i64 M] 28)).alloc (.cells #[.int .i64 26, .int .i64 wd, .int .i64 (pa : Int), .int .i64 nb, .int .i64 nc, .int .u64 nv] 61))) := hid (by go_grown)
  revert z1 z2 L4
  generalize (w.alloc (.cells #[.slice ao N.length c, .int .i64 M] 28)).alloc (.cells #[.int .i64 26, .int .i64 wd, .int .i64 (pa : Int), .int .i64 nb, .int .i64 nc, .int .u64 nv] 61) = w4
  intro z1 z2 L4
  have S4 := hid (HS.out.below L4.out)
  have c1 : ∀ y : BW w4, y.w.cell? ⟨w.heap.size + 1, 1, none⟩ = some (.int .i64 wd) := BW.cell (by rw [cell_of z2]; rfl)
  have c2 : ∀ y : BW w4, y.w.cell? ⟨w.heap.size + 1, 2, none⟩ = some (.int .i64 (pa : Int)) := BW.cell (by rw [cell_of z2]; rfl)
  have g0 : ∀ y : BW w4, y.w.cell? ⟨w.heap.size, 0, none⟩ = some (.slice ao N.length c) := BW.cell (by rw [cell_of z1]; rfl)
  have g1 : ∀ y : BW w4, y.w.cell? ⟨w.heap.size, 1, none⟩ = some (.int .i64 M) := BW.cell (by rw [cell_of z1]; rfl)
  have dp : ∀ y : BW w4, y.w.cell? ⟨vb, vo + pa, none⟩ = some (.int .u64 p) := BW.cell ((L4.out.cell (cell_lt hp)).trans hp)
  clear z1 z2 HS HE hp
  haveI : Inhabited (BW w4) := ⟨⟨w4, Below.refl _ _⟩⟩
  refine wp_region_below (by kernel_rfl) (by kernel_rfl) ?_
  repeat (go_big_quiet_step (first
    | (go_at_call 16; exact bw_of (rwidth_is (RD.below S4.out (BW.be _)) (pa : Int) HM.out))
    | (go_at_call 55; exact bw_same (Wd.rsigned_any _ _ _ kp.1 kp.2))
    | (go_at_call 15; exact bw_same (rcut_any _ _ _ hb.1 hb.2))
    | fail))
  refine wpQuiet_nil ?_
  intro _ hw
  obtain ⟨yy, hw2⟩ := hw
  subst hw2
  go_wp2_with fail
  go_ret
  exact ⟨rfl, hid (Below.next L4.out yy.be)⟩

theorem on15 (s : RD w ao c N) (hE : Us w ea elen E) (wd nb nc nv p : Int) (pa : Nat) (hpa : pa < vl) (hp : w.cell? ⟨vb, vo + pa, none⟩ = some (.int .u64 p)) (kp : Wd64 p) {x : Int} (hx : Wd.unF 15 wd p = x) :
    Calls Try.prog 26 #[.agg #[.slice ao N.length c, .int .i64 M], .agg #[.int .i64 15, .int .i64 wd, .int .i64 (pa : Int), .int .i64 nb, .int .i64 nc, .int .u64 nv], .slice (some ⟨vb, vo, none⟩) vl vcap, .slice ea elen ecap] w fun e w' => e = .returned (.int .u64 x) ∧ Hid (Below w.heap.size w w') := by
  have HS := hid s
  have HE := hid hE
  clear s hE
  have ia : (pa : Int) < vl := by omega
  subst hx
  go_enter Try.func26, Try.ntmps26
  go_upto_region 22 with fail
  obtain ⟨z1, z2⟩ := two_newd w (.slice ao N.length c) (.int .i64 M) (.int .i64 15) (.int .i64 wd) (.int .i64 (pa : Int)) (.int .i64 nb) (.int .i64 nc) (.int .u64 nv)
  have L4 : Hid (Below w.heap.size w ((w.alloc (.cells #[.slice ao N.length c, .int .i64 M] 28)).alloc (.cells #[.int .i64 15, .int .i64 wd, .int .i64 (pa : Int), .int .i64 nb, .int .i64 nc, .int .u64 nv] 61))) := hid (by go_grown)
  revert z1 z2 L4
  generalize (w.alloc (.cells #[.slice ao N.length c, .int .i64 M] 28)).alloc (.cells #[.int .i64 15, .int .i64 wd, .int .i64 (pa : Int), .int .i64 nb, .int .i64 nc, .int .u64 nv] 61) = w4
  intro z1 z2 L4
  have S4 := hid (HS.out.below L4.out)
  have c0 : ∀ y : BW w4, y.w.cell? ⟨w.heap.size + 1, 0, none⟩ = some (.int .i64 15) := BW.cell (by rw [cell_of z2]; rfl)
  have c1 : ∀ y : BW w4, y.w.cell? ⟨w.heap.size + 1, 1, none⟩ = some (.int .i64 wd) := BW.cell (by rw [cell_of z2]; rfl)
  have c2 : ∀ y : BW w4, y.w.cell? ⟨w.heap.size + 1, 2, none⟩ = some (.int .i64 (pa : Int)) := BW.cell (by rw [cell_of z2]; rfl)
  have dp : ∀ y : BW w4, y.w.cell? ⟨vb, vo + pa, none⟩ = some (.int .u64 p) := BW.cell ((L4.out.cell (cell_lt hp)).trans hp)
  clear z1 z2 HS HE hp
  haveI : Inhabited (BW w4) := ⟨⟨w4, Below.refl _ _⟩⟩
  refine wp_region_below (by kernel_rfl) (by kernel_rfl) ?_
  repeat (go_big_quiet_step (first
    | (go_at_call 56; exact bw_same (Wd.runary_any _ _ _ _ kp.1 kp.2))
    | fail))
  refine wpQuiet_nil ?_
  intro _ hw
  obtain ⟨yy, hw2⟩ := hw
  subst hw2
  go_wp2_with fail
  go_ret
  exact ⟨rfl, hid (Below.next L4.out yy.be)⟩

theorem on16 (s : RD w ao c N) (hE : Us w ea elen E) (wd nb nc nv p : Int) (pa : Nat) (hpa : pa < vl) (hp : w.cell? ⟨vb, vo + pa, none⟩ = some (.int .u64 p)) (kp : Wd64 p) {x : Int} (hx : Wd.unF 16 wd p = x) :
    Calls Try.prog 26 #[.agg #[.slice ao N.length c, .int .i64 M], .agg #[.int .i64 16, .int .i64 wd, .int .i64 (pa : Int), .int .i64 nb, .int .i64 nc, .int .u64 nv], .slice (some ⟨vb, vo, none⟩) vl vcap, .slice ea elen ecap] w fun e w' => e = .returned (.int .u64 x) ∧ Hid (Below w.heap.size w w') := by
  have HS := hid s
  have HE := hid hE
  clear s hE
  have ia : (pa : Int) < vl := by omega
  subst hx
  go_enter Try.func26, Try.ntmps26
  go_upto_region 22 with fail
  obtain ⟨z1, z2⟩ := two_newd w (.slice ao N.length c) (.int .i64 M) (.int .i64 16) (.int .i64 wd) (.int .i64 (pa : Int)) (.int .i64 nb) (.int .i64 nc) (.int .u64 nv)
  have L4 : Hid (Below w.heap.size w ((w.alloc (.cells #[.slice ao N.length c, .int .i64 M] 28)).alloc (.cells #[.int .i64 16, .int .i64 wd, .int .i64 (pa : Int), .int .i64 nb, .int .i64 nc, .int .u64 nv] 61))) := hid (by go_grown)
  revert z1 z2 L4
  generalize (w.alloc (.cells #[.slice ao N.length c, .int .i64 M] 28)).alloc (.cells #[.int .i64 16, .int .i64 wd, .int .i64 (pa : Int), .int .i64 nb, .int .i64 nc, .int .u64 nv] 61) = w4
  intro z1 z2 L4
  have S4 := hid (HS.out.below L4.out)
  have c0 : ∀ y : BW w4, y.w.cell? ⟨w.heap.size + 1, 0, none⟩ = some (.int .i64 16) := BW.cell (by rw [cell_of z2]; rfl)
  have c1 : ∀ y : BW w4, y.w.cell? ⟨w.heap.size + 1, 1, none⟩ = some (.int .i64 wd) := BW.cell (by rw [cell_of z2]; rfl)
  have c2 : ∀ y : BW w4, y.w.cell? ⟨w.heap.size + 1, 2, none⟩ = some (.int .i64 (pa : Int)) := BW.cell (by rw [cell_of z2]; rfl)
  have dp : ∀ y : BW w4, y.w.cell? ⟨vb, vo + pa, none⟩ = some (.int .u64 p) := BW.cell ((L4.out.cell (cell_lt hp)).trans hp)
  clear z1 z2 HS HE hp
  haveI : Inhabited (BW w4) := ⟨⟨w4, Below.refl _ _⟩⟩
  refine wp_region_below (by kernel_rfl) (by kernel_rfl) ?_
  repeat (go_big_quiet_step (first
    | (go_at_call 56; exact bw_same (Wd.runary_any _ _ _ _ kp.1 kp.2))
    | fail))
  refine wpQuiet_nil ?_
  intro _ hw
  obtain ⟨yy, hw2⟩ := hw
  subst hw2
  go_wp2_with fail
  go_ret
  exact ⟨rfl, hid (Below.next L4.out yy.be)⟩

theorem onbin (s : RD w ao c N) (hE : Us w ea elen E) (op wd nc nv p q : Int) (pa : Nat) (hpa : pa < vl) (hp : w.cell? ⟨vb, vo + pa, none⟩ = some (.int .u64 p)) (kp : Wd64 p) (pb : Nat) (hpb : pb < vl) (hq : w.cell? ⟨vb, vo + pb, none⟩ = some (.int .u64 q)) (kq : Wd64 q) (g1 : 1 ≤ op) (g2 : op ≤ 14) {m : Int} (hm : wdF N (pa : Int) = m) {x : Int} (hx : Wd.binF op m p q = x) :
    Calls Try.prog 26 #[.agg #[.slice ao N.length c, .int .i64 M], .agg #[.int .i64 op, .int .i64 wd, .int .i64 (pa : Int), .int .i64 (pb : Int), .int .i64 nc, .int .u64 nv], .slice (some ⟨vb, vo, none⟩) vl vcap, .slice ea elen ecap] w fun e w' => e = .returned (.int .u64 x) ∧ Hid (Below w.heap.size w w') := by
  have HS := hid s
  have HE := hid hE
  clear s hE
  have ia : (pa : Int) < vl := by omega
  have ib : (pb : Int) < vl := by omega
  have HM := hid hm
  subst hx
  have q0 := ne_b (show op ≠ 20 by omega)
  have q1 := ne_b (show op ≠ 21 by omega)
  have q2 := ne_b (show op ≠ 22 by omega)
  have q3 := ne_b (show op ≠ 15 by omega)
  have q4 := ne_b (show op ≠ 16 by omega)
  have q5 := ne_b (show op ≠ 23 by omega)
  have q6 := ne_b (show op ≠ 25 by omega)
  have q7 := ne_b (show op ≠ 26 by omega)
  have q8 := ne_b (show op ≠ 24 by omega)
  clear g1 g2
  go_enter Try.func26, Try.ntmps26
  go_upto_region 24 with fail
  obtain ⟨z1, z2⟩ := two_newd w (.slice ao N.length c) (.int .i64 M) (.int .i64 op) (.int .i64 wd) (.int .i64 (pa : Int)) (.int .i64 (pb : Int)) (.int .i64 nc) (.int .u64 nv)
  have L4 : Hid (Below w.heap.size w ((w.alloc (.cells #[.slice ao N.length c, .int .i64 M] 28)).alloc (.cells #[.int .i64 op, .int .i64 wd, .int .i64 (pa : Int), .int .i64 (pb : Int), .int .i64 nc, .int .u64 nv] 61))) := hid (by go_grown)
  revert z1 z2 L4
  generalize (w.alloc (.cells #[.slice ao N.length c, .int .i64 M] 28)).alloc (.cells #[.int .i64 op, .int .i64 wd, .int .i64 (pa : Int), .int .i64 (pb : Int), .int .i64 nc, .int .u64 nv] 61) = w4
  intro z1 z2 L4
  have S4 := hid (HS.out.below L4.out)
  have c0 : ∀ y : BW w4, y.w.cell? ⟨w.heap.size + 1, 0, none⟩ = some (.int .i64 op) := BW.cell (by rw [cell_of z2]; rfl)
  have c2 : ∀ y : BW w4, y.w.cell? ⟨w.heap.size + 1, 2, none⟩ = some (.int .i64 (pa : Int)) := BW.cell (by rw [cell_of z2]; rfl)
  have c3 : ∀ y : BW w4, y.w.cell? ⟨w.heap.size + 1, 3, none⟩ = some (.int .i64 (pb : Int)) := BW.cell (by rw [cell_of z2]; rfl)
  have g0 : ∀ y : BW w4, y.w.cell? ⟨w.heap.size, 0, none⟩ = some (.slice ao N.length c) := BW.cell (by rw [cell_of z1]; rfl)
  have g1 : ∀ y : BW w4, y.w.cell? ⟨w.heap.size, 1, none⟩ = some (.int .i64 M) := BW.cell (by rw [cell_of z1]; rfl)
  have dp : ∀ y : BW w4, y.w.cell? ⟨vb, vo + pa, none⟩ = some (.int .u64 p) := BW.cell ((L4.out.cell (cell_lt hp)).trans hp)
  have dq : ∀ y : BW w4, y.w.cell? ⟨vb, vo + pb, none⟩ = some (.int .u64 q) := BW.cell ((L4.out.cell (cell_lt hq)).trans hq)
  clear z1 z2 HS HE hp hq
  haveI : Inhabited (BW w4) := ⟨⟨w4, Below.refl _ _⟩⟩
  refine wp_region_below (by kernel_rfl) (by kernel_rfl) ?_
  repeat (go_big_quiet_step (first
    | (go_at_call 16; exact bw_of (rwidth_is (RD.below S4.out (BW.be _)) (pa : Int) HM.out))
    | (go_at_call 57; exact bw_same (Wd.rbinary_any _ _ _ _ _ kp.1 kp.2 kq.1 kq.2))
    | fail))
  refine wpQuiet_nil ?_
  intro _ hw
  obtain ⟨yy, hw2⟩ := hw
  subst hw2
  go_wp2_with fail
  go_ret
  exact ⟨rfl, hid (Below.next L4.out yy.be)⟩

end

end
end Go.Proofs.Ytbekgejbgmdbdaa

namespace Go.Proofs.Ytbekgejbgmdbdaa
section
open Go.RowKit Go.Maps
set_option linter.unusedVariables false
set_option maxRecDepth 20000

theorem one_any {w : World} {N : List Nd} {ao : Option Addr} {c M : Nat} {ea : Option Addr} {elen ecap : Nat} {E V : List Int} {va : Option Addr} {vcap : Nat} (s : RD w ao c N) (hE : Us w ea elen E) (g : Gd N) {i : Nat} (hi : i ≤ N.length) (n : Nd) (hS : Shp N i n) (hV : Us w va i V) {x : Int} (hx : meanF N E n ((ksF n).map (gt V)) = x) :
    Calls Try.prog 26 #[.agg #[.slice ao N.length c, .int .i64 M], .agg #[.int .i64 n.op, .int .i64 n.wd, .int .i64 n.a, .int .i64 n.b, .int .i64 n.c, .int .u64 n.v], .slice va i vcap, .slice ea elen ecap] w fun e w' => e = .returned (.int .u64 x) ∧ Hid (Below w.heap.size w w') := by
  have key : ∀ {a : Int}, Ahd i a → ∃ (pa vb vo : Nat), a = (pa : Int) ∧ pa < i ∧ va = some ⟨vb, vo, none⟩ ∧ w.cell? ⟨vb, vo + pa, none⟩ = some (.int .u64 (gt V a)) ∧ Wd64 (gt V a) := by
    intro a ha
    obtain ⟨pa, rfl⟩ := Int.eq_ofNat_of_zero_le ha.1
    have hp : pa < i := by have := ha.2; omega
    obtain ⟨vb, vo, e1, e2⟩ := hV.at hp
    exact ⟨pa, vb, vo, rfl, hp, e1, e2, enF_bd hV _⟩
  subst hx
  obtain ⟨op, wd, na, nb, nc, nv⟩ := n
  rcases hS with ⟨e, h⟩ | ⟨e, h1, h2, _⟩ | ⟨e, h1, _⟩ | ⟨e, h1, h2, _⟩ | ⟨e, h1, h2, h3, _⟩ | ⟨e, h1, h2, h3, h4⟩ | ⟨e, h1, h2, h3, h4⟩ | ⟨e, h1, _⟩
  · simp only [] at e; subst e
    rw [me_const rfl]
    exact on20 s hE wd na nb nc nv _
  · simp only [] at e h2; subst e
    rw [me_var rfl]
    obtain ⟨j, rfl⟩ := Int.eq_ofNat_of_zero_le h2.1
    by_cases hj : j < elen
    · obtain ⟨eb, eo, e1, e2⟩ := hE.at hj
      exact on21a s hE wd nb nc nv j hj e1 e2 (enF_bd hE _) rfl _
    · have e0 := enF_out hE hj
      simp only []
      rw [e0, show cutF wd 0 = 0 by unfold cutF; split <;> simp]
      exact on21b s hE wd nb nc nv j hj _
  · simp only [] at e h1
    obtain ⟨pa, vb, vo, rfl, hp, rfl, z, zb⟩ := key h1
    rw [me_un (by simpa using e), ks_one (by simp only []; omega)]
    rcases e with rfl | rfl
    · exact on15 s hE wd nb nc nv _ pa hp z zb rfl
    · exact on16 s hE wd nb nc nv _ pa hp z zb rfl
  · simp only [] at e h1 h2
    obtain ⟨pa, vb, vo, rfl, hp, rfl, z, zb⟩ := key h1
    obtain ⟨pb, vb2, vo2, rfl, hp2, e2, z2, zb2⟩ := key h2
    cases e2
    rw [me_bin (by simpa using e), ks_two (.inl (by simpa using e))]
    exact onbin s hE op wd nc nv _ _ pa hp z zb pb hp2 z2 zb2 e.1 e.2 rfl rfl
  · simp only [] at e h1 h2 h3; subst e
    obtain ⟨pa, vb, vo, rfl, hp, rfl, z, zb⟩ := key h1
    obtain ⟨pb, vb2, vo2, rfl, hp2, e2, z2, zb2⟩ := key h2
    obtain ⟨pc, vb3, vo3, rfl, hp3, e3, z3, zb3⟩ := key h3
    cases e2
    cases e3
    rw [me_ite rfl, ks_ite rfl]
    exact on22 s hE wd nv _ _ _ pa hp z zb pb hp2 z2 zb2 pc hp3 z3 rfl
  · simp only [] at e h1 h2; subst e
    obtain ⟨pa, vb, vo, rfl, hp, rfl, z, zb⟩ := key h1
    obtain ⟨m, rfl⟩ := Int.eq_ofNat_of_zero_le h2.1
    rw [me_ext rfl, ks_one (by simp)]
    exact on23 s hE wd nc nv _ pa hp z zb m (by omega) rfl
  · simp only [] at e h1 h2 h3 h4; subst e
    have b1 := wdF_in g (ahd_is hi h1)
    have b2 := wdF_in g (ahd_is hi h2)
    obtain ⟨pa, vb, vo, rfl, hp, rfl, z, zb⟩ := key h1
    obtain ⟨pb, vb2, vo2, rfl, hp2, e2, z2, zb2⟩ := key h2
    cases e2
    rw [me_cat rfl, ks_two (.inr rfl)]
    obtain ⟨m, hm⟩ := Int.eq_ofNat_of_zero_le (show 0 ≤ wdF N (pb : Int) by omega)
    refine on24 s hE wd nc nv _ _ pa hp z zb pb hp2 z2 zb2 hm (by omega) ?_
    simp only []
    rw [hm]
    rfl
  · simp only [] at e h1
    obtain ⟨pa, vb, vo, rfl, hp, rfl, z, zb⟩ := key h1
    rcases e with rfl | rfl
    · rw [me_zext rfl, ks_one (by simp)]
      exact on25 s hE wd nb nc nv _ pa hp z zb
    · rw [me_sext rfl, ks_one (by simp)]
      exact on26 s hE wd nb nc nv _ pa hp z zb rfl rfl

/-! ### rows of words -/
def uC (xs : List Int) : List Value := xs.map (Value.int .u64)
theorem Try.info32u : (Try.prog.info? 32).map (fun i => (i.zero, i.size, i.bytes)) = some (some (.int .u64 0), 1, 8) := by kernel_rfl

theorem us_own {w : World} {B : Nat} {v : Value} {xs : List Int} (h : w.ownsRow B 32 1 v xs.length (uC xs)) (hb : ∀ x ∈ xs, 0 ≤ x ∧ x < 18446744073709551616) : ∃ vo vc, v = .slice vo xs.length vc ∧ Us w vo xs.length xs := by
  rcases h.2 with ⟨rfl, hn⟩ | ⟨g, cap, cur, rfl, hb2, hg, hl, hm, hs, ht⟩
  · exact ⟨none, 0, by rw [hn], rfl, hb, fun h0 => by omega⟩
  · refine ⟨_, cap, rfl, rfl, hb, fun _ => ⟨g, 0, rfl, fun j hj => ?_⟩⟩
    rw [Nat.zero_add, h.cellAt j (by omega)]
    simp [uC, hj]

theorem run_call4 {ev : Operand → Value} {o : Oper} {w : World} {f : FuncId} {x1 x2 x3 x4 : Operand} {ts : Array TypeId} (ho : o.op = .call { callee := .value (.func f), args := #[x1, x2, x3, x4], argTypes := ts }) (hf : ev (.func f) = .func (.func f) #[] #[]) (eg : ∀ args w, (callFunc f args).run Try.prog w = .ok (.enter f args) w) {v1 v2 v3 v4 : Value} (h1 : ev x1 = v1) (h2 : ev x2 = v2) (h3 : ev x3 = v3) (h4 : ev x4 = v4) : (execOp ev o).run Try.prog w = .ok (.enter f #[v1, v2, v3, v4]) w := by
  simp [go_sem, execOp, ho, hf, resolve, invoke, eg, h1, h2, h3, h4]

/-- A call of a Go function of four arguments, as one step of a region that draws its order. -/
theorem step_go4 {w : World} {ops : Array Oper} {o : Oper} {a : Act} {Kc : Act → World → Prop} {Q : Exit → Act → World → Prop} {G : Prop} (hgd : o.guard = none) (f : FuncId) (x1 x2 x3 x4 : Operand) (ts : Array TypeId)
    (ho : o.op = .call { callee := .value (.func f), args := #[x1, x2, x3, x4], argTypes := ts }) (eg : ∀ args w, (callFunc f args).run Try.prog w = .ok (.enter f args) w) (v1 v2 v3 v4 : Value) (h1 : a.eval x1 = v1) (h2 : a.eval x2 = v2) (h3 : a.eval x3 = v3) (h4 : a.eval x4 = v4) {v : Value} {R : World → Prop} (hc : Calls Try.prog f #[v1, v2, v3, v4] w fun e w' => e = .returned v ∧ R w')
    (h : ∀ w', R w' → Kc (a.put o.dst v) w') : if Region.wanted o (yielded ops a.tmps) = true then Oper.wp Try.prog o a w Kc Q else G := by
  have hwd : Region.wanted o (yielded ops a.tmps) = true := by simp [Region.wanted, hgd]
  rw [if_pos hwd]
  unfold Oper.wp
  have hr : (execOp a.eval o).run Try.prog w = .ok (.enter f #[v1, v2, v3, v4]) w := run_call4 ho rfl eg h1 h2 h3 h4
  rw [hr]
  refine hc.mono fun e w' hh => ?_
  obtain ⟨he, hR⟩ := hh
  subst he
  exact h w' hR

/-- append of one word, as one step of such a region. -/
theorem step_word {w w1 : World} {ops : Array Oper} {o : Oper} {a : Act} {Kc : Act → World → Prop} {Q : Exit → Act → World → Prop} {G : Prop} (hgd : o.guard = none) (s x : Operand)
    (ho : o.op = .call { callee := .builtin .append, args := #[s, x], argTypes := #[23, 23] }) (y : Int) (hw : w = w1.alloc (.cells #[.int .u64 y] 32)) (B : Nat) (v : Value) (xs : List Int) (hs : a.eval s = v) (own : w1.ownsRow B 32 1 v xs.length (uC xs))
    (q : Nat) (hx : a.eval x = .slice (some ⟨q, 0, none⟩) 1 1) (hq : q = w1.heap.size) (hbd : xs.length ≤ 1000000) (hB : B ≤ w1.heap.size)
    (h : ∀ v' w', Hid (w'.ownsRow B 32 1 v' (xs ++ [y]).length (uC (xs ++ [y]))) → Hid (w1.grownBy w' v.ownBlock) → Kc (a.put o.dst v') w') :
    if Region.wanted o (yielded ops a.tmps) = true then Oper.wp Try.prog o a w Kc Q else G := by
  have hwd : Region.wanted o (yielded ops a.tmps) = true := by simp [Region.wanted, hgd]
  rw [if_pos hwd]
  subst hw hq
  obtain ⟨i0, hi, hz0, hz1, hz2⟩ := info_parts Try.info32u
  obtain ⟨v', w', hrun, r1, r2, _, r4⟩ := run_append_own_at (P := Try.prog) (w := w1.alloc (.cells #[.int .u64 y] 32)) B 23 o.type 32 i0 (.int .u64 0) 1 8 Try.underlying23 hi hz0 hz1 hz2 rfl (by decide) v xs.length _ (own.alloc _) ⟨w1.heap.size, 0, none⟩ 1 1 [.int .u64 y] rfl (cell_one_new w1 _ _) (by intro u hu; simp at hu; subst hu; rfl) (by unfold maxLen; omega) (by omega) (by simp; omega)
  unfold Oper.wp
  simp [execOp, ho, resolve, invoke, builtin, hs, hx, hrun, Result.andThen]
  refine h v' w' (hid (by simpa [uC] using r1)) (hid ((World.grownBy_alloc w1 _ _).trans r2))

/-- While all words are made: m of them are there. -/
structure AL (w0 : World) (N : List Nd) (ao : Option Addr) (c M : Nat) (E : List Int) (XB m : Nat) (v : Value) (wr : World) : Prop where
  be : Below w0.heap.size w0 wr
  xb : wr.heap[XB]? = some (.cells #[.slice ao N.length c, .int .i64 M] 28 (0, 0))
  ow : wr.ownsRow w0.heap.size 32 1 v (valsF N E m).length (uC (valsF N E m))

theorem AL.below {w0 wr w2 : World} {N : List Nd} {ao : Option Addr} {c M : Nat} {E : List Int} {XB m : Nat} {v : Value} (h : AL w0 N ao c M E XB m v wr) (b : Below wr.heap.size wr w2) : AL w0 N ao c M E XB m v w2 :=
  ⟨Below.next h.be b, by rw [b.block _ (blk_lt h.xb)]; exact h.xb, own_keep h.ow (grown_below b) (fun j hj => by cases hj)⟩
theorem AL.two {w0 wr : World} {N : List Nd} {ao : Option Addr} {c M : Nat} {E : List Int} {XB m : Nat} {v : Value} (h : AL w0 N ao c M E XB m v wr) : wr.cell? ⟨XB, 0, none⟩ = some (.slice ao N.length c) ∧ wr.cell? ⟨XB, 1, none⟩ = some (.int .i64 M) := two_of h.xb

theorem AL.push {w0 wr w3 : World} {N : List Nd} {ao : Option Addr} {c M : Nat} {E : List Int} {XB m : Nat} {v v3 : Value} {y : Int} (h : AL w0 N ao c M E XB m v wr) (hy : valsF N E (m + 1) = valsF N E m ++ [y]) (g : wr.grownBy w3 v.ownBlock) (ow : w3.ownsRow w0.heap.size 32 1 v3 (valsF N E m ++ [y]).length (uC (valsF N E m ++ [y]))) : AL w0 N ao c M E XB (m + 1) v3 w3 := by
  have hne : ∀ j, v.ownBlock = some j → j ≠ XB := fun j hj e => by
    obtain ⟨_, cur, hc⟩ := own_type h.ow hj
    rw [e, h.xb] at hc
    simp at hc
  refine ⟨h.be.grown g h.be.size (fun j hj => (own_type h.ow hj).1), ?_, by rw [hy]; exact ow⟩
  rw [g.block _ (blk_lt h.xb) (fun e => hne _ e.symm rfl)]; exact h.xb

theorem vals_wd {N : List Nd} (r : Wl N) (g : Gd N) (E : List Int) {m : Nat} (hm : m ≤ N.length) : ∀ x ∈ valsF N E m, 0 ≤ x ∧ x < 18446744073709551616 := by
  intro x hx
  obtain ⟨j, hj, rfl⟩ := List.getElem_of_mem hx
  have hl := valsF_len N E m
  have e : (valsF N E m)[j] = vF N E j := by
    have := vF_nat N E hm (show j < m by omega)
    rw [← this]
    unfold gt
    simp [hj]
  rw [e]
  exact vF_wd r g E j (by omega)

def AllEnd (w : World) (N : List Nd) (E : List Int) (e : Ending) (w' : World) : Prop := ∃ vo vc, e = .returned (.slice vo N.length vc) ∧ Hid (Us w' vo N.length (valsF N E N.length)) ∧ Hid (Below w.heap.size w w')
theorem AllEnd.out {w : World} {N : List Nd} {E : List Int} {e : Ending} {w' : World} (h : AllEnd w N E e w') : ∃ vo vc, e = .returned (.slice vo N.length vc) ∧ Hid (Us w' vo N.length (valsF N E N.length)) ∧ Hid (Below w.heap.size w w') := h
theorem enter26 (args : Array Value) (w : World) : (callFunc 26 args).run Try.prog w = .ok (.enter 26 args) w := by kernel_rfl

set_option maxHeartbeats 1000000 in
theorem all_any {w : World} {N : List Nd} {ao : Option Addr} {c M : Nat} {ea : Option Addr} {elen ecap : Nat} {E : List Int} (s : RD w ao c N) (hE : Us w ea elen E) (wl : Wl N) (g : Gd N) (hL : N.length ≤ 150) :
    Calls Try.prog 7 #[.agg #[.slice ao N.length c, .int .i64 M], .slice ea elen ecap] w fun e w' => AllEnd w N E e w' := by
  have HS := hid s
  have HE := hid hE
  have HW := hid wl
  have GD := hid g
  have HL := hid hL
  clear s hE wl g
  go_enter Try.func7, Try.ntmps7
  go_wp2
  have A0 : Hid (AL w N ao c M E w.heap.size 0 (.slice none 0 0) (w.alloc (.cells #[.slice ao N.length c, .int .i64 M] 28))) := hid ⟨new_b _ _, new_same _ _, World.ownsRow_nil _ _ _ _⟩
  revert A0
  generalize w.alloc (.cells #[.slice ao N.length c, .int .i64 M] 28) = wz
  intro A0
  go_loopw [5, 6] (fun v i wr => ∃ m : Nat, m ≤ N.length ∧ i = .int .i64 m ∧ Hid (AL w N ao c M E w.heap.size m v wr)) (fun _ i _ => N.length - (intOf i).toNat)
  case atStart => exact ⟨0, Nat.zero_le _, rfl, A0⟩
  case round =>
    clear A0
    obtain ⟨m, hm, rfl, hr⟩ := hrel
    obtain ⟨k0, k1⟩ := hr.out.two
    by_cases hlt : m < N.length
    · have hlt' : (m : Int) < N.length := by omega
      have HLT := hid hlt
      obtain ⟨n1, hn⟩ : ∃ n1, ndA N m = n1 := ⟨_, rfl⟩
      obtain ⟨gg, hgg, e0, e1, e2, e3, e4, e5⟩ := (HS.out.below hr.out.be).at hlt
      rw [hn] at e0 e1 e2 e3 e4 e5
      obtain ⟨y, hy⟩ : ∃ y, meanF N E n1 ((ksF n1).map (gt (valsF N E m))) = y := ⟨_, rfl⟩
      have HYS : Hid (valsF N E (m + 1) = valsF N E m ++ [y]) := hid (by simp only [valsF]; rw [hn, hy])
      have HY := hid hy
      have HSH : Hid (Shp N m n1) := hid (by rw [← hn]; exact HW.out.shp GD.out hlt)
      obtain ⟨vo, vc, rfl, hU⟩ := us_own hr.out.ow (vals_wd HW.out GD.out E hm)
      subst hgg
      rw [valsF_len] at hU hr ⊢
      have HU := hid (hU.below (below_drew wr))
      have HEd := hid ((HE.out.below hr.out.be).below (below_drew wr))
      have HSd := hid ((HS.out.below hr.out.be).below (below_drew wr))
      have HMN : Hid (m ≤ N.length) := hid hm
      have hsz := hr.out.be.size
      clear hn hy hlt hU
      go_wp2_with fail
      go_region_law (first
        | (refine step_go4 rfl 26 _ _ _ _ _ rfl enter26 (.agg #[.slice (some ⟨gg, 0, none⟩) N.length c, .int .i64 M]) (.agg #[.int .i64 n1.op, .int .i64 n1.wd, .int .i64 n1.a, .int .i64 n1.b, .int .i64 n1.c, .int .u64 n1.v]) (.slice vo m vc) (.slice ea elen ecap) rfl rfl rfl rfl (one_any (M := M) HSd.out HEd.out GD.out HMN.out n1 HSH.out HU.out HY.out) ?_; intro w5 b5; have A5 := hid ((hr.out.below (below_drew wr)).below b5.out))
        | (refine step_word (w1 := w5) rfl _ _ rfl y rfl w.heap.size (.slice vo m vc) (valsF N E m) rfl A5.out.ow _ rfl (by simp) (by rw [valsF_len]; omega) (by have := A5.out.be.size; omega) ?_; intro v7 w7 ow7 g7))
      all_goals go_wp2_with fail
      all_goals go_roundw
      all_goals first
        | exact ⟨m + 1, HLT.out, by go_num, hid (A5.out.push HYS.out g7.out ow7.out)⟩
        | (have := HLT.out; simp only [intOf]; omega)
    · have hlt' : ¬ (m : Int) < N.length := by omega
      obtain rfl : m = N.length := by omega
      obtain ⟨vo, vc, rfl, hU⟩ := us_own hr.out.ow (vals_wd HW.out GD.out E (Nat.le_refl _))
      rw [valsF_len] at hU ⊢
      have HU := hid hU
      clear hU
      go_wp2_with fail
      go_ret
      exact (show AllEnd _ _ _ _ _ from ⟨vo, vc, rfl, HU, hid hr.out.be⟩)

end
end Go.Proofs.Ytbekgejbgmdbdaa
