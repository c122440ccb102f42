/-
  The document's words: cuts, bits, signs; what its operators make of two words.
-/
import Derived.Test.YtifecnnkkbpglaaWm
import Derived.Test.YtifecnnkkbpglaaProg
import Derived.WalkKit
import Derived.Lib.SmallJoins
namespace Go.Proofs.Ytifecnnkkbpglaa.Wd
open Go.RowKit
set_option linter.unusedVariables false

theorem ret_int {k : IntKind} {a b : Int} (h : a = b) : Ending.returned (.int k a) = .returned (.int k b) := by rw [h]

theorem ret_bool {a b : Bool} (h : a = b) : Ending.returned (.bool a) = .returned (.bool b) := by rw [h]

def fitsB (w : Int) : Bool := decide (1 ≤ w ∧ w ≤ 64)

theorem fits_yes {a : Int} (h1 : 1 ≤ a) (h2 : a ≤ 64) : fitsB a = true := by simp [fitsB, h1, h2]

theorem fits_no {a : Int} (h : ¬ (1 ≤ a ∧ a ≤ 64)) : fitsB a = false := by simp [fitsB]; omega

theorem rfits_any (a : Int) (w : World) :
    Calls Try.prog 28 #[.int .i64 a] w fun e w' => e = .returned (.bool (fitsB a)) ∧ w' = w := by
  by_cases h1 : 1 ≤ a
  · by_cases h2 : a ≤ 64
    · rw [fits_yes h1 h2]
      go_enter Try.func28, Try.ntmps28
      go_wp2
      go_ret
      exact ⟨rfl, rfl⟩
    · rw [fits_no (by omega)]
      go_enter Try.func28, Try.ntmps28
      go_wp2
      go_ret
      exact ⟨rfl, rfl⟩
  · rw [fits_no (by omega)]
    go_enter Try.func28, Try.ntmps28
    go_wp2
    go_ret
    exact ⟨rfl, rfl⟩

theorem rmask_any (a : Int) (w : World) :
    Calls Try.prog 30 #[.int .i64 a] w fun e w' => e = .returned (.int .u64 (mskF a)) ∧ w' = w := by
  by_cases h : 1 ≤ a ∧ a ≤ 64
  · obtain ⟨n, rfl, hn1, hn2⟩ := width_nat h.1 h.2
    have hf := fits_yes h.1 h.2
    clear h
    go_enter Try.func30, Try.ntmps30
    go_wp2
    go_loop [3, 4] (fun x i => ∃ k : Nat, k ≤ n ∧ i = .int .i64 k ∧ x = .int .u64 (2 ^ k - 1)) (fun _ i => (n - intOf i).toNat)
    case atStart => exact ⟨0, by omega, rfl, rfl⟩
    case round =>
      obtain ⟨k, hk, rfl, rfl⟩ := hrel
      by_cases hlt : k < n
      · go_wp2_with (go_at_call 28; refine (rfits_any _ _).mono ?_; rintro e w' ⟨rfl, rfl⟩)
        go_round
        case rel => exact ⟨k + 1, by omega, by go_num, by rw [mask_step k (by omega)]⟩
        case measure => simp [intOf]; omega
      · go_wp2_with (go_at_call 28; refine (rfits_any _ _).mono ?_; rintro e w' ⟨rfl, rfl⟩)
        go_ret
        exact ⟨ret_int (by rw [msk_yes n hn1 hn2, show k = n by omega]), rfl⟩
  · have hf := fits_no h
    go_enter Try.func30, Try.ntmps30
    go_wp2
    go_loop [3, 4] (fun x i => i = .int .i64 0 ∧ x = .int .u64 0) (fun _ i => 0)
    case atStart => exact ⟨rfl, rfl⟩
    case round =>
      obtain ⟨rfl, rfl⟩ := hrel
      by_cases hlt : 0 < a
      · go_wp2_with (go_at_call 28; refine (rfits_any _ _).mono ?_; rintro e w' ⟨rfl, rfl⟩)
        go_ret
        exact ⟨ret_int (msk_no h).symm, rfl⟩
      · go_wp2_with (go_at_call 28; refine (rfits_any _ _).mono ?_; rintro e w' ⟨rfl, rfl⟩)
        go_ret
        exact ⟨ret_int (msk_no h).symm, rfl⟩

theorem ref_cut_any (a x : Int) (w : World) (x0 : 0 ≤ x) (x1 : x < 18446744073709551616) :
    Calls Try.prog 29 #[.int .i64 a, .int .u64 x] w fun e w' => e = .returned (.int .u64 (cutF a x)) ∧ w' = w := by
  go_enter Try.func29, Try.ntmps29
  go_wp2_with (go_at_call 30; refine (rmask_any _ _).mono ?_; rintro e w' ⟨rfl, rfl⟩)
  go_ret
  exact ⟨ret_int (cut_eq a x x0 x1), rfl⟩

def bitB (x : Int) (k : Nat) : Bool := (x / 2 ^ k).tmod 2 == 1

theorem rbit_any (x : Int) (k : Nat) (w : World) (x0 : 0 ≤ x) (x1 : x < 18446744073709551616) (hk : k < 64) :
    Calls Try.prog 16 #[.int .u64 x, .int .i64 k] w fun e w' => e = .returned (.bool (bitB x k)) ∧ w' = w := by
  go_enter Try.func16, Try.ntmps16
  go_wp2
  go_ret
  exact ⟨ret_bool (by unfold bitB; simp), rfl⟩

theorem one_any (b : Bool) (w : World) :
    Calls Try.prog 31 #[.bool b] w fun e w' => e = .returned (.int .u64 (b01 b)) ∧ w' = w := by
  cases b
  all_goals
    go_enter Try.func31, Try.ntmps31
    go_wp2
    go_ret
    exact ⟨rfl, rfl⟩

theorem bitB_eq (x : Int) (k : Nat) (x0 : 0 ≤ x) : b01 (bitB x k) = x / 2 ^ k % 2 := by
  unfold bitB
  have h0 := Int.ediv_nonneg x0 (Int.le_of_lt (pos2 k))
  rw [Int.tmod_eq_emod_of_nonneg h0]
  have : x / 2 ^ k % 2 = 0 ∨ x / 2 ^ k % 2 = 1 := by omega
  rcases this with h | h <;> rw [h] <;> rfl

theorem move_step (T x : Int) (k : Nat) (b : Bool) (hk : k < 64) (hx : x = T % 2 ^ k) (hb : b01 b = T / 2 ^ k % 2) :
    bits .or .u64 x (IntKind.u64.wrap (b01 b * 2 ^ k)) = T % 2 ^ (k + 1) := by
  have p := pos2 k
  rw [or_bit x k b hk (by rw [hx]; exact Int.emod_nonneg _ (by omega)) (by rw [hx]; exact Int.emod_lt_of_pos _ p), hx, hb, bit_more]


theorem moved_up (n s : Nat) (a : Int) (w : World) (hn1 : 1 ≤ n) (hn2 : n ≤ 64) (hs : s ≤ 64) (a0 : 0 ≤ a) (a1 : a < 18446744073709551616) :
    Calls Try.prog 49 #[.int .i64 n, .int .u64 a, .int .i64 s, .bool false] w fun e w' => e = .returned (.int .u64 (a * 2 ^ s % 2 ^ n)) ∧ w' = w := by
  go_enter Try.func49, Try.ntmps49
  go_wp2
  go_loop [9, 10] (fun x i => ∃ k : Nat, k ≤ n ∧ i = .int .i64 k ∧ x = .int .u64 (a * 2 ^ s % 2 ^ k)) (fun _ i => (n - intOf i).toNat)
  case atStart => exact ⟨0, by omega, rfl, by simp [Int.emod_one]⟩
  case round =>
    obtain ⟨k, hk, rfl, rfl⟩ := hrel
    by_cases hlt : k < n
    · by_cases hf : s ≤ k
      · have e1 : (k : Int) - (s : Int) = ((k - s : Nat) : Int) := by omega
        have hbit := fun (w : World) => rbit_any a (k - s) w a0 a1 (by omega)
        rw [← e1] at hbit
        have HS : Hid (bits .or .u64 (a * 2 ^ s % 2 ^ k) (IntKind.u64.wrap (b01 (bitB a (k - s)) * 2 ^ k)) = a * 2 ^ s % 2 ^ (k + 1)) := move_step _ _ k _ (by omega) rfl (by rw [bitB_eq _ _ a0, up_bit, if_pos hf])
        clear e1
        go_wp2_with (first | (go_at_call 16; refine (hbit _).mono ?_; rintro e w' ⟨rfl, rfl⟩) | (go_at_call 31; refine (one_any _ _).mono ?_; rintro e w' ⟨rfl, rfl⟩))
        go_round
        case rel => exact ⟨k + 1, by omega, by go_num, by rw [← HS.out]⟩
        case measure => simp [intOf]; omega
      · have HS : Hid (bits .or .u64 (a * 2 ^ s % 2 ^ k) (IntKind.u64.wrap (b01 false * 2 ^ k)) = a * 2 ^ s % 2 ^ (k + 1)) := move_step _ _ k _ (by omega) rfl (by rw [up_bit, if_neg hf]; rfl)
        go_wp2_with (first | (go_at_call 31; refine (one_any _ _).mono ?_; rintro e w' ⟨rfl, rfl⟩))
        go_round
        case rel => exact ⟨k + 1, by omega, by go_num, by rw [← HS.out]⟩
        case measure => simp [intOf]; omega
    · go_wp2
      go_ret
      exact ⟨ret_int (by rw [show k = n by omega]), rfl⟩


def lowF (n : Nat) (a : Int) (fill : Bool) : Int := a - b01 fill * 2 ^ n

theorem low_in (n k : Nat) (a : Int) (fill : Bool) (h : k < n) : lowF n a fill / 2 ^ k % 2 = a / 2 ^ k % 2 := by
  unfold lowF
  cases fill
  · simp [b01]
  · have e : b01 true * 2 ^ n = 2 ^ n := by simp [b01]
    rw [e]; exact top_minus a n k h

theorem low_out (n k : Nat) (a : Int) (fill : Bool) (h : n ≤ k) (a0 : 0 ≤ a) (a1 : a < 2 ^ n) : lowF n a fill / 2 ^ k % 2 = b01 fill := by
  unfold lowF
  cases fill
  · simp only [b01]; simpa using top_none a n k h a0 a1
  · have e : b01 true * 2 ^ n = 2 ^ n := by simp [b01]
    rw [e, top_out a n k h a0 a1]; rfl

theorem moved_down (n s : Nat) (a : Int) (fill : Bool) (w : World) (hn1 : 1 ≤ n) (hn2 : n ≤ 64) (hs : s ≤ 64) (a0 : 0 ≤ a) (a1 : a < 2 ^ n) :
    Calls Try.prog 49 #[.int .i64 n, .int .u64 a, .int .i64 (-(s : Int)), .bool fill] w fun e w' => e = .returned (.int .u64 (lowF n a fill / 2 ^ s % 2 ^ n)) ∧ w' = w := by
  have A1 : a < 18446744073709551616 := by have := pow_le64 n hn2; omega
  have HA : Hid (a < 2 ^ n) := a1
  clear a1
  go_enter Try.func49, Try.ntmps49
  go_wp2
  go_loop [9, 10] (fun x i => ∃ k : Nat, k ≤ n ∧ i = .int .i64 k ∧ x = .int .u64 (lowF n a fill / 2 ^ s % 2 ^ k)) (fun _ i => (n - intOf i).toNat)
  case atStart => exact ⟨0, by omega, rfl, by simp [Int.emod_one]⟩
  case round =>
    obtain ⟨k, hk, rfl, rfl⟩ := hrel
    by_cases hlt : k < n
    · by_cases hf : k + s < n
      · have e1 : (k : Int) + (s : Int) = ((k + s : Nat) : Int) := by omega
        have hbit := fun (w : World) => rbit_any a (k + s) w a0 A1 (by omega)
        rw [← e1] at hbit
        have HS : Hid (bits .or .u64 (lowF n a fill / 2 ^ s % 2 ^ k) (IntKind.u64.wrap (b01 (bitB a (k + s)) * 2 ^ k)) = lowF n a fill / 2 ^ s % 2 ^ (k + 1)) := move_step _ _ k _ (by omega) rfl (by rw [bitB_eq _ _ a0, down_bit, low_in n (k + s) a fill hf])
        clear e1
        go_wp2_with (first | (go_at_call 16; refine (hbit _).mono ?_; rintro e w' ⟨rfl, rfl⟩) | (go_at_call 31; refine (one_any _ _).mono ?_; rintro e w' ⟨rfl, rfl⟩))
        go_round
        case rel => exact ⟨k + 1, by omega, by go_num, by rw [← HS.out]⟩
        case measure => simp [intOf]; omega
      · have HS : Hid (bits .or .u64 (lowF n a fill / 2 ^ s % 2 ^ k) (IntKind.u64.wrap (b01 fill * 2 ^ k)) = lowF n a fill / 2 ^ s % 2 ^ (k + 1)) := move_step _ _ k _ (by omega) rfl (by rw [down_bit, low_out n (k + s) a fill (by omega) a0 HA.out])
        go_wp2_with (first | (go_at_call 31; refine (one_any _ _).mono ?_; rintro e w' ⟨rfl, rfl⟩))
        go_round
        case rel => exact ⟨k + 1, by omega, by go_num, by rw [← HS.out]⟩
        case measure => simp [intOf]; omega
    · go_wp2
      go_ret
      exact ⟨ret_int (by rw [show k = n by omega]), rfl⟩

theorem low_false (n : Nat) (a : Int) : lowF n a false = a := by simp [lowF, b01]

theorem low_sign (n : Nat) (a : Int) (h1 : 1 ≤ n) (h2 : n ≤ 64) (a0 : 0 ≤ a) (a1 : a < 2 ^ n) : lowF n a (bitB a (n - 1)) = sgnF n a := by
  unfold bitB
  rw [top_bit n a h1 a0 a1, sgn_yes n a h1 h2, Int.emod_eq_of_lt a0 a1]
  by_cases h : a < 2 ^ (n - 1) <;> simp [lowF, b01, h]

theorem shift_9 (n : Nat) (a b : Int) (w : World) (hn1 : 1 ≤ n) (hn2 : n ≤ 64) (a0 : 0 ≤ a) (a1 : a < 18446744073709551616) (b0 : 0 ≤ b) (b1 : b < 18446744073709551616) :
    Calls Try.prog 33 #[.int .i64 9, .int .i64 n, .int .u64 a, .int .u64 b] w fun e w' => e = .returned (.int .u64 (a * 2 ^ min b.toNat 64 % 2 ^ n)) ∧ w' = w := by
  by_cases hb : b < 64
  · obtain ⟨s, rfl⟩ := Int.eq_ofNat_of_zero_le b0
    have hs : s < 64 := by omega
    have hm : min ((s : Int)).toNat 64 = s := by omega
    rw [hm]
    clear hm b1
    go_enter Try.func33, Try.ntmps33
    go_wp2_with (go_at_call 49; refine (moved_up n s a _ hn1 hn2 (by omega) a0 a1).mono ?_; rintro e w' ⟨rfl, rfl⟩)
    go_ret
    exact ⟨rfl, rfl⟩
  · have hm : min b.toNat 64 = 64 := by omega
    have hc := fun (w : World) => moved_up n 64 a w hn1 hn2 (by omega) a0 a1
    rw [hm]
    clear hm
    go_enter Try.func33, Try.ntmps33
    go_wp2_with (go_at_call 49; refine (hc _).mono ?_; rintro e w' ⟨rfl, rfl⟩)
    go_ret
    exact ⟨rfl, rfl⟩

theorem shift_10 (n : Nat) (a b : Int) (w : World) (hn1 : 1 ≤ n) (hn2 : n ≤ 64) (a0 : 0 ≤ a) (a1 : a < 2 ^ n) (b0 : 0 ≤ b) (b1 : b < 18446744073709551616) :
    Calls Try.prog 33 #[.int .i64 10, .int .i64 n, .int .u64 a, .int .u64 b] w fun e w' => e = .returned (.int .u64 (a / 2 ^ min b.toNat 64 % 2 ^ n)) ∧ w' = w := by
  have hd := fun (s : Nat) (hs : s ≤ 64) (w : World) => moved_down n s a false w hn1 hn2 hs a0 a1
  rw [low_false] at hd
  clear a1
  by_cases hb : b < 64
  · obtain ⟨s, rfl⟩ := Int.eq_ofNat_of_zero_le b0
    have hs : s < 64 := by omega
    have hm : min ((s : Int)).toNat 64 = s := by omega
    rw [hm]
    clear hm b1
    have hc := hd s (by omega)
    clear hd
    go_enter Try.func33, Try.ntmps33
    go_wp2_with (go_at_call 49; refine (hc _).mono ?_; rintro e w' ⟨rfl, rfl⟩)
    go_ret
    exact ⟨rfl, rfl⟩
  · have hm : min b.toNat 64 = 64 := by omega
    have hc := hd 64 (by omega)
    rw [hm]
    clear hm hd
    go_enter Try.func33, Try.ntmps33
    go_wp2_with (go_at_call 49; refine (hc _).mono ?_; rintro e w' ⟨rfl, rfl⟩)
    go_ret
    exact ⟨rfl, rfl⟩

theorem shift_11 (n : Nat) (a b : Int) (w : World) (hn1 : 1 ≤ n) (hn2 : n ≤ 64) (a0 : 0 ≤ a) (a1 : a < 2 ^ n) (b0 : 0 ≤ b) (b1 : b < 18446744073709551616) :
    Calls Try.prog 33 #[.int .i64 11, .int .i64 n, .int .u64 a, .int .u64 b] w fun e w' => e = .returned (.int .u64 (sgnF n a / 2 ^ min b.toNat 64 % 2 ^ n)) ∧ w' = w := by
  have hd := fun (s : Nat) (hs : s ≤ 64) (w : World) => moved_down n s a (bitB a (n - 1)) w hn1 hn2 hs a0 a1
  rw [low_sign n a hn1 hn2 a0 a1] at hd
  have A1 : a < 18446744073709551616 := by have := pow_le64 n hn2; omega
  have e1 : (n : Int) - 1 = ((n - 1 : Nat) : Int) := by omega
  have hbit := fun (w : World) => rbit_any a (n - 1) w a0 A1 (by omega)
  rw [← e1] at hbit
  clear a1 e1
  by_cases hb : b < 64
  · obtain ⟨s, rfl⟩ := Int.eq_ofNat_of_zero_le b0
    have hs : s < 64 := by omega
    have hm : min ((s : Int)).toNat 64 = s := by omega
    rw [hm]
    clear hm b1
    have hc := hd s (by omega)
    clear hd
    go_enter Try.func33, Try.ntmps33
    go_wp2_with (first | (go_at_call 16; refine (hbit _).mono ?_; rintro e w' ⟨rfl, rfl⟩) | (go_at_call 49; refine (hc _).mono ?_; rintro e w' ⟨rfl, rfl⟩))
    go_ret
    exact ⟨rfl, rfl⟩
  · have hm : min b.toNat 64 = 64 := by omega
    have hc := hd 64 (by omega)
    rw [hm]
    clear hm hd
    go_enter Try.func33, Try.ntmps33
    go_wp2_with (first | (go_at_call 16; refine (hbit _).mono ?_; rintro e w' ⟨rfl, rfl⟩) | (go_at_call 49; refine (hc _).mono ?_; rintro e w' ⟨rfl, rfl⟩))
    go_ret
    exact ⟨rfl, rfl⟩

theorem ret_two {a b : Int} (h : a = b) : Ending.returned (.tuple #[.int .u64 a, .int .i64 0]) = .returned (.tuple #[.int .u64 b, .int .i64 0]) := by rw [h]

theorem rbinary_9 (n : Nat) (x y : Int) (w : World) (hn1 : 1 ≤ n) (hn2 : n ≤ 64) (x0 : 0 ≤ x) (x1 : x < 18446744073709551616) (y0 : 0 ≤ y) (y1 : y < 18446744073709551616) :
    Calls Try.prog 11 #[.int .i64 9, .int .i64 n, .int .u64 x, .int .u64 y] w fun e w' => e = .returned (.tuple #[.int .u64 (cutF n (rawF 9 n (cutF n x) (cutF n y))), .int .i64 0]) ∧ w' = w := by
  have hf : fitsB n = true := fits_yes (by omega) (by omega)
  have ca := cut_bd n x
  have cb := cut_bd n y
  have la := cut_lt n x hn1 hn2
  have lb := cut_lt n y hn1 hn2
  have zz : 0 ≤ cutF n x * 2 ^ min (cutF n y).toNat 64 % 2 ^ n ∧ cutF n x * 2 ^ min (cutF n y).toNat 64 % 2 ^ n < 18446744073709551616 := by have p := pos2 n; have q := pow_le64 n hn2; have r0 := Int.emod_nonneg (cutF n x * 2 ^ min (cutF n y).toNat 64) (show (2 : Int) ^ n ≠ 0 by omega); have r1 := Int.emod_lt_of_pos (cutF n x * 2 ^ min (cutF n y).toNat 64) p; exact (⟨r0, by omega⟩ : 0 ≤ cutF n x * 2 ^ min (cutF n y).toNat 64 % 2 ^ n ∧ cutF n x * 2 ^ min (cutF n y).toNat 64 % 2 ^ n < 18446744073709551616)
  have z0 := zz.1
  have z1 := zz.2
  clear zz
  have hv : cutF n (cutF n x * 2 ^ min (cutF n y).toNat 64 % 2 ^ n) = cutF n (rawF 9 n (cutF n x) (cutF n y)) := by rw [cut_mod n _ hn1 hn2]; simp [rawF]
  have HV : Hid (cutF n (cutF n x * 2 ^ min (cutF n y).toNat 64 % 2 ^ n) = cutF n (rawF 9 n (cutF n x) (cutF n y))) := hv
  have hsh := fun (w : World) => shift_9 n (cutF n x) (cutF n y) w hn1 hn2 ca.1 ca.2 cb.1 cb.2
  clear ca cb la lb hv
  go_enter Try.func11, Try.ntmps11
  go_wp2_with (first | (go_at_call 28; refine (rfits_any _ _).mono ?_; rintro e w' ⟨rfl, rfl⟩) | (go_at_call 29; with_reducible (refine (ref_cut_any _ _ _ ‹_› ‹_›).mono ?_); rintro e w' ⟨rfl, rfl⟩) | (go_at_call 33; refine (hsh _).mono ?_; rintro e w' ⟨rfl, rfl⟩))
  go_ret2
  exact ⟨ret_two HV.out, rfl⟩

theorem rbinary_10 (n : Nat) (x y : Int) (w : World) (hn1 : 1 ≤ n) (hn2 : n ≤ 64) (x0 : 0 ≤ x) (x1 : x < 18446744073709551616) (y0 : 0 ≤ y) (y1 : y < 18446744073709551616) :
    Calls Try.prog 11 #[.int .i64 10, .int .i64 n, .int .u64 x, .int .u64 y] w fun e w' => e = .returned (.tuple #[.int .u64 (cutF n (rawF 10 n (cutF n x) (cutF n y))), .int .i64 0]) ∧ w' = w := by
  have hf : fitsB n = true := fits_yes (by omega) (by omega)
  have ca := cut_bd n x
  have cb := cut_bd n y
  have la := cut_lt n x hn1 hn2
  have lb := cut_lt n y hn1 hn2
  have zz : 0 ≤ cutF n x / 2 ^ min (cutF n y).toNat 64 % 2 ^ n ∧ cutF n x / 2 ^ min (cutF n y).toNat 64 % 2 ^ n < 18446744073709551616 := by have p := pos2 n; have q := pow_le64 n hn2; have r0 := Int.emod_nonneg (cutF n x / 2 ^ min (cutF n y).toNat 64) (show (2 : Int) ^ n ≠ 0 by omega); have r1 := Int.emod_lt_of_pos (cutF n x / 2 ^ min (cutF n y).toNat 64) p; exact (⟨r0, by omega⟩ : 0 ≤ cutF n x / 2 ^ min (cutF n y).toNat 64 % 2 ^ n ∧ cutF n x / 2 ^ min (cutF n y).toNat 64 % 2 ^ n < 18446744073709551616)
  have z0 := zz.1
  have z1 := zz.2
  clear zz
  have hv : cutF n (cutF n x / 2 ^ min (cutF n y).toNat 64 % 2 ^ n) = cutF n (rawF 10 n (cutF n x) (cutF n y)) := by rw [cut_mod n _ hn1 hn2]; simp [rawF]
  have HV : Hid (cutF n (cutF n x / 2 ^ min (cutF n y).toNat 64 % 2 ^ n) = cutF n (rawF 10 n (cutF n x) (cutF n y))) := hv
  have hsh := fun (w : World) => shift_10 n (cutF n x) (cutF n y) w hn1 hn2 ca.1 la.2 cb.1 cb.2
  clear ca cb la lb hv
  go_enter Try.func11, Try.ntmps11
  go_wp2_with (first | (go_at_call 28; refine (rfits_any _ _).mono ?_; rintro e w' ⟨rfl, rfl⟩) | (go_at_call 29; with_reducible (refine (ref_cut_any _ _ _ ‹_› ‹_›).mono ?_); rintro e w' ⟨rfl, rfl⟩) | (go_at_call 33; refine (hsh _).mono ?_; rintro e w' ⟨rfl, rfl⟩))
  go_ret2
  exact ⟨ret_two HV.out, rfl⟩

theorem rbinary_11 (n : Nat) (x y : Int) (w : World) (hn1 : 1 ≤ n) (hn2 : n ≤ 64) (x0 : 0 ≤ x) (x1 : x < 18446744073709551616) (y0 : 0 ≤ y) (y1 : y < 18446744073709551616) :
    Calls Try.prog 11 #[.int .i64 11, .int .i64 n, .int .u64 x, .int .u64 y] w fun e w' => e = .returned (.tuple #[.int .u64 (cutF n (rawF 11 n (cutF n x) (cutF n y))), .int .i64 0]) ∧ w' = w := by
  have hf : fitsB n = true := fits_yes (by omega) (by omega)
  have ca := cut_bd n x
  have cb := cut_bd n y
  have la := cut_lt n x hn1 hn2
  have lb := cut_lt n y hn1 hn2
  have zz : 0 ≤ sgnF n (cutF n x) / 2 ^ min (cutF n y).toNat 64 % 2 ^ n ∧ sgnF n (cutF n x) / 2 ^ min (cutF n y).toNat 64 % 2 ^ n < 18446744073709551616 := by have p := pos2 n; have q := pow_le64 n hn2; have r0 := Int.emod_nonneg (sgnF n (cutF n x) / 2 ^ min (cutF n y).toNat 64) (show (2 : Int) ^ n ≠ 0 by omega); have r1 := Int.emod_lt_of_pos (sgnF n (cutF n x) / 2 ^ min (cutF n y).toNat 64) p; exact (⟨r0, by omega⟩ : 0 ≤ sgnF n (cutF n x) / 2 ^ min (cutF n y).toNat 64 % 2 ^ n ∧ sgnF n (cutF n x) / 2 ^ min (cutF n y).toNat 64 % 2 ^ n < 18446744073709551616)
  have z0 := zz.1
  have z1 := zz.2
  clear zz
  have hv : cutF n (sgnF n (cutF n x) / 2 ^ min (cutF n y).toNat 64 % 2 ^ n) = cutF n (rawF 11 n (cutF n x) (cutF n y)) := by rw [cut_mod n _ hn1 hn2]; simp [rawF]
  have HV : Hid (cutF n (sgnF n (cutF n x) / 2 ^ min (cutF n y).toNat 64 % 2 ^ n) = cutF n (rawF 11 n (cutF n x) (cutF n y))) := hv
  have hsh := fun (w : World) => shift_11 n (cutF n x) (cutF n y) w hn1 hn2 ca.1 la.2 cb.1 cb.2
  clear ca cb la lb hv
  go_enter Try.func11, Try.ntmps11
  go_wp2_with (first | (go_at_call 28; refine (rfits_any _ _).mono ?_; rintro e w' ⟨rfl, rfl⟩) | (go_at_call 29; with_reducible (refine (ref_cut_any _ _ _ ‹_› ‹_›).mono ?_); rintro e w' ⟨rfl, rfl⟩) | (go_at_call 33; refine (hsh _).mono ?_; rintro e w' ⟨rfl, rfl⟩))
  go_ret2
  exact ⟨ret_two HV.out, rfl⟩

end Go.Proofs.Ytifecnnkkbpglaa.Wd
