/- What the reference's operators return, for every input of their kinds. -/
import Derived.Test.YtjaaicaejbbhbaaCalls
namespace Go.Proofs.Ytjaaicaejbbhbaa
open Go.RowKit
set_option linter.unusedVariables false

theorem one_any (b : Bool) (w : World) :
    Calls Try.prog 24 #[.bool b] w fun e w' => e = .returned (.int .u64 (b01 b)) ∧ w' = w := by
  cases b
  all_goals
    go_enter Try.func24, Try.ntmps24
    go_wp2
    go_ret
    exact ⟨rfl, rfl⟩

theorem bitB_eq (x : Int) (k : Nat) (x0 : 0 ≤ x) : b01 (bitB x k) = x / 2 ^ k % 2 := by
  unfold bitB
  have h0 := Int.ediv_nonneg x0 (Int.le_of_lt (pos2 k))
  rw [Int.tmod_eq_emod_of_nonneg h0]
  have : x / 2 ^ k % 2 = 0 ∨ x / 2 ^ k % 2 = 1 := by omega
  rcases this with h | h <;> rw [h] <;> rfl

theorem move_step (T x : Int) (k : Nat) (b : Bool) (hk : k < 64) (hx : x = T % 2 ^ k) (hb : b01 b = T / 2 ^ k % 2) :
    bits .or .u64 x (IntKind.u64.wrap (b01 b * 2 ^ k)) = T % 2 ^ (k + 1) := by
  have p := pos2 k
  rw [or_bit x k b hk (by rw [hx]; exact Int.emod_nonneg _ (by omega)) (by rw [hx]; exact Int.emod_lt_of_pos _ p), hx, hb, bit_more]

/-- Up. -/
theorem moved_up (n s : Nat) (a : Int) (w : World) (hn1 : 1 ≤ n) (hn2 : n ≤ 64) (hs : s ≤ 64) (a0 : 0 ≤ a) (a1 : a < 18446744073709551616) :
    Calls Try.prog 30 #[.int .i64 n, .int .u64 a, .int .i64 s, .bool false] w fun e w' => e = .returned (.int .u64 (a * 2 ^ s % 2 ^ n)) ∧ w' = w := by
  go_enter Try.func30, Try.ntmps30
  go_wp2
  go_loop [9, 10] (fun x i => ∃ k : Nat, k ≤ n ∧ i = .int .i64 k ∧ x = .int .u64 (a * 2 ^ s % 2 ^ k)) (fun _ i => (n - intOf i).toNat)
  case atStart => exact ⟨0, by omega, rfl, by simp [Int.emod_one]⟩
  case round =>
    obtain ⟨k, hk, rfl, rfl⟩ := hrel
    by_cases hlt : k < n
    · by_cases hf : s ≤ k
      · have e1 : (k : Int) - (s : Int) = ((k - s : Nat) : Int) := by omega
        have hbit := fun (w : World) => rbit_any a (k - s) w a0 a1 (by omega)
        rw [← e1] at hbit
        have HS : Hid (bits .or .u64 (a * 2 ^ s % 2 ^ k) (IntKind.u64.wrap (b01 (bitB a (k - s)) * 2 ^ k)) = a * 2 ^ s % 2 ^ (k + 1)) := move_step _ _ k _ (by omega) rfl (by rw [bitB_eq _ _ a0, up_bit, if_pos hf])
        clear e1
        go_wp2_with (first | (go_at_call 22; refine (hbit _).mono ?_; rintro e w' ⟨rfl, rfl⟩) | (go_at_call 24; refine (one_any _ _).mono ?_; rintro e w' ⟨rfl, rfl⟩))
        go_round
        case rel => exact ⟨k + 1, by omega, by go_num, by rw [← HS.out]⟩
        case measure => simp [intOf]; omega
      · have HS : Hid (bits .or .u64 (a * 2 ^ s % 2 ^ k) (IntKind.u64.wrap (b01 false * 2 ^ k)) = a * 2 ^ s % 2 ^ (k + 1)) := move_step _ _ k _ (by omega) rfl (by rw [up_bit, if_neg hf]; rfl)
        go_wp2_with (first | (go_at_call 24; refine (one_any _ _).mono ?_; rintro e w' ⟨rfl, rfl⟩))
        go_round
        case rel => exact ⟨k + 1, by omega, by go_num, by rw [← HS.out]⟩
        case measure => simp [intOf]; omega
    · go_wp2
      go_ret
      exact ⟨ret_int (by rw [show k = n by omega]), rfl⟩

/-- Down, filled. -/
def lowF (n : Nat) (a : Int) (fill : Bool) : Int := a - b01 fill * 2 ^ n
theorem low_in (n k : Nat) (a : Int) (fill : Bool) (h : k < n) : lowF n a fill / 2 ^ k % 2 = a / 2 ^ k % 2 := by
  unfold lowF
  cases fill
  · simp [b01]
  · have e : b01 true * 2 ^ n = 2 ^ n := by simp [b01]
    rw [e]; exact top_minus a n k h
theorem low_out (n k : Nat) (a : Int) (fill : Bool) (h : n ≤ k) (a0 : 0 ≤ a) (a1 : a < 2 ^ n) : lowF n a fill / 2 ^ k % 2 = b01 fill := by
  unfold lowF
  cases fill
  · simp only [b01]; simpa using top_none a n k h a0 a1
  · have e : b01 true * 2 ^ n = 2 ^ n := by simp [b01]
    rw [e, top_out a n k h a0 a1]; rfl

theorem moved_down (n s : Nat) (a : Int) (fill : Bool) (w : World) (hn1 : 1 ≤ n) (hn2 : n ≤ 64) (hs : s ≤ 64) (a0 : 0 ≤ a) (a1 : a < 2 ^ n) :
    Calls Try.prog 30 #[.int .i64 n, .int .u64 a, .int .i64 (-(s : Int)), .bool fill] w fun e w' => e = .returned (.int .u64 (lowF n a fill / 2 ^ s % 2 ^ n)) ∧ w' = w := by
  have A1 : a < 18446744073709551616 := by have := pow_le64 n hn2; omega
  have HA : Hid (a < 2 ^ n) := a1
  clear a1
  go_enter Try.func30, Try.ntmps30
  go_wp2
  go_loop [9, 10] (fun x i => ∃ k : Nat, k ≤ n ∧ i = .int .i64 k ∧ x = .int .u64 (lowF n a fill / 2 ^ s % 2 ^ k)) (fun _ i => (n - intOf i).toNat)
  case atStart => exact ⟨0, by omega, rfl, by simp [Int.emod_one]⟩
  case round =>
    obtain ⟨k, hk, rfl, rfl⟩ := hrel
    by_cases hlt : k < n
    · by_cases hf : k + s < n
      · have e1 : (k : Int) + (s : Int) = ((k + s : Nat) : Int) := by omega
        have hbit := fun (w : World) => rbit_any a (k + s) w a0 A1 (by omega)
        rw [← e1] at hbit
        have HS : Hid (bits .or .u64 (lowF n a fill / 2 ^ s % 2 ^ k) (IntKind.u64.wrap (b01 (bitB a (k + s)) * 2 ^ k)) = lowF n a fill / 2 ^ s % 2 ^ (k + 1)) := move_step _ _ k _ (by omega) rfl (by rw [bitB_eq _ _ a0, down_bit, low_in n (k + s) a fill hf])
        clear e1
        go_wp2_with (first | (go_at_call 22; refine (hbit _).mono ?_; rintro e w' ⟨rfl, rfl⟩) | (go_at_call 24; refine (one_any _ _).mono ?_; rintro e w' ⟨rfl, rfl⟩))
        go_round
        case rel => exact ⟨k + 1, by omega, by go_num, by rw [← HS.out]⟩
        case measure => simp [intOf]; omega
      · have HS : Hid (bits .or .u64 (lowF n a fill / 2 ^ s % 2 ^ k) (IntKind.u64.wrap (b01 fill * 2 ^ k)) = lowF n a fill / 2 ^ s % 2 ^ (k + 1)) := move_step _ _ k _ (by omega) rfl (by rw [down_bit, low_out n (k + s) a fill (by omega) a0 HA.out])
        go_wp2_with (first | (go_at_call 24; refine (one_any _ _).mono ?_; rintro e w' ⟨rfl, rfl⟩))
        go_round
        case rel => exact ⟨k + 1, by omega, by go_num, by rw [← HS.out]⟩
        case measure => simp [intOf]; omega
    · go_wp2
      go_ret
      exact ⟨ret_int (by rw [show k = n by omega]), rfl⟩
end Go.Proofs.Ytjaaicaejbbhbaa
