/- What the reference's moves and its Binary and Unary return, for every input of their kinds. -/
import Derived.Test.YtjaaicaejbbhbaaRefs
namespace Go.Proofs.Ytjaaicaejbbhbaa
open Go.RowKit
set_option linter.unusedVariables false

theorem min64 (b : Int) (b0 : 0 ≤ b) : ∃ s : Nat, s = min b.toNat 64 ∧ s ≤ 64 := ⟨min b.toNat 64, rfl, by omega⟩

theorem low_false (n : Nat) (a : Int) : lowF n a false = a := by simp [lowF, b01]
theorem low_sign (n : Nat) (a : Int) (h1 : 1 ≤ n) (h2 : n ≤ 64) (a0 : 0 ≤ a) (a1 : a < 2 ^ n) : lowF n a (bitB a (n - 1)) = sgnF n a := by
  unfold bitB
  rw [top_bit n a h1 a0 a1, sgn_yes n a h1 h2, Int.emod_eq_of_lt a0 a1]
  by_cases h : a < 2 ^ (n - 1) <;> simp [lowF, b01, h]

theorem shift_9 (n : Nat) (a b : Int) (w : World) (hn1 : 1 ≤ n) (hn2 : n ≤ 64) (a0 : 0 ≤ a) (a1 : a < 18446744073709551616) (b0 : 0 ≤ b) (b1 : b < 18446744073709551616) :
    Calls Try.prog 25 #[.int .i64 9, .int .i64 n, .int .u64 a, .int .u64 b] w fun e w' => e = .returned (.int .u64 (a * 2 ^ min b.toNat 64 % 2 ^ n)) ∧ w' = w := by
  by_cases hb : b < 64
  · obtain ⟨s, rfl⟩ := Int.eq_ofNat_of_zero_le b0
    have hs : s < 64 := by omega
    have hm : min ((s : Int)).toNat 64 = s := by omega
    rw [hm]
    clear hm b1
    go_enter Try.func25, Try.ntmps25
    go_wp2_with (go_at_call 30; refine (moved_up n s a _ hn1 hn2 (by omega) a0 a1).mono ?_; rintro e w' ⟨rfl, rfl⟩)
    go_ret
    exact ⟨rfl, rfl⟩
  · have hm : min b.toNat 64 = 64 := by omega
    have hc := fun (w : World) => moved_up n 64 a w hn1 hn2 (by omega) a0 a1
    rw [hm]
    clear hm
    go_enter Try.func25, Try.ntmps25
    go_wp2_with (go_at_call 30; refine (hc _).mono ?_; rintro e w' ⟨rfl, rfl⟩)
    go_ret
    exact ⟨rfl, rfl⟩

theorem shift_10 (n : Nat) (a b : Int) (w : World) (hn1 : 1 ≤ n) (hn2 : n ≤ 64) (a0 : 0 ≤ a) (a1 : a < 2 ^ n) (b0 : 0 ≤ b) (b1 : b < 18446744073709551616) :
    Calls Try.prog 25 #[.int .i64 10, .int .i64 n, .int .u64 a, .int .u64 b] w fun e w' => e = .returned (.int .u64 (a / 2 ^ min b.toNat 64 % 2 ^ n)) ∧ w' = w := by
  have hd := fun (s : Nat) (hs : s ≤ 64) (w : World) => moved_down n s a false w hn1 hn2 hs a0 a1
  rw [low_false] at hd
  clear a1
  by_cases hb : b < 64
  · obtain ⟨s, rfl⟩ := Int.eq_ofNat_of_zero_le b0
    have hs : s < 64 := by omega
    have hm : min ((s : Int)).toNat 64 = s := by omega
    rw [hm]
    clear hm b1
    have hc := hd s (by omega)
    clear hd
    go_enter Try.func25, Try.ntmps25
    go_wp2_with (go_at_call 30; refine (hc _).mono ?_; rintro e w' ⟨rfl, rfl⟩)
    go_ret
    exact ⟨rfl, rfl⟩
  · have hm : min b.toNat 64 = 64 := by omega
    have hc := hd 64 (by omega)
    rw [hm]
    clear hm hd
    go_enter Try.func25, Try.ntmps25
    go_wp2_with (go_at_call 30; refine (hc _).mono ?_; rintro e w' ⟨rfl, rfl⟩)
    go_ret
    exact ⟨rfl, rfl⟩

theorem shift_11 (n : Nat) (a b : Int) (w : World) (hn1 : 1 ≤ n) (hn2 : n ≤ 64) (a0 : 0 ≤ a) (a1 : a < 2 ^ n) (b0 : 0 ≤ b) (b1 : b < 18446744073709551616) :
    Calls Try.prog 25 #[.int .i64 11, .int .i64 n, .int .u64 a, .int .u64 b] w fun e w' => e = .returned (.int .u64 (sgnF n a / 2 ^ min b.toNat 64 % 2 ^ n)) ∧ w' = w := by
  have hd := fun (s : Nat) (hs : s ≤ 64) (w : World) => moved_down n s a (bitB a (n - 1)) w hn1 hn2 hs a0 a1
  rw [low_sign n a hn1 hn2 a0 a1] at hd
  have A1 : a < 18446744073709551616 := by have := pow_le64 n hn2; omega
  have e1 : (n : Int) - 1 = ((n - 1 : Nat) : Int) := by omega
  have hbit := fun (w : World) => rbit_any a (n - 1) w a0 A1 (by omega)
  rw [← e1] at hbit
  clear a1 e1
  by_cases hb : b < 64
  · obtain ⟨s, rfl⟩ := Int.eq_ofNat_of_zero_le b0
    have hs : s < 64 := by omega
    have hm : min ((s : Int)).toNat 64 = s := by omega
    rw [hm]
    clear hm b1
    have hc := hd s (by omega)
    clear hd
    go_enter Try.func25, Try.ntmps25
    go_wp2_with (first | (go_at_call 22; refine (hbit _).mono ?_; rintro e w' ⟨rfl, rfl⟩) | (go_at_call 30; refine (hc _).mono ?_; rintro e w' ⟨rfl, rfl⟩))
    go_ret
    exact ⟨rfl, rfl⟩
  · have hm : min b.toNat 64 = 64 := by omega
    have hc := hd 64 (by omega)
    rw [hm]
    clear hm hd
    go_enter Try.func25, Try.ntmps25
    go_wp2_with (first | (go_at_call 22; refine (hbit _).mono ?_; rintro e w' ⟨rfl, rfl⟩) | (go_at_call 30; refine (hc _).mono ?_; rintro e w' ⟨rfl, rfl⟩))
    go_ret
    exact ⟨rfl, rfl⟩
end Go.Proofs.Ytjaaicaejbbhbaa
