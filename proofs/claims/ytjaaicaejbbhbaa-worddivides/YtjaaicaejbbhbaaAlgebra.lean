/- Plain arithmetic on top of what the operators make: the ring of words, division, moves. No Go text here. -/
import Derived.Test.YtjaaicaejbbhbaaMath
namespace Go.Proofs.Ytjaaicaejbbhbaa
open Go.RowKit

theorem cut_add_l (w x y : Int) : cutF w (cutF w x + y) = cutF w (x + y) := by
  by_cases h : 1 ≤ w ∧ w ≤ 64
  · obtain ⟨n, rfl, h1, h2⟩ := width_nat h.1 h.2
    rw [cut_yes n _ h1 h2, cut_yes n _ h1 h2, cut_yes n _ h1 h2, Int.emod_add_emod]
  · rw [cut_no h, cut_no h]
theorem cut_add_r (w x y : Int) : cutF w (x + cutF w y) = cutF w (x + y) := by
  rw [Int.add_comm, cut_add_l, Int.add_comm]
theorem cut_sub_l (w x y : Int) : cutF w (cutF w x - y) = cutF w (x - y) := by
  rw [Int.sub_eq_add_neg, cut_add_l, ← Int.sub_eq_add_neg]
theorem cut_sub_r (w x y : Int) : cutF w (x - cutF w y) = cutF w (x - y) := by
  by_cases h : 1 ≤ w ∧ w ≤ 64
  · obtain ⟨n, rfl, h1, h2⟩ := width_nat h.1 h.2
    rw [cut_yes n _ h1 h2, cut_yes n _ h1 h2, cut_yes n _ h1 h2, Int.sub_emod, Int.emod_emod, ← Int.sub_emod]
  · rw [cut_no h, cut_no h]
theorem cut_mul_l (w x y : Int) : cutF w (cutF w x * y) = cutF w (x * y) := by
  by_cases h : 1 ≤ w ∧ w ≤ 64
  · obtain ⟨n, rfl, h1, h2⟩ := width_nat h.1 h.2
    rw [cut_yes n _ h1 h2, cut_yes n _ h1 h2, cut_yes n _ h1 h2, Int.mul_emod, Int.emod_emod, ← Int.mul_emod]
  · rw [cut_no h, cut_no h]
theorem cut_mul_r (w x y : Int) : cutF w (x * cutF w y) = cutF w (x * y) := by
  rw [Int.mul_comm, cut_mul_l, Int.mul_comm]

theorem bin_add (w a b : Int) : binF 1 w a b = cutF w (a + b) := by
  have : binF 1 w a b = cutF w (cutF w a + cutF w b) := rfl
  rw [this, cut_add_l, cut_add_r]
theorem bin_sub (w a b : Int) : binF 2 w a b = cutF w (a - b) := by
  have : binF 2 w a b = cutF w (cutF w a - cutF w b) := rfl
  rw [this, cut_sub_l, cut_sub_r]
theorem bin_mul (w a b : Int) : binF 3 w a b = cutF w (a * b) := by
  have : binF 3 w a b = cutF w (cutF w a * cutF w b) := rfl
  rw [this, cut_mul_l, cut_mul_r]
theorem bin_bd (op w a b : Int) : 0 ≤ binF op w a b ∧ binF op w a b < 18446744073709551616 := by
  unfold binF; split
  · exact cut_bd _ _
  · omega

theorem ring_comm (w a b : Int) : binF 1 w a b = binF 1 w b a := by rw [bin_add, bin_add, Int.add_comm]
theorem ring_back (w a b : Int) : binF 2 w (binF 1 w a b) b = cutF w a := by
  rw [bin_sub, bin_add, cut_sub_l]; congr 1; omega
theorem ring_over (w a b c : Int) : binF 3 w (binF 1 w a b) c = binF 1 w (binF 3 w a c) (binF 3 w c b) := by
  rw [bin_mul, bin_add, bin_add, bin_mul, bin_mul, cut_mul_l, cut_add_l, cut_add_r, Int.add_mul, Int.mul_comm c b]
theorem ring_neg (w a : Int) : unF 16 w a = binF 2 w 0 a := by
  rw [bin_sub]; show cutF w (-a) = _; congr 1; omega

/-! ### division -/
theorem div_back (n : Nat) (a b : Int) (h1 : 1 ≤ n) (h2 : n ≤ 64) :
    binF 1 n (binF 3 n (binF 4 n a b) b) (binF 5 n a b) = cutF n a := by
  have la := cut_lt n a h1 h2
  have lb := cut_lt n b h1 h2
  have e4 : binF 4 n a b = cutF n (if cutF n b = 0 then -1 else cutF n a / cutF n b) := rfl
  have e5 : binF 5 n a b = cutF n (if cutF n b = 0 then cutF n a else cutF n a % cutF n b) := rfl
  rw [bin_add, bin_mul, cut_add_l, e4, e5, cut_add_r, ← cut_add_l, ← cut_mul_r, cut_add_l, ← cut_add_l, cut_mul_l, cut_add_l]
  by_cases hB : cutF n b = 0
  · rw [if_pos hB, if_pos hB, hB, Int.mul_zero, Int.zero_add, cut_cut]
  · rw [if_neg hB, if_neg hB]
    have := Int.mul_ediv_add_emod (cutF n a) (cutF n b)
    rw [Int.mul_comm, this, cut_cut]
theorem rem_less (n : Nat) (a b : Int) (h1 : 1 ≤ n) (h2 : n ≤ 64) (hB : ¬ cutF n b = 0) :
    binF 13 n (binF 5 n a b) b = 1 := by
  have la := cut_lt n a h1 h2
  have lb := cut_lt n b h1 h2
  have e5 : binF 5 n a b = cutF n (if cutF n b = 0 then cutF n a else cutF n a % cutF n b) := rfl
  have e13 : ∀ x y, binF 13 n x y = cutF n (b01 (decide (cutF n x < cutF n y))) := fun _ _ => rfl
  rw [e13, e5, cut_cut, if_neg hB]
  have r0 := Int.emod_nonneg (cutF n a) hB
  have r1 := Int.emod_lt_of_pos (cutF n a) (show 0 < cutF n b by omega)
  rw [cut_id n _ h1 h2 r0 (by omega)]
  have : b01 (decide (cutF n a % cutF n b < cutF n b)) = 1 := by simp [b01, r1]
  rw [this]
  have := pow_pred n h1
  have := pos2 (n - 1)
  exact cut_id n 1 h1 h2 (by omega) (by omega)

/-! ### moves -/
theorem move_up_down (n B : Nat) (a b : Int) (h1 : 1 ≤ n) (h2 : n ≤ 64) (hB : cutF n b = (B : Int)) (hlt : B < n) :
    binF 10 n (binF 9 n a b) b = cutF ((n : Int) - (B : Int)) a := by
  have e9 : binF 9 n a b = cutF n (cutF n a * 2 ^ min (cutF n b).toNat 64) := rfl
  have e10 : ∀ x, binF 10 n x b = cutF n (cutF n x / 2 ^ min (cutF n b).toNat 64) := fun _ => rfl
  have hm : min ((B : Int)).toNat 64 = B := by omega
  rw [e10, e9, hB, hm, cut_cut, cut_mul_l]
  have ew : (n : Int) - (B : Int) = ((n - B : Nat) : Int) := by omega
  rw [ew, cut_yes (n - B) a (by omega) (by omega), cut_yes n _ h1 h2, cut_yes n _ h1 h2]
  have es : (2 : Int) ^ n = 2 ^ (n - B) * 2 ^ B := by rw [← Int.pow_add]; congr 1; omega
  have p := pos2 B
  have q := pos2 (n - B)
  have em : a * 2 ^ B % 2 ^ n = a % 2 ^ (n - B) * 2 ^ B := by
    rw [es, Int.mul_comm a, Int.mul_comm (2 ^ (n - B)), Int.mul_emod_mul_of_pos _ _ p, Int.mul_comm]
  rw [em, Int.mul_ediv_cancel _ (by omega)]
  have r0 := Int.emod_nonneg a (show (2 : Int) ^ (n - B) ≠ 0 by omega)
  have r1 := Int.emod_lt_of_pos a q
  have := pow_le (n - B) n (by omega)
  exact Int.emod_eq_of_lt r0 (by omega)
theorem move_up_out (n B : Nat) (a b : Int) (h1 : 1 ≤ n) (h2 : n ≤ 64) (hB : cutF n b = (B : Int)) (hge : n ≤ B) :
    binF 10 n (binF 9 n a b) b = 0 := by
  have e9 : binF 9 n a b = cutF n (cutF n a * 2 ^ min (cutF n b).toNat 64) := rfl
  have e10 : ∀ x, binF 10 n x b = cutF n (cutF n x / 2 ^ min (cutF n b).toNat 64) := fun _ => rfl
  have hm : n ≤ min ((B : Int)).toNat 64 := by omega
  rw [e10, e9, hB, cut_cut]
  have z : cutF n (cutF n a * 2 ^ min ((B : Int)).toNat 64) = 0 := by
    rw [cut_yes n _ h1 h2]
    have es : (2 : Int) ^ min ((B : Int)).toNat 64 = 2 ^ n * 2 ^ (min ((B : Int)).toNat 64 - n) := by rw [← Int.pow_add]; congr 1; omega
    rw [es, ← Int.mul_assoc, Int.mul_comm (cutF n a), Int.mul_assoc, Int.mul_emod_right]
  rw [z, Int.zero_ediv, cut_yes n _ h1 h2, Int.zero_emod]
theorem move_none (n : Nat) (a : Int) (h1 : 1 ≤ n) (h2 : n ≤ 64) : binF 10 n a 0 = cutF n a := by
  have e10 : binF 10 n a 0 = cutF n (cutF n a / 2 ^ min (cutF n 0).toNat 64) := rfl
  have z : cutF n 0 = 0 := by rw [cut_yes n _ h1 h2, Int.zero_emod]
  rw [e10, z]
  simp [cut_cut]
theorem sgn_cut (n : Nat) (x : Int) (h1 : 1 ≤ n) (h2 : n ≤ 64) : sgnF n (cutF n x) = sgnF n x := by
  rw [sgn_yes n _ h1 h2, sgn_yes n _ h1 h2, cut_yes n _ h1 h2, Int.emod_emod]
theorem sgn_range (n : Nat) (x : Int) (h1 : 1 ≤ n) (h2 : n ≤ 64) : -(2 ^ (n - 1)) ≤ sgnF n x ∧ sgnF n x < 2 ^ (n - 1) := by
  have q := pos2 n
  have hh := pow_pred n h1
  have r0 := Int.emod_nonneg x (show (2 : Int) ^ n ≠ 0 by omega)
  have r1 := Int.emod_lt_of_pos x q
  rw [sgn_yes n _ h1 h2]
  split <;> omega
theorem sgn_id (n : Nat) (y : Int) (h1 : 1 ≤ n) (h2 : n ≤ 64) (a : -(2 ^ (n - 1)) ≤ y) (b : y < 2 ^ (n - 1)) : sgnF n y = y := by
  have q := pos2 n
  have hh := pow_pred n h1
  rw [sgn_yes n _ h1 h2]
  by_cases h : 0 ≤ y
  · rw [Int.emod_eq_of_lt h (by omega), if_pos b]
  · have e : y % 2 ^ n = y + 2 ^ n := by
      rw [← Int.add_emod_right, Int.emod_eq_of_lt (by omega) (by omega)]
    rw [e, if_neg (by omega)]; omega
theorem sar_sign (n : Nat) (a b : Int) (h1 : 1 ≤ n) (h2 : n ≤ 64) : decide (sgnF n (binF 11 n a b) < 0) = decide (sgnF n a < 0) := by
  have e11 : binF 11 n a b = cutF n (sgnF n (cutF n a) / 2 ^ min (cutF n b).toNat 64) := rfl
  rw [e11, sgn_cut n _ h1 h2, sgn_cut n a h1 h2]
  have r := sgn_range n a h1 h2
  generalize sgnF n a = S at r ⊢
  have p := pos2 (min (cutF n b).toNat 64)
  generalize (2 : Int) ^ min (cutF n b).toNat 64 = P at p ⊢
  have lo : S < 0 → S ≤ S / P ∧ S / P < 0 := by
    intro hS
    refine ⟨?_, Int.ediv_neg_of_neg_of_pos hS p⟩
    rw [Int.le_ediv_iff_mul_le p]
    have : S * P ≤ S * 1 := Int.mul_le_mul_of_nonpos_left (by omega) (by omega)
    omega
  have hi : 0 ≤ S → 0 ≤ S / P ∧ S / P ≤ S := fun hS => ⟨Int.ediv_nonneg hS (by omega), Int.ediv_le_self P hS⟩
  have hp := pos2 (n - 1)
  have hid : sgnF n (S / P) = S / P := by
    by_cases hS : S < 0
    · exact sgn_id n _ h1 h2 (by have := lo hS; omega) (by have := lo hS; omega)
    · exact sgn_id n _ h1 h2 (by have := hi (by omega); omega) (by have := hi (by omega); omega)
  rw [hid]
  congr 1
  apply propext
  by_cases hS : S < 0
  · have := lo hS; constructor <;> intro <;> omega
  · have := hi (by omega); constructor <;> intro <;> omega
end Go.Proofs.Ytjaaicaejbbhbaa
