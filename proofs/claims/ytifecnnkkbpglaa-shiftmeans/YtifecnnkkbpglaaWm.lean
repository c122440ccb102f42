/- Plain arithmetic of words of 1 to 64 bits: no Go text here. What a mask, a cut, a signed reading and each operator are as integers, and the equations that join two ways to reckon them. -/
import Derived.WalkKit
namespace Go.Proofs.Ytifecnnkkbpglaa.Wd
open Go.RowKit

def mskF (w : Int) : Int := if 1 ≤ w ∧ w ≤ 64 then 2 ^ w.toNat - 1 else 0
def cutF (w x : Int) : Int := if 1 ≤ w ∧ w ≤ 64 then x % 2 ^ w.toNat else 0
def sgnF (w x : Int) : Int :=
  if 1 ≤ w ∧ w ≤ 64 then (if x % 2 ^ w.toNat < 2 ^ (w.toNat - 1) then x % 2 ^ w.toNat else x % 2 ^ w.toNat - 2 ^ w.toNat) else 0

/-! ### powers -/
theorem pos2 (n : Nat) : (0 : Int) < 2 ^ n := Int.pow_pos (by decide)
theorem pow_cast (n : Nat) : ((2 ^ n : Nat) : Int) = (2 : Int) ^ n := by simp
theorem pow_top : (2 : Int) ^ 64 = 18446744073709551616 := by decide
theorem pow_split (n : Nat) (h : n ≤ 64) : (2 : Int) ^ n * 2 ^ (64 - n) = 18446744073709551616 := by
  rw [← Int.pow_add, show n + (64 - n) = 64 by omega]; rfl
theorem pow_le (n m : Nat) (h : n ≤ m) : (2 : Int) ^ n ≤ 2 ^ m := by
  rw [← pow_cast, ← pow_cast]; exact_mod_cast Nat.pow_le_pow_right (by decide) h
theorem pow_le64 (n : Nat) (h : n ≤ 64) : (2 : Int) ^ n ≤ 18446744073709551616 := by
  have := pow_le n 64 h; rwa [pow_top] at this
theorem pow_succ' (n : Nat) : (2 : Int) ^ (n + 1) = 2 * 2 ^ n := by rw [Int.pow_succ]; omega
theorem pow_pred (n : Nat) (h : 1 ≤ n) : (2 : Int) ^ n = 2 * 2 ^ (n - 1) := by
  have := pow_succ' (n - 1); rwa [show n - 1 + 1 = n by omega] at this

theorem width_nat {w : Int} (h1 : 1 ≤ w) (h2 : w ≤ 64) : ∃ n : Nat, w = (n : Int) ∧ 1 ≤ n ∧ n ≤ 64 :=
  ⟨w.toNat, by omega, by omega, by omega⟩

/-! ### the mask -/
theorem msk_yes (n : Nat) (h1 : 1 ≤ n) (h2 : n ≤ 64) : mskF (n : Int) = 2 ^ n - 1 := by
  unfold mskF; rw [if_pos ⟨by omega, by omega⟩]; simp
theorem msk_no {w : Int} (h : ¬ (1 ≤ w ∧ w ≤ 64)) : mskF w = 0 := by unfold mskF; rw [if_neg h]
theorem cut_yes (n : Nat) (x : Int) (h1 : 1 ≤ n) (h2 : n ≤ 64) : cutF (n : Int) x = x % 2 ^ n := by
  unfold cutF; rw [if_pos ⟨by omega, by omega⟩]; simp
theorem cut_no {w x : Int} (h : ¬ (1 ≤ w ∧ w ≤ 64)) : cutF w x = 0 := by unfold cutF; rw [if_neg h]
theorem sgn_no {w x : Int} (h : ¬ (1 ≤ w ∧ w ≤ 64)) : sgnF w x = 0 := by unfold sgnF; rw [if_neg h]
theorem sgn_yes (n : Nat) (x : Int) (h1 : 1 ≤ n) (h2 : n ≤ 64) :
    sgnF (n : Int) x = if x % 2 ^ n < 2 ^ (n - 1) then x % 2 ^ n else x % 2 ^ n - 2 ^ n := by
  unfold sgnF; rw [if_pos ⟨by omega, by omega⟩]; simp

theorem mask_eq (w : Int) (h1 : 1 ≤ w) (h2 : w ≤ 64) : 18446744073709551615 / (2 : Int) ^ (64 - w).toNat = mskF w := by
  obtain ⟨n, rfl, hn1, hn2⟩ := width_nat h1 h2
  rw [msk_yes n hn1 hn2, show (64 - (n : Int)).toNat = 64 - n by omega]
  have h := pow_split n hn2
  have p := pos2 (64 - n)
  have q := pos2 n
  have e : (18446744073709551615 : Int) = (2 ^ (64 - n) - 1) + (2 ^ n - 1) * 2 ^ (64 - n) := by
    rw [Int.sub_mul, h]; omega
  rw [e, Int.add_mul_ediv_right _ _ (by omega), Int.ediv_eq_zero_of_lt (by omega) (by omega)]
  omega

theorem mask_step (k : Nat) (h : k < 64) : IntKind.u64.wrap (IntKind.u64.wrap (((2 : Int) ^ k - 1) * 2) + 1) = 2 ^ (k + 1) - 1 := by
  have h1 := pos2 k
  have h2 := pow_le (k + 1) 64 (by omega)
  have h3 := pow_succ' k
  rw [pow_top] at h2
  rw [IntKind.wrap_u64, IntKind.wrap_u64]
  omega

theorem msk_bd (w : Int) : 0 ≤ mskF w ∧ mskF w < 18446744073709551616 := by
  by_cases h : 1 ≤ w ∧ w ≤ 64
  · obtain ⟨n, rfl, hn1, hn2⟩ := width_nat h.1 h.2
    rw [msk_yes n hn1 hn2]
    have := pos2 n; have := pow_le64 n hn2; omega
  · rw [msk_no h]; omega

/-! ### a cut -/
theorem cut_eq (w x : Int) (x0 : 0 ≤ x) (x1 : x < 18446744073709551616) : bits .and .u64 x (mskF w) = cutF w x := by
  have hb := msk_bd w
  rw [u64_and x (mskF w) x0 x1 hb.1 hb.2]
  by_cases h : 1 ≤ w ∧ w ≤ 64
  · obtain ⟨n, rfl, hn1, hn2⟩ := width_nat h.1 h.2
    rw [msk_yes n hn1 hn2, cut_yes n x hn1 hn2]
    have e : ((2 : Int) ^ n - 1).toNat = 2 ^ n - 1 := by rw [← pow_cast]; omega
    obtain ⟨X, rfl⟩ := Int.eq_ofNat_of_zero_le x0
    rw [e, Int.toNat_natCast, Nat.and_two_pow_sub_one_eq_mod]
    simp
  · rw [msk_no h, cut_no h]; simp

theorem cut_bd (w x : Int) : 0 ≤ cutF w x ∧ cutF w x < 18446744073709551616 := by
  by_cases h : 1 ≤ w ∧ w ≤ 64
  · obtain ⟨n, rfl, hn1, hn2⟩ := width_nat h.1 h.2
    rw [cut_yes n x hn1 hn2]
    have p := pos2 n; have := pow_le64 n hn2
    have := Int.emod_nonneg x (show (2 : Int) ^ n ≠ 0 by omega)
    have := Int.emod_lt_of_pos x p
    omega
  · rw [cut_no h]; omega

theorem cut_lt (n : Nat) (x : Int) (h1 : 1 ≤ n) (h2 : n ≤ 64) : 0 ≤ cutF n x ∧ cutF n x < 2 ^ n := by
  rw [cut_yes n x h1 h2]
  have p := pos2 n
  exact ⟨Int.emod_nonneg x (by omega), Int.emod_lt_of_pos x p⟩

/-- A wrap to 64 bits ahead of a cut is nothing. -/
theorem cut_wrap (w x : Int) : cutF w (IntKind.u64.wrap x) = cutF w x := by
  by_cases h : 1 ≤ w ∧ w ≤ 64
  · obtain ⟨n, rfl, hn1, hn2⟩ := width_nat h.1 h.2
    rw [cut_yes n _ hn1 hn2, cut_yes n _ hn1 hn2, IntKind.wrap_u64, ← pow_split n hn2]
    exact Int.emod_emod_of_dvd x (Int.dvd_mul_right _ _)
  · rw [cut_no h, cut_no h]

theorem cut_cut (w x : Int) : cutF w (cutF w x) = cutF w x := by
  by_cases h : 1 ≤ w ∧ w ≤ 64
  · obtain ⟨n, rfl, hn1, hn2⟩ := width_nat h.1 h.2
    rw [cut_yes n _ hn1 hn2, cut_yes n _ hn1 hn2, Int.emod_emod]
  · rw [cut_no h, cut_no h]

theorem cut_id (n : Nat) (x : Int) (h1 : 1 ≤ n) (h2 : n ≤ 64) (a : 0 ≤ x) (b : x < 2 ^ n) : cutF n x = x := by
  rw [cut_yes n x h1 h2, Int.emod_eq_of_lt a b]

theorem u64_bd (x : Int) : 0 ≤ IntKind.u64.wrap x ∧ IntKind.u64.wrap x < 18446744073709551616 := by
  rw [IntKind.wrap_u64]; omega
theorem wrap_id (x : Int) (a : 0 ≤ x) (b : x < 18446744073709551616) : IntKind.u64.wrap x = x := by
  rw [IntKind.wrap_u64]; omega

/-! ### with a sign -/
theorem wrap64_small (y : Int) (h1 : 0 ≤ y) (h2 : y < 9223372036854775808) : wrap64 y = y := by unfold wrap64; omega
theorem wrap64_great (y : Int) (h1 : 9223372036854775808 ≤ y) (h2 : y < 18446744073709551616) : wrap64 y = y - 18446744073709551616 := by unfold wrap64; omega

theorem signed_eq (w x : Int) (h1 : 1 ≤ w) (h2 : w ≤ 64) :
    wrap64 (IntKind.u64.wrap (x * 2 ^ (64 - w).toNat)) / 2 ^ (64 - w).toNat = sgnF w x := by
  obtain ⟨n, rfl, hn1, hn2⟩ := width_nat h1 h2
  rw [show (64 - (n : Int)).toNat = 64 - n by omega, IntKind.wrap_u64, sgn_yes n x hn1 hn2]
  have hs := pow_split n hn2
  have hh := pow_pred n hn1
  have p := pos2 (64 - n)
  have q := pos2 n
  have e : x * 2 ^ (64 - n) % 18446744073709551616 = (x % 2 ^ n) * 2 ^ (64 - n) := by
    rw [← hs, Int.mul_comm x, Int.mul_comm (2 ^ n), Int.mul_emod_mul_of_pos _ _ p, Int.mul_comm]
  rw [e]
  have r0 := Int.emod_nonneg x (show (2 : Int) ^ n ≠ 0 by omega)
  have r1 := Int.emod_lt_of_pos x q
  generalize x % 2 ^ n = r at r0 r1 ⊢
  have hhalf : (2 : Int) ^ (n - 1) * 2 ^ (64 - n) = 9223372036854775808 := by
    rw [hh, Int.mul_assoc] at hs; omega
  by_cases hr : r < 2 ^ (n - 1)
  · rw [if_pos hr]
    have m0 : 0 ≤ r * 2 ^ (64 - n) := Int.mul_nonneg r0 (by omega)
    have m1 : r * 2 ^ (64 - n) < 2 ^ (n - 1) * 2 ^ (64 - n) := Int.mul_lt_mul_of_pos_right hr p
    rw [wrap64_small _ m0 (by omega)]
    exact Int.mul_ediv_cancel _ (by omega)
  · rw [if_neg hr]
    have m0 : 2 ^ (n - 1) * 2 ^ (64 - n) ≤ r * 2 ^ (64 - n) := Int.mul_le_mul_of_nonneg_right (by omega) (by omega)
    have m1 : r * 2 ^ (64 - n) < 2 ^ n * 2 ^ (64 - n) := Int.mul_lt_mul_of_pos_right r1 p
    rw [wrap64_great _ (by omega) (by omega), ← hs, ← Int.sub_mul]
    exact Int.mul_ediv_cancel _ (by omega)

theorem xor_top (n : Nat) (h1 : 1 ≤ n) (h2 : n ≤ 64) : bits .xor .u64 18446744073709551615 (2 ^ n - 1) = 18446744073709551616 - 2 ^ n := by
  have := pos2 n; have := pow_le64 n h2
  rw [u64_xor _ _ (by omega) (by omega) (by omega) (by omega)]
  have e : ((2 : Int) ^ n - 1).toNat = 2 ^ n - 1 := by rw [← pow_cast]; omega
  rw [e]
  have key : (18446744073709551615 : Nat) ^^^ (2 ^ n - 1) = 18446744073709551616 - 2 ^ n := by
    have hn : n < 65 := by omega
    clear e
    have all : ∀ m : Fin 65, (18446744073709551615 : Nat) ^^^ (2 ^ m.val - 1) = 18446744073709551616 - 2 ^ m.val := by decide
    exact all ⟨n, hn⟩
  show (((18446744073709551615 : Nat) ^^^ (2 ^ n - 1) : Nat) : Int) = _
  rw [key]
  have hle : 2 ^ n ≤ 18446744073709551616 := by
    have := Nat.pow_le_pow_right (n := 2) (by decide) h2
    simpa using this
  rw [Int.ofNat_sub hle, pow_cast]; rfl

theorem max_u64 : IntKind.u64.max = 18446744073709551615 := by decide

theorem or_top (n : Nat) (r : Int) (h1 : 1 ≤ n) (h2 : n ≤ 64) (r0 : 0 ≤ r) (r1 : r < 2 ^ n) :
    bits .or .u64 r (18446744073709551616 - 2 ^ n) = r + (18446744073709551616 - 2 ^ n) := by
  have := pos2 n; have hle := pow_le64 n h2
  rw [u64_or _ _ (by omega) (by omega) (by omega) (by omega)]
  obtain ⟨R, rfl⟩ := Int.eq_ofNat_of_zero_le r0
  have e : (18446744073709551616 - (2 : Int) ^ n).toNat = 18446744073709551616 - 2 ^ n := by rw [← pow_cast]; omega
  have hR : R < 2 ^ n := by rw [← pow_cast] at r1; exact_mod_cast r1
  have hp : 2 ^ n ≤ 18446744073709551616 := by
    have := Nat.pow_le_pow_right (n := 2) (by decide) h2
    simpa using this
  have hdvd : (18446744073709551616 - 2 ^ n) % 2 ^ n = 0 := by
    have : (18446744073709551616 : Nat) = 2 ^ n * 2 ^ (64 - n) := by rw [← Nat.pow_add, show n + (64 - n) = 64 by omega]
    rw [this, ← Nat.mul_sub_one, Nat.mul_mod_right]
  rw [e, Int.toNat_natCast, Nat.or_comm, nat_join n _ _ hdvd hR]
  rw [Int.natCast_add, Int.ofNat_sub hp, pow_cast]
  have : ((18446744073709551616 : Nat) : Int) = 18446744073709551616 := rfl
  omega

theorem rsigned_great (n : Nat) (x : Int) (h1 : 1 ≤ n) (h2 : n ≤ 64) (hg : ¬ x % 2 ^ n < 2 ^ (n - 1)) :
    wrap64 (bits .or .u64 (cutF n x) (bits .xor .u64 IntKind.u64.max (mskF n))) = sgnF n x := by
  have q := pos2 n
  have hle := pow_le64 n h2
  have hh := pow_pred n h1
  have r1 := Int.emod_lt_of_pos x q
  have r0 := Int.emod_nonneg x (show (2 : Int) ^ n ≠ 0 by omega)
  rw [max_u64, msk_yes n h1 h2, xor_top n h1 h2, cut_yes n x h1 h2, or_top n _ h1 h2 r0 r1, sgn_yes n x h1 h2, if_neg hg]
  rw [wrap64_great _ (by omega) (by omega)]
  omega

theorem rsigned_small (n : Nat) (x : Int) (h1 : 1 ≤ n) (h2 : n ≤ 64) (hg : x % 2 ^ n < 2 ^ (n - 1)) :
    wrap64 (cutF n x) = sgnF n x := by
  have q := pos2 n
  have hle := pow_le64 n h2
  have hh := pow_pred n h1
  have r0 := Int.emod_nonneg x (show (2 : Int) ^ n ≠ 0 by omega)
  rw [cut_yes n x h1 h2, sgn_yes n x h1 h2, if_pos hg, wrap64_small _ r0 (by omega)]

/-- The highest bit of a word says whether it counts below 0. -/
theorem top_bit (n : Nat) (r : Int) (h1 : 1 ≤ n) (r0 : 0 ≤ r) (r1 : r < 2 ^ n) :
    ((r / 2 ^ (n - 1)).tmod 2 == 1) = decide (¬ r < 2 ^ (n - 1)) := by
  have p := pos2 (n - 1)
  have hh := pow_pred n h1
  by_cases h : r < 2 ^ (n - 1)
  · rw [Int.ediv_eq_zero_of_lt r0 h]; simp [h]
  · have : r / 2 ^ (n - 1) = 1 := by
      have e : r = (r - 2 ^ (n - 1)) + 1 * 2 ^ (n - 1) := by omega
      rw [e, Int.add_mul_ediv_right _ _ (by omega), Int.ediv_eq_zero_of_lt (by omega) (by omega)]; rfl
    rw [this]; simp [h]

/-! ### the operators -/
def b01 (b : Bool) : Int := if b then 1 else 0
/-- What an operator makes of two words that are cut already, as an integer that is still to be cut. -/
def rawF (op w a b : Int) : Int :=
  if op = 1 then a + b else if op = 2 then a - b else if op = 3 then a * b
  else if op = 4 then (if b = 0 then -1 else a / b) else if op = 5 then (if b = 0 then a else a % b)
  else if op = 6 then bits .and .u64 a b else if op = 7 then bits .or .u64 a b else if op = 8 then bits .xor .u64 a b
  else if op = 9 then a * 2 ^ min b.toNat 64 else if op = 10 then a / 2 ^ min b.toNat 64
  else if op = 11 then sgnF w a / 2 ^ min b.toNat 64
  else if op = 12 then b01 (a == b) else if op = 13 then b01 (decide (a < b)) else b01 (decide (sgnF w a < sgnF w b))
def binF (op w a b : Int) : Int := if 1 ≤ op ∧ op ≤ 14 then cutF w (rawF op w (cutF w a) (cutF w b)) else 0
def unF (op w a : Int) : Int := if op = 15 then cutF w (-1 - a) else if op = 16 then cutF w (-a) else 0
def binE (op w : Int) : Int := if 1 ≤ op ∧ op ≤ 14 then (if 1 ≤ w ∧ w ≤ 64 then 0 else 2) else 3
def unE (op w : Int) : Int := if op = 15 ∨ op = 16 then (if 1 ≤ w ∧ w ≤ 64 then 0 else 2) else 3

theorem flip_top (n : Nat) (r : Int) (h1 : 1 ≤ n) (h2 : n ≤ 64) (r0 : 0 ≤ r) (r1 : r < 2 ^ n) :
    bits .xor .u64 r (2 ^ (n - 1)) = sgnF n r + 2 ^ (n - 1) := by
  have p := pos2 (n - 1)
  have hh := pow_pred n h1
  have hle := pow_le64 n h2
  rw [u64_xor _ _ (by omega) (by omega) (by omega) (by omega), sgn_yes n r h1 h2, Int.emod_eq_of_lt r0 r1]
  obtain ⟨R, rfl⟩ := Int.eq_ofNat_of_zero_le r0
  have hR : R < 2 ^ n := by rw [← pow_cast] at r1; exact_mod_cast r1
  rw [toNat_two_pow, Int.toNat_natCast]
  have hN : 2 ^ n = 2 * 2 ^ (n - 1) := by
    have := Nat.pow_succ (n := 2) (m := n - 1); rw [Nat.succ_eq_add_one, show n - 1 + 1 = n by omega] at this; omega
  by_cases h : (R : Int) < 2 ^ (n - 1)
  · rw [if_pos h]
    have hlt : R < 2 ^ (n - 1) := by rw [← pow_cast] at h; exact_mod_cast h
    have : R ^^^ 2 ^ (n - 1) = R + 2 ^ (n - 1) := by
      have key := nat_join (n - 1) (2 ^ (n - 1)) R (Nat.mod_self _) hlt
      rw [Nat.add_comm, ← key]
      apply Nat.eq_of_testBit_eq
      intro i
      rw [Nat.testBit_xor, Nat.testBit_or, Nat.testBit_two_pow]
      by_cases hi : n - 1 = i
      · subst hi
        rw [Nat.testBit_lt_two_pow hlt]; simp
      · simp [hi]
    rw [this, Int.natCast_add, pow_cast]
  · rw [if_neg h]
    have hge : 2 ^ (n - 1) ≤ R := by rw [← pow_cast] at h; exact_mod_cast (Int.not_lt.mp h)
    have : R ^^^ 2 ^ (n - 1) = R - 2 ^ (n - 1) := by
      have hlt : R - 2 ^ (n - 1) < 2 ^ (n - 1) := by omega
      have key := nat_join (n - 1) (2 ^ (n - 1)) (R - 2 ^ (n - 1)) (Nat.mod_self _) hlt
      have e : R = 2 ^ (n - 1) ||| (R - 2 ^ (n - 1)) := by rw [key]; omega
      apply Nat.eq_of_testBit_eq
      intro i
      conv => lhs; rw [e]
      rw [Nat.testBit_xor, Nat.testBit_or, Nat.testBit_two_pow]
      by_cases hi : n - 1 = i
      · subst hi
        rw [Nat.testBit_lt_two_pow hlt]; simp
      · simp [hi]
    rw [this, Int.ofNat_sub hge, pow_cast]
    omega

/-! ### bit by bit -/
theorem bit_more (T : Int) (k : Nat) : T % 2 ^ (k + 1) = T % 2 ^ k + (T / 2 ^ k % 2) * 2 ^ k := by
  have p := pos2 k
  have h1 := Int.mul_ediv_add_emod T (2 ^ k)
  have h2 := Int.mul_ediv_add_emod (T / 2 ^ k) 2
  have e : T = (T % 2 ^ k + (T / 2 ^ k % 2) * 2 ^ k) + 2 ^ (k + 1) * (T / 2 ^ k / 2) := by
    rw [pow_succ']
    generalize T / 2 ^ k = q at *
    generalize q / 2 = d at *
    generalize q % 2 = m at *
    have : 2 * 2 ^ k * d = 2 ^ k * (2 * d) := by rw [Int.mul_comm 2, Int.mul_assoc]
    rw [this, Int.mul_comm m, Int.add_assoc, ← Int.mul_add, show m + 2 * d = q by omega]
    omega
  have r0 := Int.emod_nonneg T (show (2 : Int) ^ k ≠ 0 by omega)
  have r1 := Int.emod_lt_of_pos T p
  have m : T / 2 ^ k % 2 = 0 ∨ T / 2 ^ k % 2 = 1 := by omega
  conv => lhs; rw [e]
  rw [Int.add_mul_emod_self_left, pow_succ']
  apply Int.emod_eq_of_lt
  · rcases m with m | m <;> rw [m] <;> omega
  · rcases m with m | m <;> rw [m] <;> omega

theorem up_bit (a : Int) (s k : Nat) : a * 2 ^ s / 2 ^ k % 2 = if s ≤ k then a / 2 ^ (k - s) % 2 else 0 := by
  by_cases h : s ≤ k
  · rw [if_pos h]
    have e : (2 : Int) ^ k = 2 ^ (k - s) * 2 ^ s := by rw [← Int.pow_add]; congr 1; omega
    rw [e, Int.mul_ediv_mul_of_pos_left _ _ (pos2 s)]
  · rw [if_neg h]
    have e : (2 : Int) ^ s = 2 ^ k * (2 * 2 ^ (s - k - 1)) := by
      rw [← pow_succ', ← Int.pow_add]; congr 1; omega
    rw [e, ← Int.mul_assoc, Int.mul_comm a, Int.mul_assoc, Int.mul_ediv_cancel_left _ (by have := pos2 k; omega), ← Int.mul_assoc, Int.mul_comm a, Int.mul_assoc, Int.mul_emod_right]

theorem down_bit (S : Int) (b k : Nat) : S / 2 ^ b / 2 ^ k % 2 = S / 2 ^ (k + b) % 2 := by
  rw [Int.ediv_ediv_of_nonneg (by have := pos2 b; omega), ← Int.pow_add, Nat.add_comm]

theorem top_minus (a : Int) (n k : Nat) (h : k < n) : (a - 2 ^ n) / 2 ^ k % 2 = a / 2 ^ k % 2 := by
  have e : a - 2 ^ n = a + (-(2 * 2 ^ (n - k - 1))) * 2 ^ k := by
    have : (2 : Int) ^ n = 2 * 2 ^ (n - k - 1) * 2 ^ k := by
      rw [← pow_succ', ← Int.pow_add]; congr 1; omega
    rw [this, Int.neg_mul]; omega
  rw [e, Int.add_mul_ediv_right _ _ (by have := pos2 k; omega)]
  omega

theorem top_out (a : Int) (n k : Nat) (h : n ≤ k) (a0 : 0 ≤ a) (a1 : a < 2 ^ n) : (a - 2 ^ n) / 2 ^ k % 2 = 1 := by
  have hle := pow_le n k h
  have e : a - 2 ^ n = (a - 2 ^ n + 2 ^ k) + (-1) * 2 ^ k := by omega
  rw [e, Int.add_mul_ediv_right _ _ (by have := pos2 k; omega), Int.ediv_eq_zero_of_lt (by omega) (by omega)]
  rfl
theorem top_none (a : Int) (n k : Nat) (h : n ≤ k) (a0 : 0 ≤ a) (a1 : a < 2 ^ n) : a / 2 ^ k % 2 = 0 := by
  have hle := pow_le n k h
  rw [Int.ediv_eq_zero_of_lt a0 (by omega)]; rfl

/-- One bit more, by 'or' with 1 moved up. -/
theorem or_bit (x : Int) (k : Nat) (b : Bool) (hk : k < 64) (x0 : 0 ≤ x) (x1 : x < 2 ^ k) :
    bits .or .u64 x (IntKind.u64.wrap (b01 b * 2 ^ k)) = x + b01 b * 2 ^ k := by
  have p := pos2 k
  have hs := pow_succ' k
  have hle := pow_le64 (k + 1) (by omega)
  cases b
  · have e : b01 false * 2 ^ k = 0 := by simp [b01]
    rw [e, IntKind.wrap_u64, show (0 : Int) % 18446744073709551616 = 0 by rfl, u64_or _ _ x0 (by omega) (by omega) (by omega)]
    simp; omega
  · have e : b01 true * 2 ^ k = 2 ^ k := by simp [b01]
    rw [e, wrap_id _ (by omega) (by omega), u64_or _ _ x0 (by omega) (by omega) (by omega)]
    obtain ⟨X, rfl⟩ := Int.eq_ofNat_of_zero_le x0
    have hX : X < 2 ^ k := by rw [← pow_cast] at x1; exact_mod_cast x1
    rw [toNat_two_pow, Int.toNat_natCast, Nat.or_comm, nat_join k _ _ (Nat.mod_self _) hX, Int.natCast_add, pow_cast]
    omega

def udivF (a b : Int) : Int := if b = 0 then 18446744073709551615 else a / b
def uremF (a b : Int) : Int := if b = 0 then a else a % b
theorem udiv_bd (a b : Int) (a0 : 0 ≤ a) (a1 : a < 18446744073709551616) (b0 : 0 ≤ b) : 0 ≤ udivF a b ∧ udivF a b < 18446744073709551616 := by
  unfold udivF
  split
  · omega
  · have h := Int.ediv_le_self b a0
    exact ⟨Int.ediv_nonneg a0 b0, by omega⟩
theorem urem_bd (a b : Int) (a0 : 0 ≤ a) (a1 : a < 18446744073709551616) (b0 : 0 ≤ b) (b1 : b < 18446744073709551616) : 0 ≤ uremF a b ∧ uremF a b < 18446744073709551616 := by
  unfold uremF
  split
  · omega
  · have h := Int.emod_lt_of_pos a (show 0 < b by omega)
    exact ⟨Int.emod_nonneg a (by omega), by omega⟩
theorem cut_add_wrap (w a b : Int) : cutF w (IntKind.u64.wrap (a + IntKind.u64.wrap (0 - b))) = cutF w (a - b) := by
  have e : IntKind.u64.wrap (a + IntKind.u64.wrap (0 - b)) = IntKind.u64.wrap (a - b) := by
    rw [IntKind.wrap_u64, IntKind.wrap_u64, IntKind.wrap_u64]; omega
  rw [e, cut_wrap]
theorem cut_ones (w : Int) : cutF w 18446744073709551615 = cutF w (-1) := by
  have e : (18446744073709551615 : Int) = IntKind.u64.wrap (-1) := by rw [IntKind.wrap_u64]; decide
  rw [e, cut_wrap]
theorem cut_udiv (w a b : Int) : cutF w (udivF a b) = cutF w (if b = 0 then -1 else a / b) := by
  unfold udivF
  split
  · exact cut_ones w
  · rfl
theorem not_eq (a : Int) (a0 : 0 ≤ a) (a1 : a < 18446744073709551616) : bits .xor .u64 IntKind.u64.max a = 18446744073709551615 - a := by
  rw [max_u64, u64_xor _ _ (by omega) (by omega) a0 a1]
  obtain ⟨A, rfl⟩ := Int.eq_ofNat_of_zero_le a0
  have hA : A < 2 ^ 64 := by have : (2 : Nat) ^ 64 = 18446744073709551616 := by decide
                             omega
  have key : (18446744073709551615 : Nat) ^^^ A = 18446744073709551615 - A := by
    have h1 := Nat.xor_comm (18446744073709551615 : Nat) A
    have h2 : (18446744073709551615 : Nat) = 2 ^ 64 - 1 := by decide
    rw [h1, h2]
    apply Nat.eq_of_testBit_eq
    intro i
    rw [Nat.testBit_xor, Nat.testBit_two_pow_sub_one, show 2 ^ 64 - 1 - A = 2 ^ 64 - (A + 1) by omega, Nat.testBit_two_pow_sub_succ hA]
    by_cases hi : i < 64
    · simp [hi]
    · have : A.testBit i = false := Nat.testBit_lt_two_pow (Nat.lt_of_lt_of_le hA (Nat.pow_le_pow_right (by decide) (by omega)))
      simp [hi, this]
  show (((18446744073709551615 : Nat) ^^^ A : Nat) : Int) = _
  rw [key]
  omega
theorem cut_not (w a : Int) : cutF w (18446744073709551615 - a) = cutF w (-1 - a) := by
  rw [← cut_wrap w (18446744073709551615 - a), ← cut_wrap w (-1 - a)]
  congr 1
  rw [IntKind.wrap_u64, IntKind.wrap_u64]; omega
theorem cut_neg (w a : Int) : cutF w (18446744073709551615 - IntKind.u64.wrap (a - 1)) = cutF w (-a) := by
  rw [← cut_wrap w (18446744073709551615 - _), ← cut_wrap w (-a)]
  congr 1
  rw [IntKind.wrap_u64, IntKind.wrap_u64, IntKind.wrap_u64]; omega
theorem bits_bd (op : BinOp) (a b : Int) : 0 ≤ bits op .u64 a b ∧ bits op .u64 a b < 18446744073709551616 := by
  unfold bits; exact u64_bd _
theorem b01_bd (b : Bool) : 0 ≤ b01 b ∧ b01 b < 18446744073709551616 := by cases b <;> simp [b01]
theorem div_bd (a b : Int) (a0 : 0 ≤ a) (a1 : a < 18446744073709551616) (b0 : 0 ≤ b) : 0 ≤ a / b ∧ a / b < 18446744073709551616 := by
  refine ⟨Int.ediv_nonneg a0 b0, ?_⟩
  have := Int.ediv_le_self b a0
  omega
theorem mod_bd (a b : Int) (b0 : 0 < b) (b1 : b < 18446744073709551616) : 0 ≤ a % b ∧ a % b < 18446744073709551616 :=
  ⟨Int.emod_nonneg a (by omega), by have := Int.emod_lt_of_pos a b0; omega⟩
theorem slt_eq (n : Nat) (a b : Int) (h1 : 1 ≤ n) (h2 : n ≤ 64) (a0 : 0 ≤ a) (a1 : a < 2 ^ n) (b0 : 0 ≤ b) (b1 : b < 2 ^ n) :
    decide (bits .xor .u64 a (2 ^ (n - 1)) < bits .xor .u64 b (2 ^ (n - 1))) = decide (sgnF n a < sgnF n b) := by
  rw [flip_top n a h1 h2 a0 a1, flip_top n b h1 h2 b0 b1]
  congr 1
  apply propext
  constructor <;> intro h <;> omega
theorem slt_wrap (n : Nat) (a b : Int) (h1 : 1 ≤ n) (h2 : n ≤ 64) (a0 : 0 ≤ a) (a1 : a < 2 ^ n) (b0 : 0 ≤ b) (b1 : b < 2 ^ n) :
    cutF n (b01 (decide (bits .xor .u64 a (IntKind.u64.wrap (2 ^ (n - 1))) < bits .xor .u64 b (IntKind.u64.wrap (2 ^ (n - 1)))))) = cutF n (rawF 14 n a b) := by
  have p := pos2 (n - 1)
  have hh := pow_pred n h1
  have hle := pow_le64 n h2
  rw [wrap_id _ (by omega) (by omega), slt_eq n a b h1 h2 a0 a1 b0 b1]
  simp [rawF]
theorem bin_op {op w a b : Int} (h : ¬ (1 ≤ op ∧ op ≤ 14)) : binF op w a b = 0 ∧ binE op w = 3 := by
  unfold binF binE; rw [if_neg h, if_neg h]; exact ⟨rfl, rfl⟩
theorem bin_width {op w a b : Int} (h : 1 ≤ op ∧ op ≤ 14) (hw : ¬ (1 ≤ w ∧ w ≤ 64)) : binF op w a b = 0 ∧ binE op w = 2 := by
  unfold binF binE; rw [if_pos h, if_pos h, if_neg hw, cut_no hw]; exact ⟨rfl, rfl⟩
theorem bin_yes {op w a b : Int} (h : 1 ≤ op ∧ op ≤ 14) (hw : 1 ≤ w ∧ w ≤ 64) : binF op w a b = cutF w (rawF op w (cutF w a) (cutF w b)) ∧ binE op w = 0 := by
  unfold binF binE; rw [if_pos h, if_pos h, if_pos hw]; exact ⟨rfl, rfl⟩
theorem cut_mod (n : Nat) (x : Int) (h1 : 1 ≤ n) (h2 : n ≤ 64) : cutF n (x % 2 ^ n) = cutF n x := by
  rw [cut_yes n _ h1 h2, cut_yes n x h1 h2, Int.emod_emod]
end Go.Proofs.Ytifecnnkkbpglaa.Wd
