/-
  Words bit by bit, plain: what shifted sums make (products), what differences that are taken make (quotients).
-/
import Derived.Test.YtifecnnkkbpglaaPb
namespace Go.Proofs.Ytifecnnkkbpglaa
open Go.RowKit
set_option linter.unusedVariables false

theorem nv_inj {A B : Nat → Bool} : ∀ {m : Nat}, nvF A m = nvF B m → ∀ j, j < m → A j = B j
  | 0, _, j, hj => by omega
  | m + 1, h, j, hj => by
    obtain ⟨a0, a1⟩ := nv_bd A m
    obtain ⟨b0, b1⟩ := nv_bd B m
    rw [nv_succ, nv_succ] at h
    have e : A m = B m := by
      cases hA : A m <;> cases hB : B m <;> rw [hA, hB] at h <;> simp [Wd.b01] at h ⊢ <;> omega
    have e2 : nvF A m = nvF B m := by rw [e] at h; omega
    by_cases hj2 : j = m
    · subst hj2; exact e
    · exact nv_inj e2 j (by omega)

theorem pow_add' (i n : Nat) : (2 : Int) ^ (i + n) = 2 ^ i * 2 ^ n := Int.pow_add 2 i n

theorem nv_split (A : Nat → Bool) (i : Nat) : ∀ n, nvF A (i + n) = nvF A i + 2 ^ i * nvF (fun j => A (i + j)) n
  | 0 => by simp [nvF]
  | n + 1 => by
    have ih := nv_split A i n
    rw [show i + (n + 1) = (i + n) + 1 by omega, nv_succ, ih, nv_succ, pow_add']
    generalize nvF A i = x
    generalize nvF (fun j => A (i + j)) n = y
    generalize Wd.b01 (A (i + n)) = z
    generalize (2 : Int) ^ i = p
    generalize (2 : Int) ^ n = q
    grind

/-- A bit ahead of others. -/
def conF (b : Bool) (A : Nat → Bool) : Nat → Bool
  | 0 => b
  | j + 1 => A j
theorem nv_con (b : Bool) (A : Nat → Bool) (n : Nat) : nvF (conF b A) (n + 1) = Wd.b01 b + 2 * nvF A n := by
  have h := nv_split (conF b A) 1 n
  have e : (fun j => conF b A (1 + j)) = A := by funext j; rw [Nat.add_comm]; rfl
  rw [e] at h
  rw [Nat.add_comm n 1, h]
  simp [nvF, conF]

/-- The first so many bits, none above. -/
def lowB (A : Nat → Bool) (n j : Nat) : Bool := decide (j < n) && A j
theorem nv_low (A : Nat → Bool) (n : Nat) : ∀ k, nvF (lowB A n) (n + k) = nvF A n
  | 0 => nv_congr (fun j hj => by simp [lowB]; omega)
  | k + 1 => by
    have e : lowB A n (n + k) = false := by
      have : ¬ n + k < n := by omega
      simp [lowB, this]
    rw [show n + (k + 1) = (n + k) + 1 by omega, nv_succ, nv_low A n k, e]
    simp [Wd.b01]

theorem bit_is (x : Int) (k : Nat) (x0 : 0 ≤ x) (b : Bool) (h : x / 2 ^ k % 2 = Wd.b01 b) : Wd.bitB x k = b := by
  have e := Wd.bitB_eq x k x0
  rw [h] at e
  cases hb : Wd.bitB x k <;> cases b <;> rw [hb] at e <;> simp [Wd.b01] at e ⊢

theorem b01_dec (p : Prop) [Decidable p] : Wd.b01 (decide p) = if p then 1 else 0 := by
  by_cases h : p <;> simp [Wd.b01, h]

/-! ### products -/


/-! ### quotients -/








end Go.Proofs.Ytifecnnkkbpglaa
