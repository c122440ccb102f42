/-
  Words bit by bit, plain: what an adder makes, what is less, what is the same.
-/
import Derived.Test.YtifecnnkkbpglaaWb
import Derived.Test.YtifecnnkkbpglaaGp
namespace Go.Proofs.Ytifecnnkkbpglaa
open Go.RowKit
set_option linter.unusedVariables false

/-- The word of so many bits. -/
def nvF (A : Nat → Bool) : Nat → Int
  | 0 => 0
  | m + 1 => nvF A m + Wd.b01 (A m) * 2 ^ m
/-- What is carried. -/
def cyF (c : Bool) (A B : Nat → Bool) : Nat → Bool
  | 0 => c
  | m + 1 => majB (A m) (B m) (cyF c A B m)
def smF (c : Bool) (A B : Nat → Bool) (j : Nat) : Bool := ((A j != B j) != cyF c A B j)
def lsF (A B : Nat → Bool) : Nat → Bool
  | 0 => false
  | m + 1 => majB (!A m) (B m) (lsF A B m)
def eqF (A B : Nat → Bool) : Nat → Bool
  | 0 => true
  | m + 1 => eqF A B m && !(A m != B m)
def slF (A B : Nat → Bool) (m : Nat) : Bool := majB (A (m - 1)) (!B (m - 1)) (lsF A B (m - 1))
def noF (A : Nat → Bool) (j : Nat) : Bool := !A j

theorem nv_bd (A : Nat → Bool) : ∀ m, 0 ≤ nvF A m ∧ nvF A m < 2 ^ m
  | 0 => ⟨Int.le_refl _, by show (0 : Int) < 2 ^ 0; decide⟩
  | m + 1 => by
    obtain ⟨h1, h2⟩ := nv_bd A m
    have p := Wd.pos2 m
    unfold nvF
    rw [Wd.pow_succ']
    cases A m <;> simp only [Wd.b01] <;> constructor <;> simp <;> omega

theorem nv_congr {A B : Nat → Bool} : ∀ {m : Nat}, (∀ j, j < m → A j = B j) → nvF A m = nvF B m
  | 0, _ => rfl
  | m + 1, h => by
    unfold nvF
    rw [nv_congr (m := m) (fun j hj => h j (by omega)), h m (by omega)]

theorem nv_bits (x : Int) (x0 : 0 ≤ x) : ∀ m, nvF (fun j => Wd.bitB x j) m = x % 2 ^ m
  | 0 => by simp [nvF, Int.emod_one]
  | m + 1 => by
    unfold nvF
    rw [nv_bits x x0 m, Wd.bitB_eq x m x0, Wd.bit_more]

theorem nv_succ (A : Nat → Bool) (m : Nat) : nvF A (m + 1) = nvF A m + Wd.b01 (A m) * 2 ^ m := rfl

theorem nv_sum (c : Bool) (A B : Nat → Bool) : ∀ m, nvF (smF c A B) m + Wd.b01 (cyF c A B m) * 2 ^ m = nvF A m + nvF B m + Wd.b01 c
  | 0 => by simp [nvF, cyF]
  | m + 1 => by
    have ih := nv_sum c A B m
    have e2 : cyF c A B (m + 1) = majB (A m) (B m) (cyF c A B m) := rfl
    have e3 : smF c A B m = ((A m != B m) != cyF c A B m) := rfl
    rw [e2, nv_succ, nv_succ A, nv_succ B, e3, Wd.pow_succ']
    generalize nvF (smF c A B) m = X at *
    generalize cyF c A B m = k at *
    generalize (2 : Int) ^ m = P at *
    generalize A m = x at *
    generalize B m = y at *
    generalize Wd.b01 c = z at *
    cases x <;> cases y <;> cases k <;> simp [Wd.b01, majB] at ih ⊢ <;> omega

theorem nv_not (A : Nat → Bool) : ∀ m, nvF (noF A) m = 2 ^ m - 1 - nvF A m
  | 0 => by simp [nvF]
  | m + 1 => by
    have ih := nv_not A m
    unfold nvF
    rw [Wd.pow_succ', ih]
    unfold noF
    cases A m <;> simp [Wd.b01] <;> omega

theorem nv_zero : ∀ m, nvF (fun _ => false) m = 0
  | 0 => rfl
  | m + 1 => by unfold nvF; rw [nv_zero m]; simp [Wd.b01]

theorem ls_eq (A B : Nat → Bool) : ∀ m, lsF A B m = decide (nvF A m < nvF B m)
  | 0 => by simp [lsF, nvF]
  | m + 1 => by
    have ih := ls_eq A B m
    obtain ⟨a1, a2⟩ := nv_bd A m
    obtain ⟨b1, b2⟩ := nv_bd B m
    unfold nvF lsF
    rw [ih]
    cases A m <;> cases B m <;> simp [Wd.b01, majB] <;> omega

theorem eq_eq (A B : Nat → Bool) : ∀ m, eqF A B m = decide (nvF A m = nvF B m)
  | 0 => by simp [eqF, nvF]
  | m + 1 => by
    have ih := eq_eq A B m
    obtain ⟨a1, a2⟩ := nv_bd A m
    obtain ⟨b1, b2⟩ := nv_bd B m
    unfold nvF eqF
    rw [ih]
    cases A m <;> cases B m <;> simp [Wd.b01] <;> omega

/-! ### words as chapter 1 has them -/
section
variable (m : Nat) (h1 : 1 ≤ m) (h2 : m ≤ 64) (A B : Nat → Bool)
include h1 h2

end

end Go.Proofs.Ytifecnnkkbpglaa
