/-
  Moves bit by bit, plain.
-/
import Derived.Test.YtifecnnkkbpglaaPd
import Derived.Lib.BitFns
namespace Go.Proofs.Ytifecnnkkbpglaa
open Go.RowKit
set_option linter.unusedVariables false

/-- Moved by so many places, up or down; c comes in. -/
def mvF (u c : Bool) (A : Nat → Bool) (m s j : Nat) : Bool :=
  if u = true then (if j < s then c else A (j - s)) else (if j + s < m then A (j + s) else c)

theorem mv_zero (u c : Bool) (A : Nat → Bool) (m j : Nat) (hj : j < m) : mvF u c A m 0 j = A j := by
  unfold mvF
  cases u <;> simp [hj]

theorem mv_mv (u c : Bool) (A : Nat → Bool) (m s t j : Nat) (hj : j < m) : mvF u c (mvF u c A m s) m t j = mvF u c A m (s + t) j := by
  unfold mvF
  cases u
  · by_cases h1 : j + t < m
    · by_cases h2 : j + t + s < m
      · have h3 : j + (s + t) < m := by omega
        have e : j + t + s = j + (s + t) := by omega
        simp [h1, h3, e]
      · have h3 : ¬ j + (s + t) < m := by omega
        simp [h1, h2, h3]
    · have h3 : ¬ j + (s + t) < m := by omega
      simp [h1, h3]
  · by_cases h1 : j < t
    · have h3 : j < s + t := by omega
      simp [h1, h3]
    · by_cases h2 : j - t < s
      · have h3 : j < s + t := by omega
        simp [h1, h2, h3]
      · have h3 : ¬ j < s + t := by omega
        have e : j - t - s = j - (s + t) := by omega
        simp [h1, h2, h3, e]

theorem mv_far (u c : Bool) (A : Nat → Bool) (m s j : Nat) (hj : j < m) (hs : m ≤ s) : mvF u c A m s j = c := by
  unfold mvF
  have h1 : j < s := by omega
  have h2 : ¬ j + s < m := by omega
  cases u <;> simp [h1, h2]

/-- The number of so many bits. -/
def nbN (B : Nat → Bool) : Nat → Nat
  | 0 => 0
  | i + 1 => nbN B i + (if B i = true then 2 ^ i else 0)
theorem nb_nv (B : Nat → Bool) : ∀ i, (nbN B i : Int) = nvF B i
  | 0 => rfl
  | i + 1 => by
    have ih := nb_nv B i
    unfold nbN nvF
    rw [← ih]
    cases B i <;> simp [Wd.b01]
theorem nb_lt (B : Nat → Bool) : ∀ i, nbN B i < 2 ^ i
  | 0 => by simp [nbN]
  | i + 1 => by
    have ih := nb_lt B i
    have p := Nat.pow_succ (n := 2) (m := i)
    unfold nbN
    split <;> omega

theorem mv_step (u c : Bool) (A B : Nat → Bool) (m i j : Nat) (hj : j < m) :
    iteB (B i) (mvF u c (mvF u c A m (nbN B i)) m (2 ^ i) j) (mvF u c A m (nbN B i) j) = mvF u c A m (nbN B (i + 1)) j := by
  cases h : B i
  · simp [iteB, nbN, h]
  · simp only [iteB, nbN, h, if_true]
    simpa using mv_mv u c A m (nbN B i) (2 ^ i) j hj

/-- One of so many holds. -/
def orF (C : Nat → Bool) : Nat → Bool
  | 0 => false
  | k + 1 => orF C k || C k

theorem nb_or (B : Nat → Bool) (f : Nat) : ∀ k, (orF (fun j => B (f + j)) k = true → 2 ^ f ≤ nbN B (f + k)) ∧ (orF (fun j => B (f + j)) k = false → nbN B (f + k) = nbN B f)
  | 0 => ⟨fun h => by simp [orF] at h, fun _ => rfl⟩
  | k + 1 => by
    obtain ⟨h1, h2⟩ := nb_or B f k
    have p : 2 ^ f ≤ 2 ^ (f + k) := Nat.pow_le_pow_right (by decide) (by omega)
    have e : nbN B (f + (k + 1)) = nbN B (f + k) + (if B (f + k) = true then 2 ^ (f + k) else 0) := rfl
    rw [e]
    unfold orF
    cases hb : B (f + k)
    · simpa [hb] using ⟨h1, h2⟩
    · refine ⟨fun _ => by simp; omega, fun h => by simp at h⟩

theorem mv_end (u c : Bool) (A B : Nat → Bool) (m f k j : Nat) (hj : j < m) (hm : m ≤ 2 ^ f) (hk : f + k = m) :
    iteB (orF (fun j => B (f + j)) k) c (mvF u c A m (nbN B f) j) = mvF u c A m (nbN B m) j := by
  obtain ⟨h1, h2⟩ := nb_or B f k
  rw [hk] at h1 h2
  cases h : orF (fun j => B (f + j)) k
  · rw [h2 h]; simp [iteB]
  · rw [mv_far u c A m _ j hj (Nat.le_trans hm (h1 h))]; simp [iteB]

/-! ### how many bits tell a place -/
def farF (m : Nat) : Nat := Lib.bitLen (m - 1)
theorem far_all : ∀ x : Fin 200, x.val + 1 ≤ 2 ^ Lib.bitLen x.val ∧ Lib.bitLen x.val ≤ 8 ∧ ∀ i : Fin 8, i.val < Lib.bitLen x.val → 2 ^ i.val ≤ x.val := by decide +kernel
theorem far_hi (m : Nat) (h : m ≤ 200) (h0 : 1 ≤ m) : m ≤ 2 ^ farF m := by
  have := (far_all ⟨m - 1, by omega⟩).1
  unfold farF; simp only at this; omega
theorem far_8 (m : Nat) (h : m ≤ 200) (h0 : 1 ≤ m) : farF m ≤ 8 := (far_all ⟨m - 1, by omega⟩).2.1
theorem far_lo (m : Nat) (h : m ≤ 200) (h0 : 1 ≤ m) (i : Nat) (hi : i < farF m) : 2 ^ i < m := by
  have := (far_all ⟨m - 1, by omega⟩).2.2 ⟨i, by have := far_8 m h h0; omega⟩ hi
  simp only at this; omega
theorem far_lt (m : Nat) (h : m ≤ 200) (h0 : 1 ≤ m) : farF m < m := by
  by_cases hz : farF m = 0
  · omega
  · have := far_lo m h h0 (farF m - 1) (by omega)
    have := @Nat.lt_two_pow_self (farF m - 1)
    omega

/-! ### as words -/
theorem nv_T (C : Nat → Bool) (T : Int) : ∀ m, (∀ j, j < m → Wd.b01 (C j) = T / 2 ^ j % 2) → nvF C m = T % 2 ^ m
  | 0, _ => by simp [nvF, Int.emod_one]
  | m + 1, h => by
    unfold nvF
    rw [nv_T C T m (fun j hj => h j (by omega)), h m (by omega), Wd.bit_more]

theorem nv_of (m : Nat) (h1 : 1 ≤ m) (h2 : m ≤ 64) (a : Int) (a0 : 0 ≤ a) : nvF (fun j => Wd.bitB a j) m = Wd.cutF m a := by rw [nv_bits a a0, Wd.cut_yes m a h1 h2]

section
variable (m : Nat) (h1 : 1 ≤ m) (h2 : m ≤ 64) (a b : Int) (a0 : 0 ≤ a) (b0 : 0 ≤ b)
include h1 h2

theorem cut_bits (j : Nat) (hj : j < m) (a0 : 0 ≤ a) : Wd.cutF m a / 2 ^ j % 2 = Wd.b01 (Wd.bitB a j) := by
  have hx := Wd.cut_lt m a h1 h2
  have e : nvF (fun j => Wd.bitB (Wd.cutF m a) j) m = nvF (fun j => Wd.bitB a j) m := by
    rw [nv_bits _ hx.1, nv_of m h1 h2 a a0]
    exact Int.emod_eq_of_lt hx.1 hx.2
  have this : Wd.bitB (Wd.cutF m a) j = Wd.bitB a j := nv_inj e j hj
  rw [← Wd.bitB_eq _ j hx.1, this]

theorem nb_cut (b0 : 0 ≤ b) : nbN (fun j => Wd.bitB b j) m = (Wd.cutF m b).toNat := by
  have h := nb_nv (fun j => Wd.bitB b j) m
  rw [nv_of m h1 h2 b b0] at h
  omega

include a0 b0
theorem mean_up : nvF (mvF true false (fun j => Wd.bitB a j) m (nbN (fun j => Wd.bitB b j) m)) m = Wd.cutF m (Wd.cutF m (Wd.rawF 9 m (Wd.cutF m a) (Wd.cutF m b))) := by
  rw [nb_cut m h1 h2 b b0, Wd.cut_cut, Wd.cut_yes m (Wd.rawF 9 m _ _) h1 h2]
  have r : Wd.rawF 9 m (Wd.cutF m a) (Wd.cutF m b) = Wd.cutF m a * 2 ^ min (Wd.cutF m b).toNat 64 := by simp [Wd.rawF]
  rw [r]
  refine nv_T _ _ m fun j hj => ?_
  rw [Wd.up_bit]
  generalize (Wd.cutF m b).toNat = y
  unfold mvF
  by_cases h : j < y
  · have : ¬ min y 64 ≤ j := by omega
    simp [h, this, Wd.b01]
  · have h3 : min y 64 ≤ j := by omega
    have h4 : min y 64 = y := by omega
    simp only [if_true, h, if_false, if_pos h3]
    rw [h4, cut_bits m h1 h2 a (j - y) (by omega) a0]

theorem mean_down (c : Bool) : nvF (mvF false c (fun j => Wd.bitB a j) m (nbN (fun j => Wd.bitB b j) m)) m = Wd.lowF m (Wd.cutF m a) c / 2 ^ min (Wd.cutF m b).toNat 64 % 2 ^ m := by
  have hx := Wd.cut_lt m a h1 h2
  rw [nb_cut m h1 h2 b b0]
  refine nv_T _ _ m fun j hj => ?_
  rw [Wd.down_bit]
  generalize (Wd.cutF m b).toNat = y
  unfold mvF
  by_cases h : j + y < m
  · have h4 : min y 64 = y := by omega
    rw [h4, Wd.low_in m (j + y) _ c h, cut_bits m h1 h2 a (j + y) h a0]
    simp [h]
  · rw [Wd.low_out m (j + min y 64) _ c (by omega) hx.1 hx.2]
    simp [h]

theorem mean_shr : nvF (mvF false false (fun j => Wd.bitB a j) m (nbN (fun j => Wd.bitB b j) m)) m = Wd.cutF m (Wd.cutF m (Wd.rawF 10 m (Wd.cutF m a) (Wd.cutF m b))) := by
  rw [mean_down m h1 h2 a b a0 b0, Wd.cut_cut, Wd.cut_yes m (Wd.rawF 10 m _ _) h1 h2, Wd.low_false]
  simp [Wd.rawF]

theorem mean_sar : nvF (mvF false (Wd.bitB a (m - 1)) (fun j => Wd.bitB a j) m (nbN (fun j => Wd.bitB b j) m)) m = Wd.cutF m (Wd.cutF m (Wd.rawF 11 m (Wd.cutF m a) (Wd.cutF m b))) := by
  have hx := Wd.cut_lt m a h1 h2
  have e : Wd.bitB (Wd.cutF m a) (m - 1) = Wd.bitB a (m - 1) := bit_is _ _ hx.1 _ (cut_bits m h1 h2 a (m - 1) (by omega) a0)
  rw [mean_down m h1 h2 a b a0 b0, Wd.cut_cut, Wd.cut_yes m (Wd.rawF 11 m _ _) h1 h2, ← e, Wd.low_sign m _ h1 h2 hx.1 hx.2]
  simp [Wd.rawF]
end

end Go.Proofs.Ytifecnnkkbpglaa
