/-
  Words bit by bit, plain: what shifted sums make (products), what differences that are taken make (quotients).
-/
import Derived.Test.YtplhlfmibeennaaPb
namespace Go.Proofs.Ytplhlfmibeennaa
open Go.RowKit
set_option linter.unusedVariables false

theorem nv_inj {A B : Nat → Bool} : ∀ {m : Nat}, nvF A m = nvF B m → ∀ j, j < m → A j = B j
  | 0, _, j, hj => by omega
  | m + 1, h, j, hj => by
    obtain ⟨a0, a1⟩ := nv_bd A m
    obtain ⟨b0, b1⟩ := nv_bd B m
    rw [nv_succ, nv_succ] at h
    have e : A m = B m := by
      cases hA : A m <;> cases hB : B m <;> rw [hA, hB] at h <;> simp [Wd.b01] at h ⊢ <;> omega
    have e2 : nvF A m = nvF B m := by rw [e] at h; omega
    by_cases hj2 : j = m
    · subst hj2; exact e
    · exact nv_inj e2 j (by omega)

theorem pow_add' (i n : Nat) : (2 : Int) ^ (i + n) = 2 ^ i * 2 ^ n := Int.pow_add 2 i n

theorem nv_split (A : Nat → Bool) (i : Nat) : ∀ n, nvF A (i + n) = nvF A i + 2 ^ i * nvF (fun j => A (i + j)) n
  | 0 => by simp [nvF]
  | n + 1 => by
    have ih := nv_split A i n
    rw [show i + (n + 1) = (i + n) + 1 by omega, nv_succ, ih, nv_succ, pow_add']
    generalize nvF A i = x
    generalize nvF (fun j => A (i + j)) n = y
    generalize Wd.b01 (A (i + n)) = z
    generalize (2 : Int) ^ i = p
    generalize (2 : Int) ^ n = q
    grind

/-- A bit ahead of others. -/
def conF (b : Bool) (A : Nat → Bool) : Nat → Bool
  | 0 => b
  | j + 1 => A j
theorem nv_con (b : Bool) (A : Nat → Bool) (n : Nat) : nvF (conF b A) (n + 1) = Wd.b01 b + 2 * nvF A n := by
  have h := nv_split (conF b A) 1 n
  have e : (fun j => conF b A (1 + j)) = A := by funext j; rw [Nat.add_comm]; rfl
  rw [e] at h
  rw [Nat.add_comm n 1, h]
  simp [nvF, conF]

/-- The first so many bits, none above. -/
def lowB (A : Nat → Bool) (n j : Nat) : Bool := decide (j < n) && A j
theorem nv_low (A : Nat → Bool) (n : Nat) : ∀ k, nvF (lowB A n) (n + k) = nvF A n
  | 0 => nv_congr (fun j hj => by simp [lowB]; omega)
  | k + 1 => by
    have e : lowB A n (n + k) = false := by
      have : ¬ n + k < n := by omega
      simp [lowB, this]
    rw [show n + (k + 1) = (n + k) + 1 by omega, nv_succ, nv_low A n k, e]
    simp [Wd.b01]

theorem bit_is (x : Int) (k : Nat) (x0 : 0 ≤ x) (b : Bool) (h : x / 2 ^ k % 2 = Wd.b01 b) : Wd.bitB x k = b := by
  have e := Wd.bitB_eq x k x0
  rw [h] at e
  cases hb : Wd.bitB x k <;> cases b <;> rw [hb] at e <;> simp [Wd.b01] at e ⊢

theorem b01_dec (p : Prop) [Decidable p] : Wd.b01 (decide p) = if p then 1 else 0 := by
  by_cases h : p <;> simp [Wd.b01, h]

/-! ### products -/
/-- The product of a word and the first bits of another. -/
def mpF (A B : Nat → Bool) (m i : Nat) (j : Nat) : Bool := Wd.bitB (nvF A m * nvF B i) j

theorem mp_pos (A B : Nat → Bool) (m i : Nat) : 0 ≤ nvF A m * nvF B i := Int.mul_nonneg (nv_bd A m).1 (nv_bd B i).1

theorem mp_zero (A B : Nat → Bool) (m j : Nat) : mpF A B m 0 j = false := by
  have e : nvF A m * nvF B 0 = 0 := by simp [nvF]
  refine bit_is _ j (mp_pos A B m 0) false ?_
  rw [e]; simp [Wd.b01]

theorem iteB_zero (c : Bool) (A : Nat → Bool) : ∀ n, nvF (fun j => iteB c (A j) false) n = Wd.b01 c * nvF A n := by
  intro n
  cases c
  · rw [nv_congr (B := fun _ => false) (fun j _ => by simp [iteB]), nv_zero]; simp [Wd.b01]
  · rw [nv_congr (B := A) (fun j _ => by simp [iteB])]; simp [Wd.b01]

/-- One bit more. -/
theorem mp_step (A B : Nat → Bool) (m i : Nat) (hi : i < m) (j : Nat) (hj : j < m) :
    (if j < i then mpF A B m i j else smF false (fun k => mpF A B m i (i + k)) (fun k => iteB (B i) (A k) false) (j - i)) = mpF A B m (i + 1) j := by
  obtain ⟨n, rfl⟩ : ∃ n, m = i + n := ⟨m - i, by omega⟩
  refine nv_inj (A := fun j => if j < i then mpF A B (i + n) i j else smF false (fun k => mpF A B (i + n) i (i + k)) (fun k => iteB (B i) (A k) false) (j - i)) (m := i + n) ?_ j hj
  rw [nv_split, nv_congr (m := i) (B := mpF A B (i + n) i) (fun j hj => by simp [hj])]
  rw [nv_congr (m := n) (B := smF false (fun k => mpF A B (i + n) i (i + k)) (fun k => iteB (B i) (A k) false)) (fun j hj => by
    rw [if_neg (by omega), show i + j - i = j by omega])]
  have hs := nv_sum false (fun k => mpF A B (i + n) i (i + k)) (fun k => iteB (B i) (A k) false) n
  rw [iteB_zero] at hs
  have hp : nvF (mpF A B (i + n) i) (i + n) = (nvF A (i + n) * nvF B i) % 2 ^ (i + n) := nv_bits _ (mp_pos _ _ _ _) _
  rw [nv_split] at hp
  have hq : nvF (mpF A B (i + n) (i + 1)) (i + n) = (nvF A (i + n) * nvF B (i + 1)) % 2 ^ (i + n) := nv_bits _ (mp_pos _ _ _ _) _
  rw [hq, nv_succ B i]
  obtain ⟨l0, l1⟩ := nv_bd (mpF A B (i + n) i) i
  obtain ⟨r0, r1⟩ := nv_bd (smF false (fun k => mpF A B (i + n) i (i + k)) (fun k => iteB (B i) (A k) false)) n
  have hA : nvF A (i + n) = nvF A n + 2 ^ n * nvF (fun j => A (n + j)) i := by rw [Nat.add_comm, nv_split]
  rw [pow_add'] at hp ⊢
  have pP := Wd.pos2 i
  have pK := Wd.pos2 n
  have z : Wd.b01 false = 0 := rfl
  rw [z] at hs
  have hd := Int.mul_ediv_add_emod (nvF A (i + n) * nvF B i) (2 ^ i * 2 ^ n)
  rw [← hp] at hd
  generalize nvF A (i + n) = a at *
  generalize nvF B i = b at *
  generalize Wd.b01 (B i) = c at *
  generalize nvF (mpF A B (i + n) i) i = L at *
  generalize nvF (fun j => mpF A B (i + n) i (i + j)) n = U at *
  generalize nvF (smF false (fun k => mpF A B (i + n) i (i + k)) (fun k => iteB (B i) (A k) false)) n = r at *
  generalize Wd.b01 (cyF false (fun k => mpF A B (i + n) i (i + k)) (fun k => iteB (B i) (A k) false) n) = q3 at *
  generalize nvF A n = Ak at *
  generalize nvF (fun j => A (n + j)) i = q2 at *
  generalize a * b / (2 ^ i * 2 ^ n) = q1 at *
  generalize (2 : Int) ^ i = P at *
  generalize (2 : Int) ^ n = K at *
  have e : a * (b + c * P) = (L + P * r) + (P * K) * (q1 + c * q2 + q3) := by grind
  rw [e, Int.add_mul_emod_self_left, Int.emod_eq_of_lt]
  · have := Int.mul_nonneg (Int.le_of_lt pP) r0; omega
  · have h1 : P * r ≤ P * (K - 1) := Int.mul_le_mul_of_nonneg_left (by omega) (Int.le_of_lt pP)
    have h2 : P * (K - 1) = P * K - P := by grind
    omega

/-! ### quotients -/
/-- The quotient of words of a width. -/
def dvF (a b : Int) (m : Nat) : Int := if b = 0 then 2 ^ m - 1 else a / b
theorem dv_pos (a b : Int) (m : Nat) (a0 : 0 ≤ a) (b0 : 0 ≤ b) : 0 ≤ dvF a b m := by
  unfold dvF
  split
  · have := Wd.pos2 m; omega
  · exact Int.ediv_nonneg a0 b0
/-- The quotient's bits; those of the rest behind so many steps. -/
def quF (A B : Nat → Bool) (m : Nat) (j : Nat) : Bool := Wd.bitB (dvF (nvF A m) (nvF B m) m) j
def reF (A B : Nat → Bool) (m n : Nat) (j : Nat) : Bool := Wd.bitB (nvF A m / 2 ^ (m - n) % nvF B m) j
/-- What is above. -/
def abF (B : Nat → Bool) (m n : Nat) : Bool := decide (2 ^ n ≤ nvF B m)

theorem ab_end (B : Nat → Bool) (m : Nat) : abF B m m = false := by
  have := (nv_bd B m).2
  simp [abF]; omega
theorem ab_step (B : Nat → Bool) (m n : Nat) (hn : n < m) : (B n || abF B m (n + 1)) = abF B m n := by
  obtain ⟨k, rfl⟩ : ∃ k, m = (n + 1) + k := ⟨m - (n + 1), by omega⟩
  have h := nv_split B (n + 1) k
  obtain ⟨l0, l1⟩ := nv_bd B n
  obtain ⟨h0, h1⟩ := nv_bd (fun j => B (n + 1 + j)) k
  have p := Wd.pos2 n
  unfold abF
  rw [h, nv_succ, Wd.pow_succ']
  generalize nvF (fun j => B (n + 1 + j)) k = H at *
  generalize (2 : Int) ^ n = P at *
  have hm : 0 < H → 2 * P ≤ 2 * P * H := fun hH => by
    have := Int.mul_le_mul_of_nonneg_left (show (1 : Int) ≤ H by omega) (show (0 : Int) ≤ 2 * P by omega)
    omega
  have hz : 0 ≤ 2 * P * H := Int.mul_nonneg (by omega) h0
  cases hb : B n <;> simp [Wd.b01]
  · by_cases hH : H = 0
    · subst hH; simp; omega
    · have := hm (by omega)
      omega
  · omega

theorem re_bd (A B : Nat → Bool) (m n : Nat) (hn : n ≤ m) : 0 ≤ nvF A m / 2 ^ (m - n) ∧ nvF A m / 2 ^ (m - n) < 2 ^ n ∧ 0 ≤ nvF A m / 2 ^ (m - n) % nvF B m ∧ nvF A m / 2 ^ (m - n) % nvF B m < 2 ^ n := by
  obtain ⟨a0, a1⟩ := nv_bd A m
  obtain ⟨b0, b1⟩ := nv_bd B m
  have p := Wd.pos2 (m - n)
  have h0 := Int.ediv_nonneg a0 (Int.le_of_lt p)
  have h1 : nvF A m / 2 ^ (m - n) < 2 ^ n := by
    refine Int.ediv_lt_of_lt_mul p ?_
    rw [← pow_add', show n + (m - n) = m by omega]; exact a1
  refine ⟨h0, h1, ?_⟩
  generalize nvF A m / 2 ^ (m - n) = H at *
  by_cases hb : nvF B m = 0
  · rw [hb, Int.emod_zero]; exact ⟨h0, h1⟩
  · have q0 := Int.emod_nonneg H hb
    have q1 : H % nvF B m ≤ H := by
      have := Int.mul_ediv_add_emod H (nvF B m)
      have h2 := Int.ediv_nonneg h0 b0
      have := Int.mul_nonneg b0 h2
      omega
    exact ⟨q0, by omega⟩

theorem nv_re (A B : Nat → Bool) (m n : Nat) (hn : n ≤ m) : nvF (reF A B m n) n = nvF A m / 2 ^ (m - n) % nvF B m := by
  obtain ⟨_, _, h0, h1⟩ := re_bd A B m n hn
  have := nv_bits (nvF A m / 2 ^ (m - n) % nvF B m) h0 n
  rw [Int.emod_eq_of_lt h0 h1] at this
  exact this

theorem top_step (A : Nat → Bool) (m n : Nat) (hn : n < m) : nvF A m / 2 ^ (m - (n + 1)) = 2 * (nvF A m / 2 ^ (m - n)) + Wd.b01 (A (m - (n + 1))) := by
  obtain ⟨i, rfl⟩ : ∃ i, m = i + (n + 1) := ⟨m - (n + 1), by omega⟩
  rw [show i + (n + 1) - (n + 1) = i by omega, show i + (n + 1) - n = i + 1 by omega]
  obtain ⟨l0, l1⟩ := nv_bd A i
  obtain ⟨k0, k1⟩ := nv_bd A (i + 1)
  have e1 : nvF A (i + (n + 1)) / 2 ^ i = nvF (fun j => A (i + j)) (n + 1) := by
    rw [nv_split, Int.add_mul_ediv_left _ _ (Int.ne_of_gt (Wd.pos2 i)), Int.ediv_eq_zero_of_lt l0 l1, Int.zero_add]
  have e2 : nvF A (i + (n + 1)) / 2 ^ (i + 1) = nvF (fun j => A (i + 1 + j)) n := by
    rw [show i + (n + 1) = (i + 1) + n by omega, nv_split, Int.add_mul_ediv_left _ _ (Int.ne_of_gt (Wd.pos2 (i + 1))), Int.ediv_eq_zero_of_lt k0 k1, Int.zero_add]
  rw [e1, e2]
  have h := nv_con (A i) (fun j => A (i + 1 + j)) n
  rw [show nvF (conF (A i) (fun j => A (i + 1 + j))) (n + 1) = nvF (fun j => A (i + j)) (n + 1) from nv_congr (fun j _ => by
    cases j with
    | zero => rfl
    | succ k => show A (i + 1 + k) = A (i + (k + 1)); rw [show i + 1 + k = i + (k + 1) by omega])] at h
  omega

/-- The rest, and one bit of the word put under it. -/
def rnF (A B : Nat → Bool) (m n : Nat) : Nat → Bool := conF (A (m - (n + 1))) (reF A B m n)

theorem nv_rn (A B : Nat → Bool) (m n : Nat) (hn : n < m) : nvF (rnF A B m n) (n + 1) = Wd.b01 (A (m - (n + 1))) + 2 * (nvF A m / 2 ^ (m - n) % nvF B m) := by
  unfold rnF
  rw [nv_con, nv_re A B m n (by omega)]

/-- What a step asks: is the rest no less? -/
theorem step_is (R B : Nat → Bool) (m n : Nat) (hn : n ≤ m) (S : Nat → Bool) (hS : S = smF true (lowB R n) (noF (lowB B n))) : (!(S n || abF B m n)) = decide (nvF B m ≤ nvF R n) := by
  have h := nv_sum true (lowB R n) (noF (lowB B n)) (n + 1)
  obtain ⟨s0, s1⟩ := nv_bd S n
  obtain ⟨r0, r1⟩ := nv_bd R n
  obtain ⟨l0, l1⟩ := nv_bd B n
  rw [nv_not, nv_low R n 1, nv_low B n 1, ← hS, nv_succ S, Wd.pow_succ'] at h
  obtain ⟨k, rfl⟩ : ∃ k, m = n + k := ⟨m - n, by omega⟩
  have hb := nv_split B n k
  obtain ⟨h0, h1⟩ := nv_bd (fun j => B (n + j)) k
  have p := Wd.pos2 n
  unfold abF
  rw [hb]
  have z : Wd.b01 true = 1 := rfl
  rw [z] at h
  generalize cyF true (lowB R n) (noF (lowB B n)) (n + 1) = cc at *
  generalize nvF (fun j => B (n + j)) k = H at *
  generalize (2 : Int) ^ n = P at *
  have hm : 0 < H → P ≤ P * H := fun hH => by
    have := Int.mul_le_mul_of_nonneg_left (show (1 : Int) ≤ H by omega) (show (0 : Int) ≤ P by omega)
    omega
  rw [Bool.eq_iff_iff]
  by_cases hH : H = 0
  · subst hH
    cases hs : S n <;> cases cc <;> rw [hs] at h <;> simp [Wd.b01] at h ⊢ <;> omega
  · have := hm (by omega)
    simp; omega

/-- What is left. -/
theorem step_left (R B : Nat → Bool) (m n : Nat) (hn : n ≤ m) (S : Nat → Bool) (hS : S = smF true (lowB R n) (noF (lowB B n))) (X : Int) (hX : X = if nvF B m ≤ nvF R n then nvF R n - nvF B m else nvF R n) (j : Nat) (hj : j < n) :
    iteB (decide (nvF B m ≤ nvF R n)) (S j) (R j) = Wd.bitB X j := by
  obtain ⟨r0, r1⟩ := nv_bd R n
  obtain ⟨b0, b1⟩ := nv_bd B m
  have X0 : 0 ≤ X := by rw [hX]; split <;> omega
  refine nv_inj (A := fun j => iteB (decide (nvF B m ≤ nvF R n)) (S j) (R j)) (B := fun j => Wd.bitB X j) (m := n) ?_ j hj
  rw [nv_bits X X0]
  by_cases hc : nvF B m ≤ nvF R n
  · rw [nv_congr (B := S) (fun j _ => by simp [iteB, hc]), hX, if_pos hc, Int.emod_eq_of_lt (by omega) (by omega)]
    have h := nv_sum true (lowB R n) (noF (lowB B n)) (n + 1)
    obtain ⟨s0, s1⟩ := nv_bd S n
    obtain ⟨l0, l1⟩ := nv_bd B n
    rw [nv_not, nv_low R n 1, nv_low B n 1, ← hS, nv_succ S, Wd.pow_succ'] at h
    obtain ⟨k, rfl⟩ : ∃ k, m = n + k := ⟨m - n, by omega⟩
    have hb := nv_split B n k
    obtain ⟨h0, h1⟩ := nv_bd (fun j => B (n + j)) k
    have p := Wd.pos2 n
    have z : Wd.b01 true = 1 := rfl
    rw [z] at h
    rw [hb] at hc ⊢
    generalize cyF true (lowB R n) (noF (lowB B n)) (n + 1) = cc at *
    generalize nvF (fun j => B (n + j)) k = H at *
    generalize (2 : Int) ^ n = P at *
    have hm : 0 < H → P ≤ P * H := fun hH => by
      have := Int.mul_le_mul_of_nonneg_left (show (1 : Int) ≤ H by omega) (show (0 : Int) ≤ P by omega)
      omega
    by_cases hH : H = 0
    · subst hH
      cases hs : S n <;> cases cc <;> rw [hs] at h <;> simp [Wd.b01] at h ⊢ <;> omega
    · have := hm (by omega)
      omega
  · rw [nv_congr (B := R) (fun j _ => by simp [iteB, hc]), hX, if_neg hc, Int.emod_eq_of_lt r0 r1]

theorem mod_twice (H b : Int) (b0 : 0 < b) (c : Int) (c0 : 0 ≤ c) (c1 : c ≤ 1) : (2 * H + c) % b = (if b ≤ 2 * (H % b) + c then 2 * (H % b) + c - b else 2 * (H % b) + c) ∧ (2 * H + c) / b = 2 * (H / b) + (if b ≤ 2 * (H % b) + c then 1 else 0) := by
  have e := Int.mul_ediv_add_emod H b
  have r0 := Int.emod_nonneg H (Int.ne_of_gt b0)
  have r1 := Int.emod_lt_of_pos H b0
  have e2 : 2 * H + c = (2 * (H % b) + c) + b * (2 * (H / b)) := by
    have : b * (2 * (H / b)) = 2 * (b * (H / b)) := by grind
    omega
  rw [e2, Int.add_mul_emod_self_left, Int.add_mul_ediv_left _ _ (Int.ne_of_gt b0)]
  generalize H % b = r at *
  split
  · rename_i hc
    have q : (2 * r + c) / b = 1 := by
      have e3 : 2 * r + c = (2 * r + c - b) + b * 1 := by omega
      rw [e3, Int.add_mul_ediv_left _ _ (Int.ne_of_gt b0), Int.ediv_eq_zero_of_lt (by omega) (by omega)]; rfl
    have q2 : (2 * r + c) % b = 2 * r + c - b := by
      have e3 : 2 * r + c = (2 * r + c - b) + b * 1 := by omega
      rw [e3, Int.add_mul_emod_self_left, Int.emod_eq_of_lt (by omega) (by omega)]; omega
    rw [q, q2]; exact ⟨rfl, by omega⟩
  · rw [Int.emod_eq_of_lt (by omega) (by omega), Int.ediv_eq_zero_of_lt (by omega) (by omega)]; exact ⟨rfl, by omega⟩

theorem b01_le (b : Bool) : 0 ≤ Wd.b01 b ∧ Wd.b01 b ≤ 1 := by cases b <;> simp [Wd.b01]

/-- The next rest. -/
theorem re_step (A B : Nat → Bool) (m n : Nat) (hn : n < m) :
    nvF A m / 2 ^ (m - (n + 1)) % nvF B m = if nvF B m ≤ nvF (rnF A B m n) (n + 1) then nvF (rnF A B m n) (n + 1) - nvF B m else nvF (rnF A B m n) (n + 1) := by
  obtain ⟨b0, b1⟩ := nv_bd B m
  obtain ⟨h0, _⟩ := re_bd A B m n (by omega)
  rw [top_step A m n hn, nv_rn A B m n hn]
  generalize nvF A m / 2 ^ (m - n) = H at *
  obtain ⟨c0, c1⟩ := b01_le (A (m - (n + 1)))
  generalize Wd.b01 (A (m - (n + 1))) = c at *
  by_cases hb : nvF B m = 0
  · rw [hb, Int.emod_zero, Int.emod_zero, if_pos (by omega)]; omega
  · have := (mod_twice H (nvF B m) (by omega) c c0 c1).1
    rw [this]
    by_cases hc : nvF B m ≤ 2 * (H % nvF B m) + c
    · rw [if_pos hc, if_pos (by omega)]; omega
    · rw [if_neg hc, if_neg (by omega)]; omega

/-- The next bit of the quotient. -/
theorem qu_step (A B : Nat → Bool) (m n : Nat) (hn : n < m) : quF A B m (m - (n + 1)) = decide (nvF B m ≤ nvF (rnF A B m n) (n + 1)) := by
  obtain ⟨a0, a1⟩ := nv_bd A m
  obtain ⟨b0, b1⟩ := nv_bd B m
  refine bit_is _ _ (dv_pos _ _ m a0 b0) _ ?_
  rw [b01_dec]
  unfold dvF
  by_cases hb : nvF B m = 0
  · rw [if_pos hb, hb, if_pos (nv_bd _ _).1]
    obtain ⟨i, rfl⟩ : ∃ i, m = i + (n + 1) := ⟨m - (n + 1), by omega⟩
    rw [show i + (n + 1) - (n + 1) = i by omega, pow_add', Wd.pow_succ']
    have p := Wd.pos2 i
    have e : (2 : Int) ^ i * (2 * 2 ^ n) - 1 = (2 ^ i - 1) + 2 ^ i * (2 * 2 ^ n - 1) := by grind
    rw [e, Int.add_mul_ediv_left _ _ (Int.ne_of_gt p), Int.ediv_eq_zero_of_lt (by omega) (by omega)]
    omega
  · rw [if_neg hb, nv_rn A B m n hn]
    have e1 : nvF A m / nvF B m / 2 ^ (m - (n + 1)) = nvF A m / 2 ^ (m - (n + 1)) / nvF B m := by
      rw [Int.ediv_ediv_of_nonneg b0, Int.ediv_ediv_of_nonneg (Int.le_of_lt (Wd.pos2 _)), Int.mul_comm]
    rw [e1, top_step A m n hn]
    obtain ⟨c0, c1⟩ := b01_le (A (m - (n + 1)))
    generalize nvF A m / 2 ^ (m - n) = H at *
    generalize Wd.b01 (A (m - (n + 1))) = c at *
    rw [(mod_twice H (nvF B m) (by omega) c c0 c1).2]
    by_cases hc : nvF B m ≤ 2 * (H % nvF B m) + c
    · rw [if_pos hc, if_pos (by omega)]; omega
    · rw [if_neg hc, if_neg (by omega)]; omega

end Go.Proofs.Ytplhlfmibeennaa
