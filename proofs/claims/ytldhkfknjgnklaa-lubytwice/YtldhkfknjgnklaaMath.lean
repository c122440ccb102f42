/-
  The row of numbers, as a plain function of its place.
-/
import Derived.Handy
import Derived.Below
namespace Go.Proofs.Ytldhkfknjgnklaa
open Go.RowKit
set_option linter.unusedVariables false

/-- The place is 2^k - 1. -/
def isW (i : Nat) : Bool := decide (2 ^ (i + 1).log2 = i + 1)

theorem pow_of_isW {i : Nat} (h : isW i = true) : 2 ^ (i + 1).log2 = i + 1 := by simpa [isW] using h
theorem isW_pow (k : Nat) : isW (2 ^ k - 1) = true := by
  have hp : 0 < 2 ^ k := Nat.two_pow_pos k
  have e : 2 ^ k - 1 + 1 = 2 ^ k := by omega
  simp [isW, e, Nat.log2_two_pow]

theorem log2_unique {n k : Nat} (h0 : 2 ^ k ≤ n) (h1 : n < 2 ^ (k + 1)) : n.log2 = k := by
  have hp : 0 < 2 ^ k := Nat.two_pow_pos k
  exact (Nat.log2_eq_iff (by omega)).2 ⟨h0, h1⟩

theorem not_isW {i : Nat} (h : isW i = false) : 2 ≤ i ∧ (i + 1).log2 = i.log2 ∧ 2 ^ i.log2 ≤ i ∧ i < 2 ^ (i.log2 + 1) ∧ 2 ≤ 2 ^ i.log2 ∧ 2 ^ i.log2 ≠ i + 1 ∧ i + 1 < 2 ^ (i.log2 + 1) := by
  have h2 : 2 ≤ i := by
    match i, h with
    | 0, h => revert h; decide
    | 1, h => revert h; decide
    | (n + 2), _ => omega
  have hn : 2 ^ (i + 1).log2 ≠ i + 1 := by simpa [isW] using h
  have a := Nat.log2_self_le (n := i + 1) (by omega)
  have b : i + 1 < 2 ^ ((i + 1).log2 + 1) := Nat.lt_log2_self
  have e : i.log2 = (i + 1).log2 := log2_unique (by omega) (by omega)
  have h1 : 1 ≤ i.log2 := by
    have := (Nat.le_log2 (n := i) (k := 1) (by omega)).2 (by omega)
    exact this
  have h3 : 2 ^ 1 ≤ 2 ^ i.log2 := Nat.pow_le_pow_right (by decide) h1
  rw [e] at h3 ⊢
  exact ⟨h2, rfl, by omega, by omega, by omega, by omega, b⟩

/-- One place back. -/
def back (i : Nat) : Nat := i + 1 - 2 ^ i.log2

theorem back_lt {i : Nat} (h : isW i = false) : back i < i ∧ 1 ≤ back i ∧ i = back i + (2 ^ i.log2 - 1) := by
  obtain ⟨h2, _, h3, _, h4, _⟩ := not_isW h
  unfold back
  omega

/-- All places that are met, f at most. -/
def chainF : Nat → Nat → List Int
  | 0, _ => []
  | f + 1, i => if isW i = true then [] else (back i : Int) :: chainF f (back i)

theorem chainF_more (f g i : Nat) (hf : i ≤ f) (hg : i ≤ g) : chainF f i = chainF g i := by
  induction f generalizing g i with
  | zero =>
    obtain rfl : i = 0 := by omega
    cases g with
    | zero => rfl
    | succ g => simp [chainF, show isW 0 = true by decide]
  | succ f ih =>
    cases h : isW i with
    | true =>
      cases g with
      | zero => simp [chainF, h]
      | succ g => simp [chainF, h]
    | false =>
      have hb := (back_lt h).1
      cases g with
      | zero => omega
      | succ g => simp [chainF, h, ih g (back i) (by omega) (by omega)]

/-- All places that are met. -/
def chain (i : Nat) : List Int := chainF i i

theorem chain_whole {i : Nat} (h : isW i = true) : chain i = [] := by
  cases i with
  | zero => rfl
  | succ i => simp [chain, chainF, h]
theorem chain_step {i : Nat} (h : isW i = false) : chain i = (back i : Int) :: chain (back i) := by
  have hb := (back_lt h).1
  cases i with
  | zero => omega
  | succ i =>
    simp only [chain, chainF, h]
    rw [chainF_more i (back (i + 1)) (back (i + 1)) (by omega) (by omega)]
    simp

/-- The number at a place, in f steps at most. -/
def lubyF : Nat → Nat → Nat
  | 0, _ => 0
  | f + 1, i => if isW i = true then (i + 1) / 2 else lubyF f (back i)

theorem lubyF_more (f g i : Nat) (hf : i ≤ f) (hg : i ≤ g) : lubyF f i = lubyF g i := by
  induction f generalizing g i with
  | zero =>
    obtain rfl : i = 0 := by omega
    cases g with
    | zero => rfl
    | succ g => simp [lubyF, show isW 0 = true by decide]
  | succ f ih =>
    cases h : isW i with
    | true =>
      cases g with
      | zero =>
        obtain rfl : i = 0 := by omega
        simp [lubyF, h]
      | succ g => simp [lubyF, h]
    | false =>
      have hb := (back_lt h).1
      cases g with
      | zero => omega
      | succ g => simp [lubyF, h, ih g (back i) (by omega) (by omega)]

/-- The number at a place. -/
def luby (i : Nat) : Nat := lubyF i i

theorem luby_whole {i : Nat} (h : isW i = true) : luby i = (i + 1) / 2 := by
  cases i with
  | zero => rfl
  | succ i => simp [luby, lubyF, h]
theorem luby_step {i : Nat} (h : isW i = false) : luby i = luby (back i) := by
  have hb := (back_lt h).1
  cases i with
  | zero => omega
  | succ i =>
    simp only [luby, lubyF, h]
    rw [lubyF_more i (back (i + 1)) (back (i + 1)) (by omega) (by omega)]
    simp

theorem luby_le (i : Nat) : luby i ≤ i + 1 := by
  induction i using Nat.strongRecOn with
  | _ i ih =>
    cases h : isW i with
    | true => rw [luby_whole h]; omega
    | false =>
      rw [luby_step h]
      have := ih _ (back_lt h).1
      have := (back_lt h).1
      omega

/-- The last place that is met, or the first. -/
def lastOf (i : Int) (xs : List Int) : Int := xs.getLastD i
theorem lastOf_nil (i : Int) : lastOf i [] = i := rfl
theorem lastOf_snoc (i : Int) (xs : List Int) (x : Int) : lastOf i (xs ++ [x]) = x := by simp [lastOf]
theorem lastOf_cons (i x : Int) (xs : List Int) : lastOf i (x :: xs) = lastOf x xs := by cases xs <;> rfl

theorem last_chain (i : Nat) : ∃ f : Nat, lastOf (i : Int) (chain i) = (f : Int) ∧ f ≤ i ∧ (f + 1) / 2 = luby i := by
  induction i using Nat.strongRecOn with
  | _ i ih =>
    cases h : isW i with
    | true => exact ⟨i, by rw [chain_whole h]; rfl, Nat.le_refl _, (luby_whole h).symm⟩
    | false =>
      obtain ⟨f, e1, e2, e3⟩ := ih _ (back_lt h).1
      have := (back_lt h).1
      exact ⟨f, by rw [chain_step h, lastOf_cons]; exact e1, by omega, by rw [e3, luby_step h]⟩

theorem testBit_top {n k : Nat} (h0 : 2 ^ k ≤ n) (h1 : n < 2 ^ (k + 1)) : n.testBit k = true := by
  have hp : 0 < 2 ^ k := Nat.two_pow_pos k
  have e : n / 2 ^ k = 1 := by
    refine Nat.div_eq_of_lt_le (by omega) ?_
    rw [Nat.pow_succ] at h1; omega
  rw [Nat.testBit_eq_decide_div_mod_eq, e]
  decide

theorem and_whole {i : Nat} (h : isW i = true) : i &&& (i + 1) = 0 := by
  have e := pow_of_isW h
  have e2 : i = 2 ^ (i + 1).log2 - 1 := by omega
  have := Nat.and_two_pow_sub_one_eq_mod (i + 1) (i + 1).log2
  rw [← e2, e, Nat.mod_self] at this
  rw [Nat.and_comm]; exact this

theorem and_not {i : Nat} (h : isW i = false) : i &&& (i + 1) ≠ 0 := by
  obtain ⟨h2, e, h3, h4, h5, h6, h7⟩ := not_isW h
  intro h0
  have t : (i &&& (i + 1)).testBit i.log2 = true := by
    rw [Nat.testBit_and, testBit_top h3 h4, testBit_top (by omega) h7]; rfl
  rw [h0] at t
  simp at t

/-- The document's number at a place, of any number. -/
def termF (i : Int) : Int := if i < 1 ∨ i > 1099511627776 then 0 else (luby i.toNat : Int)

theorem termF_out {i : Int} (h : i < 1 ∨ i > 1099511627776) : termF i = 0 := by simp [termF, h]
theorem termF_in {i : Nat} (h1 : 1 ≤ i) (h2 : i ≤ 1099511627776) : termF (i : Int) = (luby i : Int) := by
  simp only [termF]
  rw [if_neg (by omega)]
  simp

theorem termF_fit (i : Int) : 0 ≤ termF i ∧ termF i ≤ 1099511627777 := by
  unfold termF
  split
  · omega
  · have := luby_le i.toNat; omega

/-- The first n numbers. -/
def rowF (n : Int) : List Int := (List.range (min n 100000).toNat).map (fun j : Nat => termF ((j : Int) + 1))
def rowN (k : Nat) : List Int := (List.range k).map (fun j : Nat => termF ((j : Int) + 1))
theorem rowF_eq (n : Int) : rowF n = rowN (min n 100000).toNat := rfl
theorem rowN_zero : rowN 0 = [] := rfl
theorem rowN_len (k : Nat) : (rowN k).length = k := by simp [rowN]
theorem rowN_succ (k : Nat) : rowN (k + 1) = rowN k ++ [termF ((k : Int) + 1)] := by simp [rowN, List.range_succ]

theorem luby_twice {m a : Nat} (h1 : 1 ≤ a) (h2 : a + 1 ≤ 2 ^ m) : luby (a + (2 ^ m - 1)) = luby a := by
  have hp : 0 < 2 ^ m := Nat.two_pow_pos m
  have e2 : 2 ^ (m + 1) = 2 ^ m + 2 ^ m := by rw [Nat.pow_succ]; omega
  have el : (a + (2 ^ m - 1)).log2 = m := log2_unique (by omega) (by omega)
  have el' : (a + (2 ^ m - 1) + 1).log2 = m := log2_unique (by omega) (by omega)
  have hw : isW (a + (2 ^ m - 1)) = false := by
    simp only [isW, el', decide_eq_false_iff_not]
    omega
  rw [luby_step hw]
  unfold back
  rw [el]
  congr 1
  omega

theorem luby_top (m : Nat) : luby (2 * (2 ^ m - 1) + 1) = 2 ^ m := by
  have hp : 0 < 2 ^ m := Nat.two_pow_pos m
  have e2 : 2 ^ (m + 1) = 2 ^ m + 2 ^ m := by rw [Nat.pow_succ]; omega
  have e : 2 * (2 ^ m - 1) + 1 = 2 ^ (m + 1) - 1 := by omega
  rw [e, luby_whole (isW_pow (m + 1))]
  omega

theorem termF_7 : termF 7 = 4 := by
  show termF ((7 : Nat) : Int) = 4
  rw [termF_in (by decide) (by decide), luby_whole (by decide)]; rfl
theorem termF_0 : termF 0 = 0 := termF_out (by decide)
theorem termF_1 : termF 1 = 1 := by
  show termF ((1 : Nat) : Int) = 1
  rw [termF_in (by decide) (by decide), luby_whole (by decide)]; rfl
theorem termF_3 : termF 3 = 2 := by
  show termF ((3 : Nat) : Int) = 2
  rw [termF_in (by decide) (by decide), luby_whole (by decide)]; rfl
theorem termF_2 : termF 2 = 1 := by
  show termF ((2 : Nat) : Int) = 1
  rw [termF_in (by decide) (by decide), luby_step (by decide), show back 2 = 1 by decide, luby_whole (by decide)]; rfl
theorem rowF_3 : rowF 3 = [1, 1, 2] := by
  show rowN 3 = _
  rw [rowN_succ, rowN_succ, rowN_succ, rowN_zero]
  show [] ++ [termF 1] ++ [termF 2] ++ [termF 3] = _
  rw [termF_1, termF_2, termF_3]; rfl
theorem rowF_none {n : Int} (h : n ≤ 0) : rowF n = [] := by
  rw [rowF_eq, show (min n 100000).toNat = 0 by omega]; rfl

theorem hid {p : Prop} (h : p) : Hid p := h

end Go.Proofs.Ytldhkfknjgnklaa
