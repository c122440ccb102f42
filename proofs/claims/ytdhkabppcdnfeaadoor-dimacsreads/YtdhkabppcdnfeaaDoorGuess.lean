/-
  How the document reads a text: what it may be, as plain functions of lists of bytes. No program stands here.
-/
import Derived.Test.YtdhkabppcdnfeaaDoorText
namespace Go.Proofs.YtdhkabppcdnfeaaDoor
open Go.Lib (decDigits itoa hasPrefix trimPrefix)
set_option linter.unusedVariables false

/-- How many bytes the sign takes. -/
def sg (bs : List UInt8) : Nat := if bs.head? = some 45 then 1 else 0
/-- At most eight digits behind it. -/
def dg8 (bs : List UInt8) : List UInt8 := ((bs.drop (sg bs)).take 8).takeWhile isDig
def rval (bs : List UInt8) : Int := if sg bs = 1 then -(val (dg8 bs) : Int) else val (dg8 bs)
def rlen (bs : List UInt8) : Nat := sg bs + (dg8 bs).length
def rok (bs : List UInt8) : Bool := decide (0 < (dg8 bs).length)

theorem val_lt : ∀ (k : Nat) (ds : List UInt8), ds.length = k → (∀ b ∈ ds, isDig b = true) → val ds < 10 ^ k
  | 0, ds, hk, _ => by have := List.eq_nil_of_length_eq_zero hk; subst this; simp [val]
  | k + 1, ds, hk, hd => by
    have h0 : ds ≠ [] := by intro e; subst e; simp at hk
    obtain ⟨es, d, rfl⟩ : ∃ es d, ds = es ++ [d] := ⟨_, _, (List.dropLast_concat_getLast h0).symm⟩
    have ih := val_lt k es (by simpa using hk) (fun b hb => hd b (by simp [hb]))
    have := (of_dig (hd d (by simp))).2
    rw [val_snoc, Nat.pow_succ]; omega

theorem dg8_len (bs : List UInt8) : (dg8 bs).length ≤ 8 := by
  have h1 := (List.takeWhile_sublist (p := isDig) (l := (bs.drop (sg bs)).take 8)).length_le
  have h2 : ((bs.drop (sg bs)).take 8).length ≤ 8 := by simp; omega
  unfold dg8; omega

theorem rval_bound (bs : List UInt8) : -100000000 < rval bs ∧ rval bs < 100000000 := by
  have h1 := val_lt _ (dg8 bs) rfl (tw_all _)
  have h2 : 10 ^ (dg8 bs).length ≤ 10 ^ 8 := Nat.pow_le_pow_right (by omega) (dg8_len bs)
  have h3 : (10 : Nat) ^ 8 = 100000000 := by decide
  unfold rval
  split <;> omega

theorem rlen_le (bs : List UInt8) : rlen bs ≤ bs.length := by
  have h1 := (List.takeWhile_sublist (p := isDig) (l := (bs.drop (sg bs)).take 8)).length_le
  have h2 : sg bs ≤ bs.length := by
    unfold sg
    split
    · rename_i h
      have : bs ≠ [] := by intro e; subst e; simp at h
      have := List.length_pos_iff.2 this
      omega
    · omega
  have h3 : (dg8 bs).length ≤ bs.length - sg bs := by
    unfold dg8
    simp only [List.length_take, List.length_drop] at h1
    omega
  unfold rlen; omega

theorem lits_long (c : List Int) : c.length ≤ (c.flatMap litT).length := by
  induction c with
  | nil => simp
  | cons y c ih => simp only [List.flatMap_cons, litT, List.length_append, List.length_cons, List.length_nil] at *; omega
theorem lines_long (l : List (List Int)) : l.length ≤ (l.flatMap clT).length := by
  induction l with
  | nil => simp
  | cons c l ih => simp only [List.flatMap_cons, clT, List.length_append, List.length_cons, List.length_nil] at *; omega

/-- What is read of digits that are few. -/
theorem dg8_dec {ds r : List UInt8} (hd : ∀ b ∈ ds, isDig b = true) (hl : ds.length ≤ 8) (hr : nd r) : ((ds ++ r).take 8).takeWhile isDig = ds := by
  rw [List.take_append, List.take_of_length_le hl]
  apply tw_app hd
  intro b hb
  cases hk : 8 - ds.length with
  | zero => rw [hk] at hb; simp at hb
  | succ k => rw [hk] at hb
              cases r with
              | nil => simp at hb
              | cons c r => simp at hb; subst hb; exact hr c rfl

theorem dec_len7 {n : Nat} (h : n ≤ 1048576) : (decDigits n).length ≤ 7 := by
  rw [Go.Lib.decDigits_length]
  by_cases h1 : n < 10; · rw [Go.Lib.nDigits_small h1]; omega
  rw [Go.Lib.nDigits_big h1]
  by_cases h2 : n / 10 < 10; · rw [Go.Lib.nDigits_small h2]; omega
  rw [Go.Lib.nDigits_big h2]
  by_cases h3 : n / 10 / 10 < 10; · rw [Go.Lib.nDigits_small h3]; omega
  rw [Go.Lib.nDigits_big h3]
  by_cases h4 : n / 10 / 10 / 10 < 10; · rw [Go.Lib.nDigits_small h4]; omega
  rw [Go.Lib.nDigits_big h4]
  by_cases h5 : n / 10 / 10 / 10 / 10 < 10; · rw [Go.Lib.nDigits_small h5]; omega
  rw [Go.Lib.nDigits_big h5]
  by_cases h6 : n / 10 / 10 / 10 / 10 / 10 < 10; · rw [Go.Lib.nDigits_small h6]; omega
  rw [Go.Lib.nDigits_big h6, Go.Lib.nDigits_small (by omega)]
  omega

theorem r_dec {n : Nat} {r : List UInt8} (h : n ≤ 1048576) (hr : nd r) : rval (decDigits n ++ r) = n ∧ rlen (decDigits n ++ r) = (decDigits n).length ∧ rok (decDigits n ++ r) = true := by
  obtain ⟨h1, h2, h3, h4⟩ := dec_facts n
  have e0 : sg (decDigits n ++ r) = 0 := by
    obtain ⟨b, t, e, hb⟩ := dec_head_dig (n := n) (r := r)
    unfold sg
    rw [e, if_neg]
    simp only [List.head?_cons, Option.some.injEq]
    rintro rfl
    simp [isDig] at hb
  have e1 : dg8 (decDigits n ++ r) = decDigits n := by
    unfold dg8; rw [e0, List.drop_zero]; exact dg8_dec h2 (Nat.le_trans (dec_len7 h) (by omega)) hr
  have h5 : 0 < (decDigits n).length := List.length_pos_iff.2 h3
  refine ⟨?_, ?_, ?_⟩
  · unfold rval; rw [e0, e1, h1]; simp
  · unfold rlen; rw [e0, e1]; simp
  · unfold rok; rw [e1]; simpa using h5

theorem r_neg {n : Nat} {r : List UInt8} (h : n ≤ 1048576) (hr : nd r) : rval (45 :: (decDigits n ++ r)) = -(n : Int) ∧ rlen (45 :: (decDigits n ++ r)) = 1 + (decDigits n).length ∧ rok (45 :: (decDigits n ++ r)) = true := by
  obtain ⟨h1, h2, h3, h4⟩ := dec_facts n
  have e0 : sg (45 :: (decDigits n ++ r)) = 1 := by unfold sg; simp
  have e1 : dg8 (45 :: (decDigits n ++ r)) = decDigits n := by
    unfold dg8; rw [e0, List.drop_succ_cons, List.drop_zero]; exact dg8_dec h2 (Nat.le_trans (dec_len7 h) (by omega)) hr
  have h5 : 0 < (decDigits n).length := List.length_pos_iff.2 h3
  refine ⟨?_, ?_, ?_⟩
  · unfold rval; rw [e0, e1, h1]; simp
  · unfold rlen; rw [e0, e1]
  · unfold rok; rw [e1]; simpa using h5

theorem r_lit {x : Int} {r : List UInt8} (h0 : 0 ≤ x) (h1 : x < 2097152) (hr : nd r) : rval (itoa (numF x) ++ r) = numF x ∧ rlen (itoa (numF x) ++ r) = (itoa (numF x)).length ∧ rok (itoa (numF x) ++ r) = true := by
  by_cases h : x % 2 = 1
  · rw [num_odd h0 h, Go.Lib.itoa_neg _ (by omega)]
    obtain ⟨a, b, c⟩ := r_neg (n := x.toNat / 2 + 1) (r := r) (by omega) hr
    refine ⟨a, ?_, c⟩
    rw [show 45 :: decDigits (x.toNat / 2 + 1) ++ r = 45 :: (decDigits (x.toNat / 2 + 1) ++ r) from rfl, b, List.length_cons]; omega
  · rw [num_even h0 h, Go.Lib.itoa_nonneg]
    exact r_dec (by omega) hr

theorem of_num {x : Int} (h0 : 0 ≤ x) (h1 : x < 2097152) : errF (vofF (numF x)) = 0 ∧ makF (vofF (numF x)) (sofF (numF x)) = x := by
  by_cases h : x % 2 = 1
  · have e : numF x = -(x / 2 + 1) := by simp only [numF]; rw [if_neg (by omega), if_pos h]
    have e1 : vofF (numF x) = x / 2 := by rw [e]; simp only [vofF]; rw [if_pos (by omega)]; omega
    have e2 : sofF (numF x) = true := by rw [e]; simp only [sofF, decide_eq_true_eq]; omega
    have e3 : ¬ badF (x / 2) := by unfold badF; omega
    rw [e1, e2, errF, makF, if_neg e3, if_neg e3]
    refine ⟨rfl, ?_⟩
    simp only [bitF, if_true]; omega
  · have e : numF x = x / 2 + 1 := by simp only [numF]; rw [if_neg (by omega), if_neg h]
    have e1 : vofF (numF x) = x / 2 := by rw [e]; simp only [vofF]; rw [if_neg (by omega)]; omega
    have e2 : sofF (numF x) = false := by rw [e]; simp only [sofF, decide_eq_false_iff_not]; omega
    have e3 : ¬ badF (x / 2) := by unfold badF; omega
    rw [e1, e2, errF, makF, if_neg e3, if_neg e3]
    refine ⟨rfl, ?_⟩
    simp [bitF]; omega

/-! ### Lines -/
def glits (s : List UInt8) : Nat → Nat → Option (List Int × Nat)
  | 0, _ => none
  | k + 1, at_ => if at_ < s.length then
      (if rok (s.drop at_) = true then
        (if errF (vofF (rval (s.drop at_))) = 0 then (glits s k (at_ + rlen (s.drop at_) + 1)).map (fun p => (makF (vofF (rval (s.drop at_))) (sofF (rval (s.drop at_))) :: p.1, p.2))
          else some ([], at_ + rlen (s.drop at_) + 1))
        else none)
      else some ([], at_)
def gclause (s : List UInt8) (at_ : Nat) : Option (List Int × Nat) := glits s (s.length + 2) at_

def grows (s : List UInt8) (at_ : Nat) : Nat → Option (List (List Int) × Nat)
  | 0 => some ([], at_)
  | k + 1 => match grows s at_ k with
    | none => none
    | some (l, a) => match gclause s a with
      | none => none
      | some (c, a') => some (l ++ [c], a')

theorem grows_none {s : List UInt8} {at_ : Nat} : ∀ {n k : Nat}, grows s at_ k = none → k ≤ n → grows s at_ n = none
  | 0, k, h, hk => by obtain rfl : k = 0 := by omega
                      exact h
  | n + 1, k, h, hk => by
    by_cases e : k = n + 1
    · subst e; exact h
    · have := grows_none (n := n) h (by omega)
      simp only [grows]; rw [this]

theorem r_end (r : List UInt8) : rval ([48, 10] ++ r) = 0 ∧ rlen ([48, 10] ++ r) = 1 ∧ rok ([48, 10] ++ r) = true := by
  have e : ([48, 10] ++ r : List UInt8) = decDigits 0 ++ 10 :: r := by rw [Go.Lib.decDigits_one (by omega)]; rfl
  have := r_dec (n := 0) (r := 10 :: r) (by omega) (nd_end r)
  rw [e, this.1, this.2.1, this.2.2, Go.Lib.decDigits_one (by omega)]
  exact ⟨rfl, rfl, rfl⟩

theorem glits_text {vars : Nat} (hv : vars ≤ 1048576) {s : List UInt8} : ∀ (c : List Int) (k at_ : Nat) (r : List UInt8), okC vars c → c.length < k → s.drop at_ = clT c ++ r → glits s k at_ = some (c, at_ + (clT c).length)
  | [], 0, at_, r, _, hk, _ => by simp at hk
  | [], k + 1, at_, r, _, hk, h => by
    have hl : at_ < s.length := by
      have := congrArg List.length h
      simp [clT] at this; omega
    obtain ⟨e1, e2, e3⟩ := r_end r
    have e : s.drop at_ = [48, 10] ++ r := h
    simp only [glits]
    rw [if_pos hl, e, e1, e2, e3, if_pos rfl, if_neg (by decide)]
    rfl
  | x :: c, 0, at_, r, _, hk, _ => by simp at hk
  | x :: c, k + 1, at_, r, hc, hk, h => by
    obtain ⟨x0, x1⟩ := hc x (by simp)
    have hl : at_ < s.length := by
      have := congrArg List.length h
      simp [clT, litT] at this; omega
    have e : s.drop at_ = itoa (numF x) ++ 32 :: (clT c ++ r) := by rw [h]; simp [clT, litT]
    obtain ⟨e1, e2, e3⟩ := r_lit x0 (by omega) (nd_blank (clT c ++ r))
    obtain ⟨f1, f2⟩ := of_num x0 (by omega)
    have hn : s.drop (at_ + (itoa (numF x)).length + 1) = clT c ++ r := by
      have e4 : s.drop (at_ + (itoa (numF x)).length + 1) = (s.drop at_).drop ((itoa (numF x)).length + 1) := by rw [List.drop_drop]; congr 1
      rw [e4, e, List.drop_append]
      simp
    have ih := glits_text hv c k (at_ + (itoa (numF x)).length + 1) r (fun y hy => hc y (by simp [hy])) (by simpa using hk) hn
    simp only [glits]
    rw [if_pos hl, e, e1, e2, e3, if_pos rfl, if_pos f1, f2, ih]
    simp [clT, litT]; omega

theorem grows_text {vars : Nat} (hv : vars ≤ 1048576) {s : List UInt8} {at_ : Nat} : ∀ (n : Nat) (l : List (List Int)) (r : List UInt8), l.length = n → (∀ c ∈ l, okC vars c) → s.drop at_ = l.flatMap clT ++ r → grows s at_ n = some (l, at_ + (l.flatMap clT).length)
  | 0, l, r, hn, _, _ => by
    have := List.eq_nil_of_length_eq_zero hn
    subst this; rfl
  | n + 1, l, r, hn, hc, h => by
    have h0 : l ≠ [] := by intro e; subst e; simp at hn
    obtain ⟨l', c, rfl⟩ : ∃ es d, l = es ++ [d] := ⟨_, _, (List.dropLast_concat_getLast h0).symm⟩
    have e : s.drop at_ = l'.flatMap clT ++ (clT c ++ r) := by rw [h]; simp
    have ih := grows_text hv n l' (clT c ++ r) (by simpa using hn) (fun x hx => hc x (by simp [hx])) e
    have e2 : s.drop (at_ + (l'.flatMap clT).length) = clT c ++ r := by
      rw [← List.drop_drop, e, List.drop_append]; simp
    have hlen : c.length < s.length + 2 := by
      have h1 := congrArg List.length e2
      have h2 := lits_long c
      simp only [List.length_drop, List.length_append, clT, List.length_cons, List.length_nil] at h1
      omega
    simp only [grows]
    rw [ih]
    simp only [gclause]
    rw [glits_text hv c _ _ r (hc c (by simp)) hlen e2]
    simp; omega

/-! ### The whole -/
def gat1 (s : List UInt8) : Nat := 6 + rlen (s.drop 6)
def gat2 (s : List UInt8) : Nat := gat1 s + 1 + rlen (s.drop (gat1 s + 1))
def gcount (s : List UInt8) : Int := rval (s.drop (gat1 s + 1))
def gbad (s : List UInt8) : Bool := !(hasPrefix s kindT) || !(rok (s.drop 6)) || !(rok (s.drop (gat1 s + 1))) || decide (gcount s < 0) || decide ((s.length : Int) < gcount s)
def guessP (s : List UInt8) : Option (Int × List (List Int)) :=
  if gbad s = true then none else
  match grows s (gat2 s + 1) (gcount s).toNat with
  | none => none
  | some (l, _) => some (rval (s.drop 6), l)

theorem guess_text {v : Nat} {l : List (List Int)} (h : Good v l) : guessP (textT v l) = some ((v : Int), l) := by
  obtain ⟨hv, hl, hc⟩ := h
  have hk : hasPrefix (textT v l) kindT = true := by
    have : textT v l = kindT ++ (decDigits v ++ 32 :: (decDigits l.length ++ [10]) ++ l.flatMap clT) := by simp [textT, headT]
    rw [this]; exact hp_app _ _
  have d6 : (textT v l).drop 6 = decDigits v ++ 32 :: (decDigits l.length ++ 10 :: l.flatMap clT) := by
    simp [textT, headT, kindT]
  obtain ⟨a1, a2, a3⟩ := r_dec (n := v) (r := 32 :: (decDigits l.length ++ 10 :: l.flatMap clT)) hv (nd_blank _)
  rw [← d6] at a1 a2 a3
  have d7 : (textT v l).drop (gat1 (textT v l) + 1) = decDigits l.length ++ 10 :: l.flatMap clT := by
    unfold gat1
    rw [a2, show 6 + (decDigits v).length + 1 = 6 + ((decDigits v).length + 1) by omega, ← List.drop_drop, d6, List.drop_append]
    simp
  obtain ⟨b1, b2, b3⟩ := r_dec (n := l.length) (r := 10 :: l.flatMap clT) hl (nd_end _)
  rw [← d7] at b1 b2 b3
  have d8 : (textT v l).drop (gat2 (textT v l) + 1) = l.flatMap clT ++ [] := by
    unfold gat2
    rw [b2, show gat1 (textT v l) + 1 + (decDigits l.length).length + 1 = (gat1 (textT v l) + 1) + ((decDigits l.length).length + 1) by omega, ← List.drop_drop, d7, List.drop_append]
    simp
  have hlen : l.length ≤ (textT v l).length := by
    have h1 := lines_long l
    unfold textT; rw [List.length_append]; omega
  have hb : gbad (textT v l) = false := by
    unfold gbad gcount
    rw [hk, a3, b3, b1]
    simp
    omega
  unfold guessP
  rw [if_neg (by simp [hb])]
  have e : (gcount (textT v l)).toNat = l.length := by unfold gcount; rw [b1]; simp
  rw [e, grows_text hv l.length l [] rfl hc d8, a1]

end Go.Proofs.YtdhkabppcdnfeaaDoor
