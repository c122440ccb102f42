/-
  The row 1 1 2 (stage 9): Math, Walks, Back, Term.
-/
import Derived.Handy
import Derived.Below
import Derived.Lib.Walk
import Derived.Lib.BitFns
import Derived.Laws.BitsLemmas
import Derived.WalkKit
import Derived.ProofKit
import Derived.RangeFuncBox
import Derived.RangeFuncLeaves
import Derived.RangeFuncFrom
import Derived.RangeFuncCalls
import Derived.Shelf.Abstract
import Derived.OwnWalkIn
import Derived.TacticsInMore
import Derived.LoopNIn
import Derived.LoopIn
import Derived.Test.YtimfjoinjfecjaaGreatProg

namespace Go.Proofs.YtimfjoinjfecjaaGreat.Ly
open Go.RowKit
set_option linter.unusedVariables false

/-- The place is 2^k - 1. -/
def isW (i : Nat) : Bool := decide (2 ^ (i + 1).log2 = i + 1)

theorem pow_of_isW {i : Nat} (h : isW i = true) : 2 ^ (i + 1).log2 = i + 1 := by simpa [isW] using h
theorem log2_unique {n k : Nat} (h0 : 2 ^ k ≤ n) (h1 : n < 2 ^ (k + 1)) : n.log2 = k := by
  have hp : 0 < 2 ^ k := Nat.two_pow_pos k
  exact (Nat.log2_eq_iff (by omega)).2 ⟨h0, h1⟩

theorem not_isW {i : Nat} (h : isW i = false) : 2 ≤ i ∧ (i + 1).log2 = i.log2 ∧ 2 ^ i.log2 ≤ i ∧ i < 2 ^ (i.log2 + 1) ∧ 2 ≤ 2 ^ i.log2 ∧ 2 ^ i.log2 ≠ i + 1 ∧ i + 1 < 2 ^ (i.log2 + 1) := by
  have h2 : 2 ≤ i := by
    match i, h with
    | 0, h => revert h; decide
    | 1, h => revert h; decide
    | (n + 2), _ => omega
  have hn : 2 ^ (i + 1).log2 ≠ i + 1 := by simpa [isW] using h
  have a := Nat.log2_self_le (n := i + 1) (by omega)
  have b : i + 1 < 2 ^ ((i + 1).log2 + 1) := Nat.lt_log2_self
  have e : i.log2 = (i + 1).log2 := log2_unique (by omega) (by omega)
  have h1 : 1 ≤ i.log2 := by
    have := (Nat.le_log2 (n := i) (k := 1) (by omega)).2 (by omega)
    exact this
  have h3 : 2 ^ 1 ≤ 2 ^ i.log2 := Nat.pow_le_pow_right (by decide) h1
  rw [e] at h3 ⊢
  exact ⟨h2, rfl, by omega, by omega, by omega, by omega, b⟩

/-- One place back. -/
def back (i : Nat) : Nat := i + 1 - 2 ^ i.log2

theorem back_lt {i : Nat} (h : isW i = false) : back i < i ∧ 1 ≤ back i ∧ i = back i + (2 ^ i.log2 - 1) := by
  obtain ⟨h2, _, h3, _, h4, _⟩ := not_isW h
  unfold back
  omega

/-- All places that are met, f at most. -/
def chainF : Nat → Nat → List Int
  | 0, _ => []
  | f + 1, i => if isW i = true then [] else (back i : Int) :: chainF f (back i)

theorem chainF_more (f g i : Nat) (hf : i ≤ f) (hg : i ≤ g) : chainF f i = chainF g i := by
  induction f generalizing g i with
  | zero =>
    obtain rfl : i = 0 := by omega
    cases g with
    | zero => rfl
    | succ g => simp [chainF, show isW 0 = true by decide]
  | succ f ih =>
    cases h : isW i with
    | true =>
      cases g with
      | zero => simp [chainF, h]
      | succ g => simp [chainF, h]
    | false =>
      have hb := (back_lt h).1
      cases g with
      | zero => omega
      | succ g => simp [chainF, h, ih g (back i) (by omega) (by omega)]

/-- All places that are met. -/
def chain (i : Nat) : List Int := chainF i i

theorem chain_whole {i : Nat} (h : isW i = true) : chain i = [] := by
  cases i with
  | zero => rfl
  | succ i => simp [chain, chainF, h]
theorem chain_step {i : Nat} (h : isW i = false) : chain i = (back i : Int) :: chain (back i) := by
  have hb := (back_lt h).1
  cases i with
  | zero => omega
  | succ i =>
    simp only [chain, chainF, h]
    rw [chainF_more i (back (i + 1)) (back (i + 1)) (by omega) (by omega)]
    simp

/-- The number at a place, in f steps at most. -/
def lubyF : Nat → Nat → Nat
  | 0, _ => 0
  | f + 1, i => if isW i = true then (i + 1) / 2 else lubyF f (back i)

theorem lubyF_more (f g i : Nat) (hf : i ≤ f) (hg : i ≤ g) : lubyF f i = lubyF g i := by
  induction f generalizing g i with
  | zero =>
    obtain rfl : i = 0 := by omega
    cases g with
    | zero => rfl
    | succ g => simp [lubyF, show isW 0 = true by decide]
  | succ f ih =>
    cases h : isW i with
    | true =>
      cases g with
      | zero =>
        obtain rfl : i = 0 := by omega
        simp [lubyF, h]
      | succ g => simp [lubyF, h]
    | false =>
      have hb := (back_lt h).1
      cases g with
      | zero => omega
      | succ g => simp [lubyF, h, ih g (back i) (by omega) (by omega)]

/-- The number at a place. -/
def luby (i : Nat) : Nat := lubyF i i

theorem luby_whole {i : Nat} (h : isW i = true) : luby i = (i + 1) / 2 := by
  cases i with
  | zero => rfl
  | succ i => simp [luby, lubyF, h]
theorem luby_step {i : Nat} (h : isW i = false) : luby i = luby (back i) := by
  have hb := (back_lt h).1
  cases i with
  | zero => omega
  | succ i =>
    simp only [luby, lubyF, h]
    rw [lubyF_more i (back (i + 1)) (back (i + 1)) (by omega) (by omega)]
    simp

theorem luby_le (i : Nat) : luby i ≤ i + 1 := by
  induction i using Nat.strongRecOn with
  | _ i ih =>
    cases h : isW i with
    | true => rw [luby_whole h]; omega
    | false =>
      rw [luby_step h]
      have := ih _ (back_lt h).1
      have := (back_lt h).1
      omega

/-- The last place that is met, or the first. -/
def lastOf (i : Int) (xs : List Int) : Int := xs.getLastD i
theorem lastOf_snoc (i : Int) (xs : List Int) (x : Int) : lastOf i (xs ++ [x]) = x := by simp [lastOf]
theorem lastOf_cons (i x : Int) (xs : List Int) : lastOf i (x :: xs) = lastOf x xs := by cases xs <;> rfl

theorem last_chain (i : Nat) : ∃ f : Nat, lastOf (i : Int) (chain i) = (f : Int) ∧ f ≤ i ∧ (f + 1) / 2 = luby i := by
  induction i using Nat.strongRecOn with
  | _ i ih =>
    cases h : isW i with
    | true => exact ⟨i, by rw [chain_whole h]; rfl, Nat.le_refl _, (luby_whole h).symm⟩
    | false =>
      obtain ⟨f, e1, e2, e3⟩ := ih _ (back_lt h).1
      have := (back_lt h).1
      exact ⟨f, by rw [chain_step h, lastOf_cons]; exact e1, by omega, by rw [e3, luby_step h]⟩

theorem testBit_top {n k : Nat} (h0 : 2 ^ k ≤ n) (h1 : n < 2 ^ (k + 1)) : n.testBit k = true := by
  have hp : 0 < 2 ^ k := Nat.two_pow_pos k
  have e : n / 2 ^ k = 1 := by
    refine Nat.div_eq_of_lt_le (by omega) ?_
    rw [Nat.pow_succ] at h1; omega
  rw [Nat.testBit_eq_decide_div_mod_eq, e]
  decide

theorem and_whole {i : Nat} (h : isW i = true) : i &&& (i + 1) = 0 := by
  have e := pow_of_isW h
  have e2 : i = 2 ^ (i + 1).log2 - 1 := by omega
  have := Nat.and_two_pow_sub_one_eq_mod (i + 1) (i + 1).log2
  rw [← e2, e, Nat.mod_self] at this
  rw [Nat.and_comm]; exact this

theorem and_not {i : Nat} (h : isW i = false) : i &&& (i + 1) ≠ 0 := by
  obtain ⟨h2, e, h3, h4, h5, h6, h7⟩ := not_isW h
  intro h0
  have t : (i &&& (i + 1)).testBit i.log2 = true := by
    rw [Nat.testBit_and, testBit_top h3 h4, testBit_top (by omega) h7]; rfl
  rw [h0] at t
  simp at t

/-- The document's number at a place, of any number. -/
def termF (i : Int) : Int := if i < 1 ∨ i > 1099511627776 then 0 else (luby i.toNat : Int)

theorem termF_out {i : Int} (h : i < 1 ∨ i > 1099511627776) : termF i = 0 := by simp [termF, h]
theorem termF_in {i : Nat} (h1 : 1 ≤ i) (h2 : i ≤ 1099511627776) : termF (i : Int) = (luby i : Int) := by
  simp only [termF]
  rw [if_neg (by omega)]
  simp

theorem hid {p : Prop} (h : p) : Hid p := h

end Go.Proofs.YtimfjoinjfecjaaGreat.Ly

namespace Go.Proofs.YtimfjoinjfecjaaGreat.Ly
open Go.RowKit
set_option linter.unusedVariables false

theorem i64_and_nat (a b : Nat) (ha : a < 9223372036854775808) (hb : b < 9223372036854775808) :
    bits .and .i64 (a : Int) (b : Int) = ((a &&& b : Nat) : Int) := by
  have hx : a &&& b < 2 ^ 63 := Nat.and_lt_two_pow _ (by omega)
  have h1 : (BitVec.ofInt 64 (a : Int)).toNat = a := by
    rw [BitVec.ofInt_natCast, BitVec.toNat_ofNat]; exact Nat.mod_eq_of_lt (by omega)
  have h2 : (BitVec.ofInt 64 (b : Int)).toNat = b := by
    rw [BitVec.ofInt_natCast, BitVec.toNat_ofNat]; exact Nat.mod_eq_of_lt (by omega)
  show IntKind.i64.wrap ((BitVec.ofInt 64 (a : Int) &&& BitVec.ofInt 64 (b : Int)).toNat : Int) = _
  rw [BitVec.toNat_and, h1, h2, IntKind.wrap_i64]
  omega

theorem whole_any (i : Nat) (h : i ≤ 1099511627776) (w : World) :
    Calls Tryz.prog 108 #[.int .i64 i] w fun e w' => e = .returned (.bool (isW i)) ∧ w' = w := by
  have hb := i64_and_nat i (i + 1) (by omega) (by omega)
  push_cast at hb
  cases hi : isW i with
  | true =>
    rw [and_whole hi] at hb
    go_enter Tryz.func108, Tryz.ntmps108
    go_wp2
    go_ret
    exact ⟨rfl, rfl⟩
  | false =>
    have hn : (((i &&& (i + 1) : Nat) : Int) == 0) = false := by simpa using and_not hi
    go_enter Tryz.func108, Tryz.ntmps108
    go_wp2
    go_ret
    exact ⟨rfl, rfl⟩

theorem bitLen_log {x : Nat} (h : x < 2 ^ 64) (h0 : x ≠ 0) : Lib.bitLen x = x.log2 + 1 := by
  induction x using Nat.strongRecOn with
  | _ x ih =>
    rw [Lib.bitLen_half x h0 h, Nat.log2_def]
    by_cases h1 : 2 ≤ x
    · rw [if_pos h1, ih (x / 2) (by omega) (by omega) (by omega)]; omega
    · obtain rfl : x = 1 := by omega
      decide

theorem tab_of (A B C D : List UInt8) (h : (A.append B).append (C.append D) = Lib.len8tab.data.toList) : (ByteArray.mk ((A.append B).append (C.append D)).toArray) = Lib.len8tab := by
  rw [h]

/-- A table of bytes that tells how many bits a number below 256 has. -/
def Tab (T : ByteArray) : Prop := T.size = 256 ∧ ∀ (y : Int) (h : y.toNat < T.size), 0 ≤ y → ((T[y.toNat]'h).toNat : Int) = (Lib.bitLen y.toNat : Int) ∧ Lib.bitLen y.toNat ≤ 8

theorem tab_len8 : ∃ T, Lib.len8tab = T ∧ Tab T := by
  refine ⟨_, rfl, Lib.len8tab_size, fun y h h0 => ?_⟩
  have hs := Lib.len8tab_size
  refine ⟨?_, Lib.bitLen_le8' y h0 (by omega)⟩
  rw [← Lib.len8_of y h0 (by omega)]
  unfold Lib.len8
  rw [getElem?_pos Lib.len8tab y.toNat h]
  rfl

theorem tab_end {T : ByteArray} (hT : Tab T) (k : Nat) (x y : Int) (h : y.toNat < T.size) (h0 : 0 ≤ y) (hk : k ≤ 56) (hx : x.toNat < 2 ^ 64) (hle : 2 ^ k ≤ x.toNat) (e : y.toNat = x.toNat / 2 ^ k) :
    wrap64 ((k : Int) + wrap64 ((T[y.toNat]'h).toNat : Int)) = (Lib.bitLen x.toNat : Int) := by
  obtain ⟨e1, e2⟩ := hT.2 y h h0
  have e3 := Lib.bitLen_shift k x.toNat hle hx
  rw [e1, e3, ← e]
  clear e1 e3 e hle hx
  generalize Lib.bitLen y.toNat = b at e2
  unfold wrap64
  omega

theorem tab_end0 {T : ByteArray} (hT : Tab T) (y : Int) (h : y.toNat < T.size) (h0 : 0 ≤ y) : wrap64 (wrap64 ((T[y.toNat]'h).toNat : Int)) = (Lib.bitLen y.toNat : Int) := by
  obtain ⟨e1, e2⟩ := hT.2 y h h0
  rw [e1]
  generalize Lib.bitLen y.toNat = b at e2
  unfold wrap64
  omega

set_option maxHeartbeats 4000000 in
set_option maxRecDepth 100000 in
theorem len64_any (x : Int) (h0 : 1 ≤ x) (h : x ≤ 1099511627776) (w : World) :
    Calls Tryz.prog 137 #[.int .u64 x] w fun e w' => e = .returned (.int .i64 (Lib.bitLen x.toNat)) ∧ w' = w := by
  obtain ⟨T, eT, hT⟩ := tab_len8
  have hs := hT.1
  go_enter Tryz.func137, Tryz.ntmps137
  rw [tab_of]
  case h => decide +kernel
  rw [eT]
  clear eT
  go_wp2
  all_goals first
    | (go_ret; refine ⟨congrArg Ending.returned (congrArg (Value.int IntKind.i64) ?_), rfl⟩)
    | (exfalso; omega)
  · exact tab_end hT 40 x _ _ (by omega) (by decide) (by omega) (by omega) (by omega)
  · exact tab_end hT 32 x _ _ (by omega) (by decide) (by omega) (by omega) (by omega)
  · exact tab_end hT 24 x _ _ (by omega) (by decide) (by omega) (by omega) (by omega)
  · exact tab_end hT 16 x _ _ (by omega) (by decide) (by omega) (by omega) (by omega)
  · exact tab_end hT 8 x _ _ (by omega) (by decide) (by omega) (by omega) (by omega)
  · exact tab_end0 hT x _ (by omega)

theorem len_any (i : Nat) (h0 : 1 ≤ i) (h : i ≤ 1099511627776) (w : World) :
    Calls Tryz.prog 109 #[.int .u64 i] w fun e w' => e = .returned (.int .i64 ((i.log2 + 1 : Nat) : Int)) ∧ w' = w := by
  have c : ∀ w, Calls Tryz.prog 137 #[.int .u64 i] w fun e w' => e = .returned (.int .i64 ((i.log2 + 1 : Nat) : Int)) ∧ w' = w := fun w => by
    have c0 := len64_any (i : Int) (by omega) (by omega) w
    rw [Int.toNat_natCast, bitLen_log (by omega) (by omega)] at c0
    exact c0
  go_enter Tryz.func109, Tryz.ntmps109
  go_wp2_with (go_at_call 137; with_reducible (refine (c _).mono ?_); rintro e w1 ⟨rfl, rfl⟩)
  go_ret
  exact ⟨rfl, rfl⟩

end Go.Proofs.YtimfjoinjfecjaaGreat.Ly

namespace Go.Proofs.YtimfjoinjfecjaaGreat.Ly
open Go.RowKit Go.Shelf
set_option linter.unusedVariables false

attribute [local go_sem] Oper.semAt_some

theorem step_facts {k : Nat} (hk : isW k = false) (k2 : k ≤ 1099511627776) : ∃ L p : Nat, k.log2 = L ∧ (2 : Int) ^ L = (p : Int) ∧ (L : Int) ≤ 40 ∧ 2 ≤ p ∧ p ≤ k ∧ Hid (chain k = (back k : Int) :: chain (back k)) ∧ Hid ((k : Int) - ((p : Int) - 1) = (back k : Int)) ∧ Hid (1 ≤ back k ∧ back k < k) := by
  obtain ⟨h2, _, h3, _, h4, _⟩ := not_isW hk
  obtain ⟨b1, b2, b3⟩ := back_lt hk
  have hL : k.log2 ≤ 40 := by
    refine Nat.le_of_lt_succ ((Nat.log2_lt (by omega)).2 (Nat.lt_of_le_of_lt k2 (by decide)))
  refine ⟨_, 2 ^ k.log2, rfl, by push_cast; rfl, by omega, h4, h3, chain_step hk, ?_, b2, b1⟩
  show (k : Int) - (((2 ^ k.log2 : Nat) : Int) - 1) = (back k : Int)
  generalize 2 ^ k.log2 = p at *
  omega

set_option maxRecDepth 100000 in
set_option maxHeartbeats 1000000 in
theorem back1_in (n : Nat) (hn : 1 ≤ n) (l Bn n₀ i : Nat) (h1 : 1 ≤ i) (h2 : i ≤ 1099511627776) (J Jx : List Int → World → Prop)
    (hY : ∀ pre x W, J pre W → pre.length < (chain i).length → YieldAt Fence.wide (n - 1) Tryz.prog l #[.int .i64 x] W fun e W' =>
      (e = .returned (.bool true) ∧ J (pre ++ [x]) W' ∧ Below n₀ W W') ∨ (e = .returned (.bool false) ∧ Jx (pre ++ [x]) W'))
    (W : World) (hBn : W.cell? ⟨Bn, 0, none⟩ = some (.int .i64 i)) (h0 : J [] W) :
    CallsIn Fence.wide n Tryz.prog 107 #[.func (.yield l) #[] #[], .pointer (some ⟨Bn, 0, none⟩)] W fun e W' => (∃ v, e = .returned v) ∧
      ((∃ ys, ys = chain i ∧ J ys W') ∨ (∃ pre, pre <+: chain i ∧ Jx pre W')) := by
  refine callsIn_of_wp Tryz.func107 rfl trivial ?_ rfl
  simp only [Tryz.ntmps107, List.size_toArray, List.length_cons, List.length_nil, Nat.reduceAdd, Nat.reduceSub, Array.replicate_succ, Array.replicate_zero, List.push_toArray, List.append_toArray, List.nil_append, List.cons_append]
  gi_wp2
  gi_loopw [3] (fun p wr => ∃ (pre : List Int) (k : Nat), p = .int .i64 k ∧ 1 ≤ k ∧ k ≤ 1099511627776 ∧ Hid (chain i = pre ++ chain k) ∧ J pre wr)
    (fun p _ => (intOf p).toNat)
  case atStart =>
    exact ⟨[], i, rfl, h1, h2, rfl, h0⟩
  case round =>
    obtain ⟨pre, k, rfl, k1, k2, hx, hJs⟩ := hrel
    cases hk : isW k with
    | true =>
      gi_wp2_with (refine ⟨trivial, ?_⟩; gi_at_call 108; refine (callsIn_wide.2 (whole_any k k2 _)).mono ?_; rintro e w' ⟨rfl, rfl⟩)
      go_end0
      exact ⟨⟨_, rfl⟩, .inl ⟨pre, by rw [hx.out, chain_whole hk, List.append_nil], hJs⟩⟩
    | false =>
      obtain ⟨L, p, eL, hp, L40, p1, p2, hb1, hb2, hb3⟩ := step_facts hk k2
      obtain ⟨fn, tmps, assign, body, hy, hR⟩ := hY pre ((k : Int) - ((p : Int) - 1)) wr hJs (by rw [hx.out, chain_step hk]; simp)
      have lc : ∀ w, Calls Tryz.prog 109 #[.int .u64 k] w fun e w' => e = .returned (.int .i64 ((L : Int) + 1)) ∧ w' = w := fun w => by
        have c := len_any k k1 k2 w
        rw [eL, Int.natCast_add] at c
        exact c
      gi_wp2_with (first | (refine ⟨trivial, ?_⟩; gi_at_call 108; refine (callsIn_wide.2 (whole_any k k2 _)).mono ?_; rintro e w' ⟨rfl, rfl⟩) | (refine ⟨trivial, ?_⟩; gi_at_call 109; refine (callsIn_wide.2 (lc _)).mono ?_; rintro e w' ⟨rfl, rfl⟩))
      refine hR.mono ?_
      rintro e W3 (⟨rfl, hJ3, hk3⟩ | ⟨rfl, hJx3⟩)
      · gi_wp2
        go_roundw
        case rel =>
          rw [hb2.out] at hJ3 ⊢
          exact ⟨_, back k, rfl, hb3.out.1, by have := hb3.out.2; omega, show chain i = _ by rw [hx.out, hb1.out]; simp, hJ3⟩
        case measure =>
          rw [hb2.out]
          have := hb3.out.2
          simpa [intOf] using this
      · rw [hb2.out] at hJx3
        gi_wp2
        refine bodyPost_ret (results_none rfl _ _ _) rfl ?_
        exact ⟨⟨_, rfl⟩, .inr ⟨_, ⟨chain (back k), by rw [hx.out, hb1.out]; simp⟩, hJx3⟩⟩

set_option maxHeartbeats 1000000 in
theorem back_in (n : Nat) (i : Int) (w : World) :
    CallsIn Fence.wide n Tryz.prog 73 #[.int .i64 i] w fun e w' => e = .returned (.func (.func 107) #[] #[.pointer (some ⟨w.heap.size, 0, none⟩)]) ∧ w' = w.alloc (.cells #[.int .i64 i] 3) := by
  refine callsIn_of_wp Tryz.func73 rfl trivial ?_ rfl
  simp only [Tryz.ntmps73, List.size_toArray, List.length_cons, List.length_nil, Nat.reduceAdd, Nat.reduceSub, Array.replicate_succ, Array.replicate_zero, List.push_toArray, List.append_toArray, List.nil_append, List.cons_append]
  gi_wp2
  go_ret
  exact ⟨rfl, rfl⟩

theorem back_stops (n : Nat) (hn : 1 ≤ n) (Bn n₀ i : Nat) (h1 : 1 ≤ i) (h2 : i ≤ 1099511627776) (w : World) (hBn : Bn < w.heap.size) (hc : w.cell? ⟨Bn, 0, none⟩ = some (.int .i64 i)) :
    SeqStopsK Fence.wide n Tryz.prog 107 #[.pointer (some ⟨Bn, 0, none⟩)] (fun x : Int => #[Value.int .i64 x]) (Below n₀) (fun ys => ys = chain i) (fun pre => pre <+: chain i) (chain i).length w := fun l J Jx W hW _ _ hY h0 =>
  back1_in n hn l Bn n₀ i h1 h2 J Jx hY W ((hW.cell (p := ⟨Bn, 0, none⟩) hBn).trans hc) h0

end Go.Proofs.YtimfjoinjfecjaaGreat.Ly

namespace Go.Proofs.YtimfjoinjfecjaaGreat.Ly
open Go.RowKit Go.Shelf
set_option linter.unusedVariables false

attribute [local go_sem] Oper.semAt_some

theorem term_out (i : Int) (h : i < 1 ∨ i > 1099511627776) (w : World) :
    Calls Tryz.prog 46 #[.int .i64 i] w fun e w' => e = .returned (.int .i64 (termF i)) ∧ Below w.heap.size w w' := by
  rw [termF_out h]
  by_cases h1 : i < 1
  · go_enter Tryz.func46, Tryz.ntmps46
    go_wp2
    go_ret
    exact ⟨rfl, Below.refl _ _⟩
  · have h2 : 1099511627776 < i := by omega
    go_enter Tryz.func46, Tryz.ntmps46
    go_wp2
    go_ret
    exact ⟨rfl, Below.refl _ _⟩

set_option maxRecDepth 100000 in
set_option maxHeartbeats 2000000 in
theorem term_in (i : Nat) (i1 : 1 ≤ i) (i2 : i ≤ 1099511627776) (w : World) :
    CallsIn Fence.wide 5 Tryz.prog 46 #[.int .i64 i] w fun e w' => e = .returned (.int .i64 (luby i)) ∧ Below w.heap.size w w' := by
  refine callsIn_of_wp_marks Tryz.func46 rfl trivial ?_ rfl
  simp only [Tryz.ntmps46, List.size_toArray, List.length_cons, List.length_nil, Nat.reduceAdd, Nat.reduceSub, Array.replicate_succ, Array.replicate_zero, List.push_toArray, List.append_toArray, List.nil_append, List.cons_append]
  have b1 : ¬ (i : Int) < 1 := by omega
  have b2 : ¬ (1099511627776 : Int) < i := by omega
  gi_wp2_with (refine ⟨trivial, ?_⟩; gi_at_call 73; refine (back_in 4 _ _).mono ?_; rintro e w' ⟨rfl, rfl⟩)
  have hs := (Boxed.new w 3 (.int .i64 i)).alloc (.cells #[.int .i64 i] 3)
  have hb := Boxed.new (w.alloc (.cells #[.int .i64 i] 3)) 3 (.int .i64 i)
  rw [World.size_alloc] at hb
  have hB0 : Below w.heap.size w ((w.alloc (.cells #[.int .i64 i] 3)).alloc (.cells #[.int .i64 i] 3)) := ((Below.refl _ w).alloc (Nat.le_refl _) _).alloc (by simp) _
  refine wpIn_rangeFunc_ownF rfl (by decide) (gf := 107) (lb := #[.pointer (some ⟨w.heap.size + 1, 0, none⟩)]) rfl trivial (enters_of Tryz.func107 (by kernel_rfl) rfl)
    (back_stops 4 (by decide) (w.heap.size + 1) w.heap.size i i1 i2 _ (by simp) hb.cell) belowK_t (belowK_b (by simp; omega)) (Below.refl _ _) (fun _ => rfl)
    (fun pre W => (W.cell? ⟨w.heap.size, 0, none⟩ = some (.int .i64 (lastOf i pre)) ∧ W.frozen? ⟨w.heap.size, 0, none⟩ = false) ∧ Below w.heap.size w W)
    (fun _ _ _ => False)
    (OwnFrom.and (Own.from (fun s A B row hs hg hr => ⟨cell_kept hs.1 hg hr, (frozen_kept hs.1 hg hr).trans hs.2⟩) _) (ownFrom_below (Nat.le_refl _) (by simp; omega)))
    (fun _ _ _ _ _ hs _ _ => hs)
    ⟨⟨hs.cell, hs.frozen⟩, hB0⟩
    (fun x => { tmps := #[.int .i64 i, undef, .int .i64 0, .pointer (some ⟨w.heap.size, 0, none⟩), .int .i64 x, .int .i64 i, .bool false, .bool false, .int .i64 i, .bool false, .bool false, .int .i64 i, .int .i64 i, .func (.func 107) #[] #[.pointer (some ⟨w.heap.size + 1, 0, none⟩)], .int .i64 x, undef, undef, undef, undef], defers := [] }) ?assign ?body ?done ?stop
  case assign =>
    intro l x W K hK
    gi_wp2
    exact hK
  case body =>
    rintro l pre x W ⟨⟨hc, hf⟩, hB⟩ _
    gi_wp2
    exact ⟨KeepsOthers.setCell _ _ _, (Below.refl w.heap.size W).setCell (p := ⟨w.heap.size, 0, none⟩) (Nat.le_refl _) _, ⟨by rw [lastOf_snoc]; exact World.cell?_setCell_same' _ _ _ (by rw [hc]; rfl), by rw [World.frozen?_setCell]; exact hf⟩, hB.setCell (p := ⟨w.heap.size, 0, none⟩) (Nat.le_refl _) _⟩
  case done =>
    rintro D ys W hD rfl ⟨⟨hc, _⟩, hB⟩ hK
    obtain ⟨f, e1, e2, e3⟩ := last_chain i
    rw [e1] at hc
    have e4 : ((f : Int) + 1) / 2 = (luby i : Int) := by omega
    clear e1 e3
    gi_wp2
    refine ⟨by simp, .inl ⟨_, _, rfl, run_takeDeferred hK, ?_⟩⟩
    exact ⟨_, results_tmp rfl _ _ _, by rw [← e4]; simp, hB.trans (belowK_b (w := w) (Nat.le_refl _) W D _ _ (by simp at hD; omega) hK rfl rfl)⟩
  case stop =>
    rintro D c pre W _ _ h _
    exact h.elim

theorem term_any (i : Int) (w : World) :
    Calls Tryz.prog 46 #[.int .i64 i] w fun e w' => e = .returned (.int .i64 (termF i)) ∧ Below w.heap.size w w' := by
  by_cases h : i < 1 ∨ i > 1099511627776
  · exact term_out i h w
  · obtain ⟨k, rfl⟩ : ∃ k : Nat, i = k := ⟨i.toNat, by omega⟩
    have c := callsIn_wide.1 (term_in k (by omega) (by omega) w)
    rw [← termF_in (by omega) (by omega)] at c
    exact c

end Go.Proofs.YtimfjoinjfecjaaGreat.Ly
