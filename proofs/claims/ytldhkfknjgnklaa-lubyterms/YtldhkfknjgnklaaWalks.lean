/-
  The calls on single numbers: whole, bits.Len.
-/
import Derived.Test.YtldhkfknjgnklaaMath
import Derived.Test.YtldhkfknjgnklaaRows
import Derived.Lib.Walk
import Derived.Lib.BitFns
import Derived.Laws.BitsLemmas
import Derived.WalkKit
import Derived.ProofKit
namespace Go.Proofs.Ytldhkfknjgnklaa
open Go.RowKit
set_option linter.unusedVariables false

theorem i64_and_nat (a b : Nat) (ha : a < 9223372036854775808) (hb : b < 9223372036854775808) :
    bits .and .i64 (a : Int) (b : Int) = ((a &&& b : Nat) : Int) := by
  have hx : a &&& b < 2 ^ 63 := Nat.and_lt_two_pow _ (by omega)
  have h1 : (BitVec.ofInt 64 (a : Int)).toNat = a := by
    rw [BitVec.ofInt_natCast, BitVec.toNat_ofNat]; exact Nat.mod_eq_of_lt (by omega)
  have h2 : (BitVec.ofInt 64 (b : Int)).toNat = b := by
    rw [BitVec.ofInt_natCast, BitVec.toNat_ofNat]; exact Nat.mod_eq_of_lt (by omega)
  show IntKind.i64.wrap ((BitVec.ofInt 64 (a : Int) &&& BitVec.ofInt 64 (b : Int)).toNat : Int) = _
  rw [BitVec.toNat_and, h1, h2, IntKind.wrap_i64]
  omega

theorem whole_any (i : Nat) (h : i ≤ 1099511627776) (w : World) :
    Calls Try.prog 15 #[.int .i64 i] w fun e w' => e = .returned (.bool (isW i)) ∧ w' = w := by
  have hb := i64_and_nat i (i + 1) (by omega) (by omega)
  push_cast at hb
  cases hi : isW i with
  | true =>
    rw [and_whole hi] at hb
    go_enter Try.func15, Try.ntmps15
    go_wp2
    go_ret
    exact ⟨rfl, rfl⟩
  | false =>
    have hn : (((i &&& (i + 1) : Nat) : Int) == 0) = false := by simpa using and_not hi
    go_enter Try.func15, Try.ntmps15
    go_wp2
    go_ret
    exact ⟨rfl, rfl⟩

theorem bitLen_log {x : Nat} (h : x < 2 ^ 64) (h0 : x ≠ 0) : Lib.bitLen x = x.log2 + 1 := by
  induction x using Nat.strongRecOn with
  | _ x ih =>
    rw [Lib.bitLen_half x h0 h, Nat.log2_def]
    by_cases h1 : 2 ≤ x
    · rw [if_pos h1, ih (x / 2) (by omega) (by omega) (by omega)]; omega
    · obtain rfl : x = 1 := by omega
      decide

theorem tab_of (A B C D : List UInt8) (h : (A.append B).append (C.append D) = Lib.len8tab.data.toList) : (ByteArray.mk ((A.append B).append (C.append D)).toArray) = Lib.len8tab := by
  rw [h]

/-- A table of bytes that tells how many bits a number below 256 has. -/
def Tab (T : ByteArray) : Prop := T.size = 256 ∧ ∀ (y : Int) (h : y.toNat < T.size), 0 ≤ y → ((T[y.toNat]'h).toNat : Int) = (Lib.bitLen y.toNat : Int) ∧ Lib.bitLen y.toNat ≤ 8

theorem tab_len8 : ∃ T, Lib.len8tab = T ∧ Tab T := by
  refine ⟨_, rfl, Lib.len8tab_size, fun y h h0 => ?_⟩
  have hs := Lib.len8tab_size
  refine ⟨?_, Lib.bitLen_le8' y h0 (by omega)⟩
  rw [← Lib.len8_of y h0 (by omega)]
  unfold Lib.len8
  rw [getElem?_pos Lib.len8tab y.toNat h]
  rfl

theorem tab_end {T : ByteArray} (hT : Tab T) (k : Nat) (x y : Int) (h : y.toNat < T.size) (h0 : 0 ≤ y) (hk : k ≤ 56) (hx : x.toNat < 2 ^ 64) (hle : 2 ^ k ≤ x.toNat) (e : y.toNat = x.toNat / 2 ^ k) :
    wrap64 ((k : Int) + wrap64 ((T[y.toNat]'h).toNat : Int)) = (Lib.bitLen x.toNat : Int) := by
  obtain ⟨e1, e2⟩ := hT.2 y h h0
  have e3 := Lib.bitLen_shift k x.toNat hle hx
  rw [e1, e3, ← e]
  clear e1 e3 e hle hx
  generalize Lib.bitLen y.toNat = b at e2
  unfold wrap64
  omega

theorem tab_end0 {T : ByteArray} (hT : Tab T) (y : Int) (h : y.toNat < T.size) (h0 : 0 ≤ y) : wrap64 (wrap64 ((T[y.toNat]'h).toNat : Int)) = (Lib.bitLen y.toNat : Int) := by
  obtain ⟨e1, e2⟩ := hT.2 y h h0
  rw [e1]
  generalize Lib.bitLen y.toNat = b at e2
  unfold wrap64
  omega

set_option maxHeartbeats 4000000 in
set_option maxRecDepth 100000 in
theorem len64_any (x : Int) (h0 : 1 ≤ x) (h : x ≤ 1099511627776) (w : World) :
    Calls Try.prog 19 #[.int .u64 x] w fun e w' => e = .returned (.int .i64 (Lib.bitLen x.toNat)) ∧ w' = w := by
  obtain ⟨T, eT, hT⟩ := tab_len8
  have hs := hT.1
  go_enter Try.func19, Try.ntmps19
  rw [tab_of]
  case h => decide +kernel
  rw [eT]
  clear eT
  go_wp2
  all_goals first
    | (go_ret; refine ⟨congrArg Ending.returned (congrArg (Value.int IntKind.i64) ?_), rfl⟩)
    | (exfalso; omega)
  · exact tab_end hT 40 x _ _ (by omega) (by decide) (by omega) (by omega) (by omega)
  · exact tab_end hT 32 x _ _ (by omega) (by decide) (by omega) (by omega) (by omega)
  · exact tab_end hT 24 x _ _ (by omega) (by decide) (by omega) (by omega) (by omega)
  · exact tab_end hT 16 x _ _ (by omega) (by decide) (by omega) (by omega) (by omega)
  · exact tab_end hT 8 x _ _ (by omega) (by decide) (by omega) (by omega) (by omega)
  · exact tab_end0 hT x _ (by omega)

theorem len_any (i : Nat) (h0 : 1 ≤ i) (h : i ≤ 1099511627776) (w : World) :
    Calls Try.prog 16 #[.int .u64 i] w fun e w' => e = .returned (.int .i64 ((i.log2 + 1 : Nat) : Int)) ∧ w' = w := by
  have c : ∀ w, Calls Try.prog 19 #[.int .u64 i] w fun e w' => e = .returned (.int .i64 ((i.log2 + 1 : Nat) : Int)) ∧ w' = w := fun w => by
    have c0 := len64_any (i : Int) (by omega) (by omega) w
    rw [Int.toNat_natCast, bitLen_log (by omega) (by omega)] at c0
    exact c0
  go_enter Try.func16, Try.ntmps16
  go_wp2_with (go_at_call 19; with_reducible (refine (c _).mono ?_); rintro e w1 ⟨rfl, rfl⟩)
  go_ret
  exact ⟨rfl, rfl⟩

end Go.Proofs.Ytldhkfknjgnklaa
