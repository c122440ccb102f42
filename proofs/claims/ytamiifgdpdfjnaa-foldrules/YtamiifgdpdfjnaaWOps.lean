/- What the operators of the package word return, for every input of its kinds. -/
import Derived.Test.YtamiifgdpdfjnaaWWalks
namespace Go.Proofs.Ytamiifgdpdfjnaa.Wd
open Go.RowKit
set_option linter.unusedVariables false

/-- What a call that combines two cut words leaves: a word of 64 bits that, cut, is what the operator makes of them. -/
def Made (op : Int) (n : Nat) (a b : Int) (w : World) (e : Ending) (w' : World) : Prop :=
  ∃ v : Int, e = .returned (.int .u64 v) ∧ 0 ≤ v ∧ v < 18446744073709551616 ∧ cutF n v = cutF n (rawF op n a b) ∧ w' = w

theorem combine_1 (n : Nat) (a b : Int) (w : World) (a0 : 0 ≤ a) (A1 : a < 18446744073709551616) (b0 : 0 ≤ b) (B1 : b < 18446744073709551616) :
    Calls Try.prog 55 #[.int .i64 1, .int .i64 n, .int .u64 a, .int .u64 b] w (Made 1 n a b w) := by
  go_enter Try.func55, Try.ntmps55
  go_wp2
  go_ret
  exact ⟨_, rfl, (u64_bd _).1, (u64_bd _).2, by rw [cut_wrap]; simp [rawF], rfl⟩

theorem combine_2 (n : Nat) (a b : Int) (w : World) (a0 : 0 ≤ a) (A1 : a < 18446744073709551616) (b0 : 0 ≤ b) (B1 : b < 18446744073709551616) :
    Calls Try.prog 55 #[.int .i64 2, .int .i64 n, .int .u64 a, .int .u64 b] w (Made 2 n a b w) := by
  go_enter Try.func55, Try.ntmps55
  go_wp2
  go_ret
  exact ⟨_, rfl, (u64_bd _).1, (u64_bd _).2, by have := cut_add_wrap n a b; simpa [rawF] using this, rfl⟩

theorem combine_3 (n : Nat) (a b : Int) (w : World) (a0 : 0 ≤ a) (A1 : a < 18446744073709551616) (b0 : 0 ≤ b) (B1 : b < 18446744073709551616) :
    Calls Try.prog 55 #[.int .i64 3, .int .i64 n, .int .u64 a, .int .u64 b] w (Made 3 n a b w) := by
  go_enter Try.func55, Try.ntmps55
  go_wp2
  go_ret
  exact ⟨_, rfl, (u64_bd _).1, (u64_bd _).2, by rw [cut_wrap]; simp [rawF], rfl⟩

theorem combine_4 (n : Nat) (a b : Int) (w : World) (a0 : 0 ≤ a) (A1 : a < 18446744073709551616) (b0 : 0 ≤ b) (B1 : b < 18446744073709551616) :
    Calls Try.prog 55 #[.int .i64 4, .int .i64 n, .int .u64 a, .int .u64 b] w (Made 4 n a b w) := by
  go_enter Try.func55, Try.ntmps55
  go_wp2_with (go_at_call 57; refine (divide_4 _ _ _ a0 A1 b0 B1).mono ?_; rintro e w' ⟨rfl, rfl⟩)
  go_ret
  exact ⟨_, rfl, (udiv_bd a b a0 A1 b0).1, (udiv_bd a b a0 A1 b0).2, by rw [cut_udiv]; simp [rawF], rfl⟩

theorem combine_5 (n : Nat) (a b : Int) (w : World) (a0 : 0 ≤ a) (A1 : a < 18446744073709551616) (b0 : 0 ≤ b) (B1 : b < 18446744073709551616) :
    Calls Try.prog 55 #[.int .i64 5, .int .i64 n, .int .u64 a, .int .u64 b] w (Made 5 n a b w) := by
  go_enter Try.func55, Try.ntmps55
  go_wp2_with (go_at_call 57; refine (divide_5 _ _ _ a0 A1 b0 B1).mono ?_; rintro e w' ⟨rfl, rfl⟩)
  go_ret
  exact ⟨_, rfl, (urem_bd a b a0 A1 b0 B1).1, (urem_bd a b a0 A1 b0 B1).2, by simp [rawF, uremF], rfl⟩

theorem combine_6 (n : Nat) (a b : Int) (w : World) (a0 : 0 ≤ a) (A1 : a < 18446744073709551616) (b0 : 0 ≤ b) (B1 : b < 18446744073709551616) :
    Calls Try.prog 55 #[.int .i64 6, .int .i64 n, .int .u64 a, .int .u64 b] w (Made 6 n a b w) := by
  go_enter Try.func55, Try.ntmps55
  go_wp2
  go_ret
  exact ⟨_, rfl, (bits_bd _ _ _).1, (bits_bd _ _ _).2, by simp [rawF], rfl⟩

theorem combine_7 (n : Nat) (a b : Int) (w : World) (a0 : 0 ≤ a) (A1 : a < 18446744073709551616) (b0 : 0 ≤ b) (B1 : b < 18446744073709551616) :
    Calls Try.prog 55 #[.int .i64 7, .int .i64 n, .int .u64 a, .int .u64 b] w (Made 7 n a b w) := by
  go_enter Try.func55, Try.ntmps55
  go_wp2
  go_ret
  exact ⟨_, rfl, (bits_bd _ _ _).1, (bits_bd _ _ _).2, by simp [rawF], rfl⟩

theorem combine_8 (n : Nat) (a b : Int) (w : World) (a0 : 0 ≤ a) (A1 : a < 18446744073709551616) (b0 : 0 ≤ b) (B1 : b < 18446744073709551616) :
    Calls Try.prog 55 #[.int .i64 8, .int .i64 n, .int .u64 a, .int .u64 b] w (Made 8 n a b w) := by
  go_enter Try.func55, Try.ntmps55
  go_wp2
  go_ret
  exact ⟨_, rfl, (bits_bd _ _ _).1, (bits_bd _ _ _).2, by simp [rawF], rfl⟩

theorem combine_9 (n : Nat) (a b : Int) (w : World) (a0 : 0 ≤ a) (A1 : a < 18446744073709551616) (b0 : 0 ≤ b) (B1 : b < 18446744073709551616) :
    Calls Try.prog 55 #[.int .i64 9, .int .i64 n, .int .u64 a, .int .u64 b] w (Made 9 n a b w) := by
  go_enter Try.func55, Try.ntmps55
  go_wp2_with (go_at_call 58; refine (move_9 _ _ _ _ a0 A1 b0 B1).mono ?_; rintro e w' ⟨rfl, rfl⟩)
  go_ret
  exact ⟨_, rfl, (u64_bd _).1, (u64_bd _).2, by rw [cut_wrap]; simp [rawF], rfl⟩

theorem combine_10 (n : Nat) (a b : Int) (w : World) (a0 : 0 ≤ a) (A1 : a < 18446744073709551616) (b0 : 0 ≤ b) (B1 : b < 18446744073709551616) :
    Calls Try.prog 55 #[.int .i64 10, .int .i64 n, .int .u64 a, .int .u64 b] w (Made 10 n a b w) := by
  go_enter Try.func55, Try.ntmps55
  go_wp2_with (go_at_call 58; refine (move_10 _ _ _ _ a0 A1 b0 B1).mono ?_; rintro e w' ⟨rfl, rfl⟩)
  go_ret
  have hp := pos2 (min b.toNat 64)
  exact ⟨_, rfl, (div_bd a _ a0 A1 (by omega)).1, (div_bd a _ a0 A1 (by omega)).2, by simp [rawF], rfl⟩

theorem combine_11 (n : Nat) (a b : Int) (w : World) (a0 : 0 ≤ a) (A1 : a < 18446744073709551616) (b0 : 0 ≤ b) (B1 : b < 18446744073709551616) :
    Calls Try.prog 55 #[.int .i64 11, .int .i64 n, .int .u64 a, .int .u64 b] w (Made 11 n a b w) := by
  go_enter Try.func55, Try.ntmps55
  go_wp2_with (go_at_call 58; refine (move_11 _ _ _ _ a0 A1 b0 B1).mono ?_; rintro e w' ⟨rfl, rfl⟩)
  go_ret
  exact ⟨_, rfl, (u64_bd _).1, (u64_bd _).2, by rw [cut_wrap]; simp [rawF], rfl⟩

theorem combine_12 (n : Nat) (a b : Int) (w : World) (a0 : 0 ≤ a) (A1 : a < 18446744073709551616) (b0 : 0 ≤ b) (B1 : b < 18446744073709551616) :
    Calls Try.prog 55 #[.int .i64 12, .int .i64 n, .int .u64 a, .int .u64 b] w (Made 12 n a b w) := by
  go_enter Try.func55, Try.ntmps55
  go_wp2_with (go_at_call 59; refine (truth_any _ _).mono ?_; rintro e w' ⟨rfl, rfl⟩)
  go_ret
  exact ⟨_, rfl, (b01_bd _).1, (b01_bd _).2, by simp [rawF], rfl⟩

theorem combine_13 (n : Nat) (a b : Int) (w : World) (a0 : 0 ≤ a) (A1 : a < 18446744073709551616) (b0 : 0 ≤ b) (B1 : b < 18446744073709551616) :
    Calls Try.prog 55 #[.int .i64 13, .int .i64 n, .int .u64 a, .int .u64 b] w (Made 13 n a b w) := by
  go_enter Try.func55, Try.ntmps55
  go_wp2_with (go_at_call 59; refine (truth_any _ _).mono ?_; rintro e w' ⟨rfl, rfl⟩)
  go_ret
  exact ⟨_, rfl, (b01_bd _).1, (b01_bd _).2, by simp [rawF], rfl⟩
end Go.Proofs.Ytamiifgdpdfjnaa.Wd
