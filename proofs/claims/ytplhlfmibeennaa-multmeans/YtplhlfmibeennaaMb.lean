/-
  Rows that are none; what the chapter itself names, and others: awake.
-/
import Derived.Test.YtplhlfmibeennaaDv
import Derived.Test.YtplhlfmibeennaaLb
import Derived.Handy
namespace Go.Proofs.Ytplhlfmibeennaa
open Go.RowKit
set_option linter.unusedVariables false

/-! ### rows that are none -/
section
variable (w : World) (gb n : Nat) (hp : Vq w (.pointer (some ⟨gb, 0, none⟩)) n) (hn : n ≤ 10000) (h0 : 0 < n) (ao bo : Option Addr) (m m2 c1 c2 : Nat) (xs ys : List Int) (rx : Row w ao m c1 xs) (ry : Row w bo m2 c2 ys) (hh : al2 n m m2 xs ys = false)
include hp hn h0 rx ry hh

theorem mul_bad : Calls Try.prog 10 #[.pointer (some ⟨gb, 0, none⟩), .slice ao m c1, .slice bo m2 c2] w fun e w' => e = .returned (.slice none 0 0) ∧ Hid (Below w.heap.size w w') := by
  have HP := hid hp
  have RX := hid rx
  have RY := hid ry
  have HH := hid hh
  clear hp rx ry hh
  go_enter Try.func10, Try.ntmps10
  go_wp2_with (go_at_call 19; with_reducible (refine (rows_no _ gb n HP.out hn h0 ao bo m m2 c1 c2 xs ys RX.out RY.out HH.out).mono ?_); rintro e w1 ⟨rfl, hb⟩)
  go_ret
  exact ⟨rfl, hb⟩

theorem divide_bad : Calls Try.prog 14 #[.pointer (some ⟨gb, 0, none⟩), .slice ao m c1, .slice bo m2 c2] w fun e w' => e = .returned (.tuple #[.slice none 0 0, .slice none 0 0]) ∧ Hid (Below w.heap.size w w') := by
  have HP := hid hp
  have RX := hid rx
  have RY := hid ry
  have HH := hid hh
  clear hp rx ry hh
  go_enter Try.func14, Try.ntmps14
  go_wp2_with (go_at_call 19; with_reducible (refine (rows_no _ gb n HP.out hn h0 ao bo m m2 c1 c2 xs ys RX.out RY.out HH.out).mono ?_); rintro e w1 ⟨rfl, hb⟩)
  go_ret2
  exact ⟨rfl, hb⟩
end

theorem mul_nil (w : World) (u v : Value) : Calls Try.prog 10 #[.pointer none, u, v] w fun e w' => e = .returned (.slice none 0 0) ∧ Hid (Below w.heap.size w w') := by
  go_enter Try.func10, Try.ntmps10
  go_wp2_with (go_at_call 19; with_reducible (refine (rows_nil _ _ _).mono ?_); rintro e w1 ⟨rfl, hb⟩)
  go_ret
  exact ⟨rfl, hb⟩
theorem divide_nil (w : World) (u v : Value) : Calls Try.prog 14 #[.pointer none, u, v] w fun e w' => e = .returned (.tuple #[.slice none 0 0, .slice none 0 0]) ∧ Hid (Below w.heap.size w w') := by
  go_enter Try.func14, Try.ntmps14
  go_wp2_with (go_at_call 19; with_reducible (refine (rows_nil _ _ _).mono ?_); rintro e w1 ⟨rfl, hb⟩)
  go_ret2
  exact ⟨rfl, hb⟩

/-! ### the words of rows -/
theorem nv_of (m : Nat) (h1 : 1 ≤ m) (h2 : m ≤ 64) (a : Int) (a0 : 0 ≤ a) : nvF (fun j => Wd.bitB a j) m = Wd.cutF m a := by rw [nv_bits a a0, Wd.cut_yes m a h1 h2]
section
variable (m : Nat) (h1 : 1 ≤ m) (h2 : m ≤ 64) (a b : Int) (a0 : 0 ≤ a) (b0 : 0 ≤ b)
include h1 h2 a0 b0
theorem mean_mul : nvF (mpF (fun j => Wd.bitB a j) (fun j => Wd.bitB b j) m m) m = Wd.cutF m (opF 3 m a b) := by
  have e : nvF (mpF (fun j => Wd.bitB a j) (fun j => Wd.bitB b j) m m) m = _ := nv_bits _ (mp_pos _ _ m m) m
  rw [e, nv_of m h1 h2 a a0, nv_of m h1 h2 b b0, opF, Wd.cut_cut, Wd.cut_yes m (Wd.rawF 3 m (Wd.cutF m a) (Wd.cutF m b)) h1 h2]
  simp [Wd.rawF]
theorem mean_div : nvF (quF (fun j => Wd.bitB a j) (fun j => Wd.bitB b j) m) m = Wd.cutF m (opF 4 m a b) := by
  have e : nvF (quF (fun j => Wd.bitB a j) (fun j => Wd.bitB b j) m) m = _ := nv_bits _ (dv_pos _ _ m (nv_bd _ m).1 (nv_bd _ m).1) m
  rw [e, nv_of m h1 h2 a a0, nv_of m h1 h2 b b0, opF, Wd.cut_cut, Wd.cut_yes m (Wd.rawF 4 m (Wd.cutF m a) (Wd.cutF m b)) h1 h2]
  have r : Wd.rawF 4 m (Wd.cutF m a) (Wd.cutF m b) = if Wd.cutF m b = 0 then -1 else Wd.cutF m a / Wd.cutF m b := by simp [Wd.rawF]
  rw [r]
  unfold dvF
  by_cases hb : Wd.cutF m b = 0
  · rw [if_pos hb, if_pos hb]
    have e2 : (2 : Int) ^ m - 1 = -1 + 2 ^ m * 1 := by omega
    rw [e2, Int.add_mul_emod_self_left]
  · rw [if_neg hb, if_neg hb]
theorem mean_rem : nvF (reF (fun j => Wd.bitB a j) (fun j => Wd.bitB b j) m m) m = Wd.cutF m (opF 5 m a b) := by
  rw [nv_re _ _ m m (Nat.le_refl _), nv_of m h1 h2 a a0, nv_of m h1 h2 b b0, opF, Wd.cut_cut, Nat.sub_self]
  have r : Wd.rawF 5 m (Wd.cutF m a) (Wd.cutF m b) = Wd.cutF m a % Wd.cutF m b := by
    simp [Wd.rawF]
    intro hb
    rw [hb, Int.emod_zero]
  have l := Wd.cut_lt m a h1 h2
  have k := Wd.cut_lt m b h1 h2
  rw [r]
  have e : Wd.cutF m a / 2 ^ 0 = Wd.cutF m a := by simp
  rw [e]
  by_cases hb : Wd.cutF m b = 0
  · rw [hb, Int.emod_zero, Wd.cut_cut]
  · have q0 := Int.emod_nonneg (Wd.cutF m a) hb
    have q1 := Int.emod_lt_of_pos (Wd.cutF m a) (show 0 < Wd.cutF m b by omega)
    rw [Wd.cut_id m _ h1 h2 q0 (by omega)]
end

theorem op_bd (op m a b : Int) : 0 ≤ opF op m a b ∧ opF op m a b < 18446744073709551616 := Wd.cut_bd _ _

theorem RwEnd.get {B : BT} {gb : Nat} {wE w' : World} {x : Int} {is0 : List Int} {n0 : Nat} {v0 : Nat → Bool} {m : Nat} {ao ho : Option Addr} {c1 l2 c2 : Nat} (h : RwEnd B gb wE w' x is0 n0 v0 m ao ho c1 l2 c2) :
    ∃ (xs hs : List Int) (n : Nat) (cs : List (List Int)) (val : Nat → Bool) (is : List Int), n0 ≤ n ∧ n ≤ n0 + m ∧ Hid (Good n cs val is) ∧ Hid (∀ i, i < n0 → val i = v0 i) ∧ Hid (Gt B gb w' n cs) ∧ Hid (FG B wE w') ∧ Hid (TR w' ao m c1 xs) ∧ Hid (TR w' ho l2 c2 hs) ∧ l2 ≤ m ∧ Hid (Lits n val xs m (fun j => Wd.bitB x j)) ∧ Hid (∀ y ∈ hs, rng n y ∧ hd val y = true) ∧ Hid (∀ y ∈ is, y ∈ is0 ∨ ∃ z ∈ hs, (z / 2).toNat = (y / 2).toNat) := by
  obtain ⟨xs, hs, n, cs, val, is, h1, h2, h3, h4, h5, h6, h7, h8, h9, ha, hb, hc⟩ := h
  exact ⟨xs, hs, n, cs, val, is, h1, h2, h3, h4, h5, h6, h7, h8, h9, ha, hb, hc⟩

section
variable (n : Nat) (x y : Int) (w : World) (hn1 : 1 ≤ n) (hn2 : n ≤ 64) (x0 : 0 ≤ x) (x1 : x < 18446744073709551616) (y0 : 0 ≤ y) (y1 : y < 18446744073709551616)
include hn1 hn2 x0 x1 y0 y1
theorem rbin3 : Calls Try.prog 12 #[.int .i64 3, .int .i64 n, .int .u64 x, .int .u64 y] w fun e w' => e = .returned (.tuple #[.int .u64 (opF 3 n x y), .int .i64 0]) ∧ w' = w := Wd.rbinary_3 n x y w hn1 hn2 x0 x1 y0 y1
theorem rbin4 : Calls Try.prog 12 #[.int .i64 4, .int .i64 n, .int .u64 x, .int .u64 y] w fun e w' => e = .returned (.tuple #[.int .u64 (opF 4 n x y), .int .i64 0]) ∧ w' = w := by
  by_cases h : Wd.cutF n y = 0
  · exact Wd.rbinary_4z n x y w hn1 hn2 x0 x1 y0 y1 h
  · exact Wd.rbinary_4p n x y w hn1 hn2 x0 x1 y0 y1 h
theorem rbin5 : Calls Try.prog 12 #[.int .i64 5, .int .i64 n, .int .u64 x, .int .u64 y] w fun e w' => e = .returned (.tuple #[.int .u64 (opF 5 n x y), .int .i64 0]) ∧ w' = w := by
  by_cases h : Wd.cutF n y = 0
  · exact Wd.rbinary_5z n x y w hn1 hn2 x0 x1 y0 y1 h
  · exact Wd.rbinary_5p n x y w hn1 hn2 x0 x1 y0 y1 h
end

end Go.Proofs.Ytplhlfmibeennaa
