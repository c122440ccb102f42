/-
  What an operator tells is a word; the end of Row, opened.
-/
import Derived.Test.YtifecnnkkbpglaaQe
import Derived.Test.YtifecnnkkbpglaaLb
import Derived.Test.YtifecnnkkbpglaaPs
import Derived.Handy
namespace Go.Proofs.Ytifecnnkkbpglaa
open Go.RowKit
set_option linter.unusedVariables false

theorem op_bd (op m a b : Int) : 0 ≤ opF op m a b ∧ opF op m a b < 18446744073709551616 := Wd.cut_bd _ _

theorem RwEnd.get {B : BT} {gb : Nat} {wE w' : World} {x : Int} {is0 : List Int} {n0 : Nat} {v0 : Nat → Bool} {m : Nat} {ao ho : Option Addr} {c1 l2 c2 : Nat} (h : RwEnd B gb wE w' x is0 n0 v0 m ao ho c1 l2 c2) :
    ∃ (xs hs : List Int) (n : Nat) (cs : List (List Int)) (val : Nat → Bool) (is : List Int), n0 ≤ n ∧ n ≤ n0 + m ∧ Hid (Good n cs val is) ∧ Hid (∀ i, i < n0 → val i = v0 i) ∧ Hid (Gt B gb w' n cs) ∧ Hid (FG B wE w') ∧ Hid (TR w' ao m c1 xs) ∧ Hid (TR w' ho l2 c2 hs) ∧ l2 ≤ m ∧ Hid (Lits n val xs m (fun j => Wd.bitB x j)) ∧ Hid (∀ y ∈ hs, rng n y ∧ hd val y = true) ∧ Hid (∀ y ∈ is, y ∈ is0 ∨ ∃ z ∈ hs, (z / 2).toNat = (y / 2).toNat) := by
  obtain ⟨xs, hs, n, cs, val, is, h1, h2, h3, h4, h5, h6, h7, h8, h9, ha, hb, hc⟩ := h
  exact ⟨xs, hs, n, cs, val, is, h1, h2, h3, h4, h5, h6, h7, h8, h9, ha, hb, hc⟩

end Go.Proofs.Ytifecnnkkbpglaa
