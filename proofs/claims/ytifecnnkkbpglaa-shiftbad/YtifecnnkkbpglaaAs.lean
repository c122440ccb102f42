/-
  sum, less.
-/
import Derived.Test.YtifecnnkkbpglaaRp
import Derived.Test.YtifecnnkkbpglaaRu
namespace Go.Proofs.Ytifecnnkkbpglaa
open Go.RowKit
set_option linter.unusedVariables false

theorem TR.cells {w : World} {ao : Option Addr} {m c : Nat} {xs : List Int} (h : TR w ao m c xs) (h0 : 0 < m) : ∃ b off, ao = some ⟨b, off, none⟩ ∧ ∀ (B : BT) (W : World), FG B w W → ∀ (j : Nat) (x : Int), xs[j]? = some x → W.cell? ⟨b, off + j, none⟩ = some (.int .i64 x) := by
  obtain ⟨r, t⟩ := h
  obtain ⟨b, off, e, ht, _⟩ := t h0
  obtain ⟨b2, off2, e2, hc⟩ := r.2.2.2.2.2 h0
  rw [e] at e2
  simp only [Option.some.injEq, Addr.mk.injEq, and_true] at e2
  obtain ⟨rfl, rfl⟩ := e2
  refine ⟨b, off, e, fun B W f j x hx => ?_⟩
  have hj : j < m := by rw [← r.1]; exact (List.getElem?_eq_some_iff.1 hx).1
  have q := hc j hj
  rw [List.getD_eq_getElem?_getD, hx] at q
  exact (World.cell?_of_block (f.block b 3 ht (by decide) (by decide))).trans q

theorem Lits.at {n : Nat} {val : Nat → Bool} {xs : List Int} {m : Nat} {A : Nat → Bool} (h : Lits n val xs m A) {j : Nat} (hj : j < m) : ∃ x, xs[j]? = some x ∧ rng n x ∧ hd val x = A j := by
  have hl : j < xs.length := by rw [h.len]; exact hj
  exact ⟨xs[j], List.getElem?_eq_getElem hl, h.rg _ (List.getElem_mem hl), h.is j _ (List.getElem?_eq_getElem hl)⟩

theorem TR.take {w : World} {ao : Option Addr} {m c : Nat} {xs : List Int} (h : TR w ao m c xs) {j : Nat} (hj : j ≤ m) : TR w ao j c (xs.take j) := ⟨h.1.take hj, fun h0 => h.2 (by omega)⟩
theorem Lits.take {n : Nat} {val : Nat → Bool} {xs : List Int} {m : Nat} {A : Nat → Bool} (h : Lits n val xs m A) {j : Nat} (hj : j ≤ m) : Lits n val (xs.take j) j A := by
  refine ⟨by rw [List.length_take, h.len]; omega, fun x hx => h.rg x (List.mem_of_mem_take hx), fun i x hx => h.is i x ?_⟩
  rw [List.getElem?_take] at hx
  split at hx
  · exact hx
  · cases hx

/-- A literal was made that holds just where r does. -/
def YEnd (B : BT) (gb : Nat) (is : List Int) (n0 : Nat) (v0 : Nat → Bool) (k : Nat) (w w' : World) (y : Int) (r : Bool) : Prop :=
  ∃ n cs val, Sx B gb is n0 v0 k w w' n cs val ∧ rng n y ∧ hd val y = r
theorem YEnd.of {B : BT} {gb : Nat} {is : List Int} {n0 : Nat} {v0 : Nat → Bool} {k : Nat} {w w' : World} {y : Int} {r : Bool} {n : Nat} {cs : List (List Int)} {val : Nat → Bool} (s : Sx B gb is n0 v0 k w w' n cs val) (hy : rng n y) (h : hd val y = r) : YEnd B gb is n0 v0 k w w' y r := ⟨n, cs, val, s, hy, h⟩


end Go.Proofs.Ytifecnnkkbpglaa
