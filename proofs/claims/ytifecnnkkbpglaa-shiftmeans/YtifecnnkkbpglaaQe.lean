/-
  A row wherever it lies.
-/
import Derived.Test.YtifecnnkkbpglaaMa
namespace Go.Proofs.Ytifecnnkkbpglaa
open Go.RowKit
set_option linter.unusedVariables false

theorem new_a (w : World) (o : Obj) : Below w.heap.size w (w.alloc o) := (Below.refl _ _).alloc (Nat.le_refl _) o
theorem one_new (w : World) (y : Int) : (w.alloc (.cells #[.int .i64 y] 3)).cell? ⟨w.heap.size, 0, none⟩ = some (.int .i64 y) := by rw [cell_of (new_same w _)]; rfl
theorem one_more {w w' : World} {a : Addr} {v : Value} (h : w.cell? a = some v) (b : Below w.heap.size w w') : w'.cell? a = some v := (b.cell (cell_lt h)).trans h
theorem TR.get {w : World} {b m c : Nat} {xs : List Int} (h : TR w (some ⟨b, 0, none⟩) m c xs) {j : Nat} {x : Int} (hx : xs[j]? = some x) : w.cell? ⟨b, j, none⟩ = some (.int .i64 x) := by
  have hj : j < m := by rw [← h.row.1]; exact (List.getElem?_eq_some_iff.1 hx).1
  obtain ⟨b2, o2, e, hc⟩ := h.row.2.2.2.2.2 (by omega)
  cases e
  have := hc j hj
  rw [Nat.zero_add, List.getD_eq_getElem?_getD, hx] at this
  exact this
theorem rng_ge {n : Nat} {x : Int} (h : rng n x) : 0 ≤ x := h.1
theorem GEnd.fg {B : BT} {gb n : Nat} {cs : List (List Int)} {val : Nat → Bool} {is : List Int} {r : Bool} {w w' : World} {y : Int} (e : GEnd B gb n cs val is r w w' y) : FG B w w' := by
  obtain ⟨_, _, _, _, _, _, _, h5⟩ := e
  exact h5

def QEnd (B : BT) (gb : Nat) (is : List Int) (n0 : Nat) (v0 : Nat → Bool) (k : Nat) (w w' : World) (ao : Option Addr) (m c : Nat) (S : Nat → Bool) : Prop :=
  ∃ n cs val zs, Sx B gb is n0 v0 k w w' n cs val ∧ TR w' ao m c zs ∧ Lits n val zs m S
theorem QEnd.mk {B : BT} {gb : Nat} {is : List Int} {n0 : Nat} {v0 : Nat → Bool} {k : Nat} {w w' : World} {ao : Option Addr} {m c : Nat} {S : Nat → Bool} {n : Nat} {cs : List (List Int)} {val : Nat → Bool} {zs : List Int} (h1 : Sx B gb is n0 v0 k w w' n cs val) (h2 : TR w' ao m c zs) (h3 : Lits n val zs m S) : QEnd B gb is n0 v0 k w w' ao m c S := ⟨n, cs, val, zs, h1, h2, h3⟩
theorem QEnd.go {B : BT} {gb : Nat} {is : List Int} {n0 : Nat} {v0 : Nat → Bool} {k k1 : Nat} {w w1 w' : World} {ao : Option Addr} {m c : Nat} {S : Nat → Bool} {n : Nat} {cs : List (List Int)} {val : Nat → Bool} (e : QEnd B gb is n val k1 w1 w' ao m c S) (s : Sx B gb is n0 v0 k w w1 n cs val) :
    ∃ n' cs' val' zs, n ≤ n' ∧ Hid (Sx B gb is n0 v0 (k + k1) w w' n' cs' val') ∧ Hid (∀ i, i < n → val' i = val i) ∧ Hid (FG B w1 w') ∧ Hid (TR w' ao m c zs) ∧ Hid (Lits n' val' zs m S) := by
  obtain ⟨n', cs', val', zs, t, h1, h2⟩ := e
  exact ⟨n', cs', val', zs, t.lo, s.on t, t.ag, t.f, h1, h2⟩
theorem TR.drop0 {w : World} {b m c q k : Nat} {xs : List Int} (h : TR w (some ⟨b, 0, none⟩) m c xs) (hk : q + k = m) (hc : k ≤ c) : TR w (some ⟨b, q, none⟩) k k (xs.drop q) := by
  have e : m - q = k := by omega
  have := h.drop (i := q) (c' := k) (by omega) (by omega) hc
  rwa [Nat.zero_add, e] at this

end Go.Proofs.Ytifecnnkkbpglaa
