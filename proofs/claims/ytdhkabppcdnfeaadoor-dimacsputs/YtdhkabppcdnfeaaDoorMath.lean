/-
  What the calls of package lit answer, as plain functions of numbers; lists of numbers in memory.
-/
import Derived.Handy
import Derived.Below
namespace Go.Proofs.YtdhkabppcdnfeaaDoor
open Go.RowKit
set_option linter.unusedVariables false

abbrev badF (v : Int) : Prop := v < 0 ∨ 1048576 ≤ v
def bitF (n : Bool) : Int := if n = true then 1 else 0
def makF (v : Int) (n : Bool) : Int := if badF v then 0 else 2 * v + bitF n
def errF (v : Int) : Int := if badF v then 10 else 0
def varF (l : Int) : Int := if l < 0 then -1 else l / 2
def negF (l : Int) : Bool := decide (0 ≤ l ∧ l % 2 = 1)
def numF (l : Int) : Int := if l < 0 then 0 else if l % 2 = 1 then -(l / 2 + 1) else l / 2 + 1
def vofF (n : Int) : Int := if n < 0 then -(n + 1) else n - 1
def sofF (n : Int) : Bool := decide (n < 0)

theorem wf_i64 {a : Int} (h : (Lit.int .i64 a).wf = true) : -9223372036854775808 ≤ a ∧ a ≤ 9223372036854775807 := by
  simp [Lit.wf, IntKind.min, IntKind.max, IntKind.signed, IntKind.bits] at h; omega

theorem cell_lt {w : World} {p : Addr} {v : Value} (h : w.cell? p = some v) : p.block < w.heap.size := by
  by_cases hp : p.block < w.heap.size
  · exact hp
  · exfalso
    have e : w.heap[p.block]? = none := by simp; omega
    simp [World.cell?, e] at h

theorem Below.next {w w1 w2 : World} (h : Below w.heap.size w w1) (k : Below w1.heap.size w1 w2) : Below w.heap.size w w2 :=
  h.trans (k.mono h.size)

def Fit (xs : List Int) : Prop := ∀ x ∈ xs, -9223372036854775808 ≤ x ∧ x ≤ 9223372036854775807

/-- The first n cells behind the address are the numbers xs. -/
def Row (w : World) (ao : Option Addr) (n cap : Nat) (xs : List Int) : Prop :=
  xs.length = n ∧ n ≤ cap ∧ cap ≤ maxLen ∧ (ao = none → cap = 0) ∧ Fit xs ∧ (0 < n → ∃ b off, ao = some ⟨b, off, none⟩ ∧ ∀ j, j < n → w.cell? ⟨b, off + j, none⟩ = some (.int .i64 (xs.getD j 0)))

theorem Row.max {w : World} {ao : Option Addr} {n cap : Nat} {xs : List Int} (h : Row w ao n cap xs) : n ≤ 9223372036854775807 := by
  have := h.2.1; have h2 := h.2.2.1; unfold maxLen at h2; omega

theorem Row.at {w : World} {ao : Option Addr} {n cap : Nat} {xs : List Int} (h : Row w ao n cap xs) {k : Nat} (hk : k < n) :
    ∃ b off y, ao = some ⟨b, off, none⟩ ∧ w.cell? ⟨b, off + k, none⟩ = some (.int .i64 y) ∧ Hid (xs[k]? = some y) ∧ -9223372036854775808 ≤ y ∧ y ≤ 9223372036854775807 := by
  obtain ⟨b, off, e, hc⟩ := h.2.2.2.2.2 (by omega)
  have hl : k < xs.length := by rw [h.1]; exact hk
  have hy : xs[k]? = some (xs.getD k 0) := by simp [hl]
  exact ⟨b, off, xs.getD k 0, e, hc k hk, hy, h.2.2.2.2.1 _ (List.mem_of_getElem? hy)⟩

theorem Row.keep {w w' : World} {ao : Option Addr} {n cap : Nat} {xs : List Int} (h : Row w ao n cap xs) (b : Below w.heap.size w w') : Row w' ao n cap xs := by
  refine ⟨h.1, h.2.1, h.2.2.1, h.2.2.2.1, h.2.2.2.2.1, fun h0 => ?_⟩
  obtain ⟨k, off, e, hc⟩ := h.2.2.2.2.2 h0
  refine ⟨k, off, e, fun j hj => ?_⟩
  rw [b.cell (cell_lt (hc j hj))]
  exact hc j hj

theorem hid {p : Prop} (h : p) : Hid p := h

end Go.Proofs.YtdhkabppcdnfeaaDoor
