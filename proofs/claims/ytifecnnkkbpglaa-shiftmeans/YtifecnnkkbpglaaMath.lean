/-
  What the calls of package lit answer, as plain functions of numbers and truths.
-/
import Derived.Handy
import Derived.Below
namespace Go.Proofs.Ytifecnnkkbpglaa
open Go.RowKit

def varF (l : Int) : Int := if l < 0 then -1 else l / 2
def negF (l : Int) : Bool := decide (0 ≤ l ∧ l % 2 = 1)
def notF (l : Int) : Int := if l < 0 then l else if l % 2 = 1 then l - 1 else l + 1
def truF (v : Int) (len : Nat) (B : Nat → Bool) : Bool := decide (v < len) && B v.toNat
def holF (l : Int) (len : Nat) (B : Nat → Bool) : Bool := if l < 0 then false else truF (l / 2) len B != negF l

theorem wf_i64 {a : Int} (h : (Lit.int .i64 a).wf = true) : -9223372036854775808 ≤ a ∧ a ≤ 9223372036854775807 := by
  simp [Lit.wf, IntKind.min, IntKind.max, IntKind.signed, IntKind.bits] at h; omega

/-- A list of truths that came in: nil, or a row of cells in memory. -/
def IsBools (w : World) (a : Option Addr) (len cap : Nat) (B : Nat → Bool) : Prop :=
  (a = none ∧ len = 0 ∧ cap = 0) ∨
  ∃ x, a = some x ∧ len ≤ cap ∧ cap ≤ maxLen ∧ ∀ i, i < len → w.cell? (x.add i) = some (.bool (B i))

theorem cell_lt {w : World} {p : Addr} {v : Value} (h : w.cell? p = some v) : p.block < w.heap.size := by
  by_cases hp : p.block < w.heap.size
  · exact hp
  · exfalso
    have e : w.heap[p.block]? = none := by simp; omega
    simp [World.cell?, e] at h

theorem IsBools.keep {w w' : World} {a : Option Addr} {len cap : Nat} {B : Nat → Bool} (h : IsBools w a len cap B) (b : Below w.heap.size w w') : IsBools w' a len cap B := by
  rcases h with h | ⟨x, rfl, hl, hm, hc⟩
  · exact .inl h
  · refine .inr ⟨x, rfl, hl, hm, fun i hi => ?_⟩
    rw [b.cell (cell_lt (hc i hi))]
    exact hc i hi

theorem Below.next {w w1 w2 : World} (h : Below w.heap.size w w1) (k : Below w1.heap.size w1 w2) : Below w.heap.size w w2 :=
  h.trans (k.mono h.size)

end Go.Proofs.Ytifecnnkkbpglaa
