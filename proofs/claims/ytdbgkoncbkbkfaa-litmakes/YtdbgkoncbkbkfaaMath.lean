/-
  What the seven calls of package lit answer, as plain functions of numbers and truths, and what is true of those functions.
-/
import Derived.Handy
import Derived.Below
namespace Go.Proofs.Ytdbgkoncbkbkfaa
open Go.RowKit

abbrev badF (v : Int) : Prop := v < 0 ∨ 1048576 ≤ v
def bitF (n : Bool) : Int := if n = true then 1 else 0
def makF (v : Int) (n : Bool) : Int := if badF v then 0 else 2 * v + bitF n
def errF (v : Int) : Int := if badF v then 10 else 0
def varF (l : Int) : Int := if l < 0 then -1 else l / 2
def negF (l : Int) : Bool := decide (0 ≤ l ∧ l % 2 = 1)
def notF (l : Int) : Int := if l < 0 then l else if l % 2 = 1 then l - 1 else l + 1
def numF (l : Int) : Int := if l < 0 then 0 else if l % 2 = 1 then -(l / 2 + 1) else l / 2 + 1
def vofF (n : Int) : Int := if n < 0 then -(n + 1) else n - 1
def sofF (n : Int) : Bool := decide (n < 0)
def truF (v : Int) (len : Nat) (B : Nat → Bool) : Bool := decide (v < len) && B v.toNat
def holF (l : Int) (len : Nat) (B : Nat → Bool) : Bool := if l < 0 then false else truF (l / 2) len B != negF l

theorem wf_i64 {a : Int} (h : (Lit.int .i64 a).wf = true) : -9223372036854775808 ≤ a ∧ a ≤ 9223372036854775807 := by
  simp [Lit.wf, IntKind.min, IntKind.max, IntKind.signed, IntKind.bits] at h; omega

/-- A variable that Make has: what its literal is, and what leads back to it. -/
theorem back_facts (v : Int) (n : Bool) (h : ¬ badF v) (len : Nat) (B : Nat → Bool) :
    0 ≤ makF v n ∧ makF v n ≤ 2097151 ∧ errF v = 0 ∧ -1048576 ≤ numF (makF v n) ∧ numF (makF v n) ≤ 1048576 ∧ makF (vofF (numF (makF v n))) (sofF (numF (makF v n))) = makF v n ∧ errF (vofF (numF (makF v n))) = 0 ∧
      varF (makF v n) = v ∧ negF (makF v n) = n ∧ 0 ≤ notF (makF v n) ∧ notF (makF v n) ≤ 2097151 ∧ notF (notF (makF v n)) = makF v n ∧ notF (makF v n) ≠ makF v n ∧ holF (notF (makF v n)) len B = !(holF (makF v n) len B) := by
  have hb : ¬ (v < 0 ∨ 1048576 ≤ v) := h
  have h0 : 0 ≤ v := by omega
  have h1 : v < 1048576 := by omega
  cases n
  · have e : makF v false = 2 * v := by simp [makF, h, bitF]
    have m0 : (2 * v) % 2 = 0 := by omega
    have d0 : (2 * v) / 2 = v := by omega
    have l0 : ¬ 2 * v < 0 := by omega
    have m1 : (2 * v + 1) % 2 = 1 := by omega
    have d1 : (2 * v + 1) / 2 = v := by omega
    have l1 : ¬ 2 * v + 1 < 0 := by omega
    have nm : numF (2 * v) = v + 1 := by simp only [numF, l0, m0, d0, if_false]; simp
    have ne : notF (2 * v) = 2 * v + 1 := by simp only [notF, l0, m0, if_false]; simp
    have ne' : notF (2 * v + 1) = 2 * v := by simp only [notF, l1, m1, if_false, if_true]; omega
    have n0 : negF (2 * v) = false := by simp only [negF, m0]; simp
    have n1 : negF (2 * v + 1) = true := by simp only [negF, m1]; simp; omega
    have vo : vofF (v + 1) = v := by simp only [vofF]; rw [if_neg (by omega)]; omega
    have so : sofF (v + 1) = false := by simp only [sofF]; simp; omega
    have er : errF v = 0 := by simp [errF, h]
    have hh : holF (2 * v + 1) len B = !(holF (2 * v) len B) := by
      simp only [holF, l0, l1, d0, d1, n0, n1, if_false]
      cases truF v len B <;> rfl
    have va : varF (2 * v) = v := by simp only [varF, l0, d0, if_false]
    rw [e, nm, ne, vo, so, e, ne', er, n0, hh, va]
    refine ⟨?_, ?_, rfl, ?_, ?_, rfl, rfl, rfl, rfl, ?_, ?_, rfl, ?_, rfl⟩ <;> omega
  · have e : makF v true = 2 * v + 1 := by simp [makF, h, bitF]
    have m0 : (2 * v) % 2 = 0 := by omega
    have d0 : (2 * v) / 2 = v := by omega
    have l0 : ¬ 2 * v < 0 := by omega
    have m1 : (2 * v + 1) % 2 = 1 := by omega
    have d1 : (2 * v + 1) / 2 = v := by omega
    have l1 : ¬ 2 * v + 1 < 0 := by omega
    have nm : numF (2 * v + 1) = -(v + 1) := by simp only [numF, l1, m1, d1, if_false, if_true]
    have ne : notF (2 * v) = 2 * v + 1 := by simp only [notF, l0, m0, if_false]; simp
    have ne' : notF (2 * v + 1) = 2 * v := by simp only [notF, l1, m1, if_false, if_true]; omega
    have n0 : negF (2 * v) = false := by simp only [negF, m0]; simp
    have n1 : negF (2 * v + 1) = true := by simp only [negF, m1]; simp; omega
    have vo : vofF (-(v + 1)) = v := by simp only [vofF]; rw [if_pos (by omega)]; omega
    have so : sofF (-(v + 1)) = true := by simp only [sofF]; simp; omega
    have er : errF v = 0 := by simp [errF, h]
    have hh : holF (2 * v) len B = !(holF (2 * v + 1) len B) := by
      simp only [holF, l0, l1, d0, d1, n0, n1, if_false]
      cases truF v len B <;> rfl
    have va : varF (2 * v + 1) = v := by simp only [varF, l1, d1, if_false]
    rw [e, nm, ne', vo, so, e, ne, er, n1, hh, va]
    refine ⟨?_, ?_, rfl, ?_, ?_, rfl, rfl, rfl, rfl, ?_, ?_, rfl, ?_, rfl⟩ <;> omega

/-- A list of truths that came in: nil, or a row of cells in memory. -/
def IsBools (w : World) (a : Option Addr) (len cap : Nat) (B : Nat → Bool) : Prop :=
  (a = none ∧ len = 0 ∧ cap = 0) ∨
  ∃ x, a = some x ∧ len ≤ cap ∧ cap ≤ maxLen ∧ ∀ i, i < len → w.cell? (x.add i) = some (.bool (B i))

theorem cell_lt {w : World} {p : Addr} {v : Value} (h : w.cell? p = some v) : p.block < w.heap.size := by
  by_cases hp : p.block < w.heap.size
  · exact hp
  · exfalso
    have e : w.heap[p.block]? = none := by simp; omega
    simp [World.cell?, e] at h

theorem IsBools.keep {w w' : World} {a : Option Addr} {len cap : Nat} {B : Nat → Bool} (h : IsBools w a len cap B) (b : Below w.heap.size w w') : IsBools w' a len cap B := by
  rcases h with h | ⟨x, rfl, hl, hm, hc⟩
  · exact .inl h
  · refine .inr ⟨x, rfl, hl, hm, fun i hi => ?_⟩
    rw [b.cell (cell_lt (hc i hi))]
    exact hc i hi

theorem Below.next {w w1 w2 : World} (h : Below w.heap.size w w1) (k : Below w1.heap.size w1 w2) : Below w.heap.size w w2 :=
  h.trans (k.mono h.size)

end Go.Proofs.Ytdbgkoncbkbkfaa
