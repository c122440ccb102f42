/-
  What a walk is told of a list of numbers that came in, and what is true of resolved clauses.
-/
import Derived.Test.YtgnoejcekbfkoaaAwake
import Derived.Deep.Grids
namespace Go.Proofs.Ytgnoejcekbfkoaa
open Go.RowKit
set_option linter.unusedVariables false

/-- Nil, or a row of 'cap' cells, of which the first 'len' are the list. -/
def IsRow (k : IntKind) (w : World) (a : Option Addr) (len cap : Nat) (zs : List Int) : Prop :=
  (a = none ∧ len = 0 ∧ cap = 0 ∧ zs = []) ∨
  ∃ x, a = some x ∧ len ≤ cap ∧ cap ≤ maxLen ∧ zs.length = cap ∧ (∀ i, i < zs.length → w.cell? (x.add i) = some (.int k (zs.getD i 0))) ∧ ∀ n ∈ zs, (Lit.int k n).wf = true

theorem IsRow.row {w : World} {a : Option Addr} {len cap : Nat} {zs : List Int} (h : IsRow .i64 w a len cap zs) : Hid (Row w a len cap (zs.take len)) := by
  show Row w a len cap (zs.take len)
  rcases h with ⟨rfl, rfl, rfl, rfl⟩ | ⟨⟨b, off, spot⟩, rfl, hl, hm, hz, hc, hw⟩
  · exact row_nil w
  · refine ⟨by rw [List.length_take]; omega, hl, hm, fun e => by simp at e, fun x hx => wf_i64 (hw x (List.mem_of_mem_take hx)), fun h0 => ?_⟩
    have hspot : spot = none := by simpa [Addr.add] using World.cell?_spot (hc 0 (by omega))
    subst hspot
    refine ⟨b, off, rfl, fun j hj => ?_⟩
    have := hc j (by omega)
    have e : (zs.take len).getD j 0 = zs.getD j 0 := by simp [hj]
    rw [e]
    by_cases h0 : j = 0
    · subst h0; simpa [Addr.add] using this
    · simpa [Addr.add, h0] using this

theorem same_self (ao bo : Option Addr) (n m cap cbp : Nat) (xs : List Int) (w : World) (h : Row w ao n cap xs) (g : Row w bo m cbp xs) :
    Calls Try.prog 11 #[.slice ao n cap, .slice bo m cbp] w fun e w' => e = .returned (.bool true) ∧ Below w.heap.size w w' := by
  refine (same_any ao bo n m cap cbp xs xs w h g).mono ?_
  rintro e w' ⟨rfl, hb⟩
  exact ⟨by simp [sameF], hb⟩

theorem keepH {w w' : World} {ao : Option Addr} {n cap : Nat} {xs : List Int} (h : Hid (Row w ao n cap xs)) (b : Below w.heap.size w w') : Hid (Row w' ao n cap xs) := h.out.keep b
theorem keepB {w w' : World} {a : Option Addr} {len cap : Nat} {B : Nat → Bool} (h : Hid (IsBools w a len cap B)) (b : Below w.heap.size w w') : Hid (IsBools w' a len cap B) := IsBools.keep h.out b

/-! ### What is resolved holds where both hold -/
theorem hol_not {x : Int} (h : 0 ≤ x) (len : Nat) (B : Nat → Bool) : holF (notF x) len B = !(holF x len B) := by
  have hx : ¬ x < 0 := by omega
  by_cases hp : x % 2 = 1
  · have e : notF x = x - 1 := by simp [notF, hx, hp]
    have h1 : ¬ x - 1 < 0 := by omega
    have h2 : (x - 1) / 2 = x / 2 := by omega
    have n0 : negF (x - 1) = false := by simp [negF]; omega
    have n1 : negF x = true := by simp [negF, hp, h]
    rw [e]
    simp only [holF, h1, hx, h2, n0, n1, if_false]
    cases truF (x / 2) len B <;> rfl
  · have e : notF x = x + 1 := by simp [notF, hx, hp]
    have h1 : ¬ x + 1 < 0 := by omega
    have h2 : (x + 1) / 2 = x / 2 := by omega
    have n0 : negF (x + 1) = true := by simp [negF]; omega
    have n1 : negF x = false := by simp [negF]; omega
    rw [e]
    simp only [holF, h1, hx, h2, n0, n1, if_false]
    cases truF (x / 2) len B <;> rfl

theorem holds_iff (l : List Int) (len : Nat) (B : Nat → Bool) : holdsF l len B = true ↔ ∃ x ∈ l, holF x len B = true := by simp [holdsF]

theorem sound {a b : List Int} {v : Int} {len : Nat} {B : Nat → Bool} (he : resE a b v = 0) (ha : holdsF a len B = true) (hb : holdsF b len B = true) : holdsF (resF a b v) len B = true := by
  cases g1 : badL a
  · cases g2 : badL b
    · cases g3 : meetF a b v
      · simp [resE, g1, g2, g3] at he
      · have e : resF a b v = rise (butF a (2 * v) ++ butF b (2 * v + 1)) := by simp [resF, g1, g2, g3]
        have hv : 0 ≤ v := by
          rw [meetF, Bool.and_eq_true, Bool.and_eq_true, decide_eq_true_iff] at g3; exact g3.1.1
        rw [e, holds_iff]
        obtain ⟨x, hx, hh⟩ := (holds_iff _ _ _).1 ha
        obtain ⟨y, hy, hg⟩ := (holds_iff _ _ _).1 hb
        by_cases hxv : x = 2 * v
        · by_cases hyv : y = 2 * v + 1
          · exfalso
            have n1 : notF (2 * v) = 2 * v + 1 := by simp [notF]; omega
            have := hol_not (x := 2 * v) (by omega) len B
            rw [n1] at this
            rw [hxv] at hh; rw [hyv] at hg
            rw [hh, hg] at this; simp at this
          · exact ⟨y, (mem_rise _ _).2 (List.mem_append.2 (.inr (by simp [butF, hy, hyv]))), hg⟩
        · exact ⟨x, (mem_rise _ _).2 (List.mem_append.2 (.inl (by simp [butF, hx, hxv]))), hh⟩
    · simp [resE, g1, g2] at he
  · simp [resE, g1] at he

end Go.Proofs.Ytgnoejcekbfkoaa
