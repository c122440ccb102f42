/-
  Lists of numbers side by side: Same.
-/
import Derived.Test.YtimpoagdidnpiaaRlist
namespace Go.Proofs.Ytimpoagdidnpiaa
open Go.RowKit
set_option linter.unusedVariables false

/-- The first n cells behind the address are the numbers xs. -/
def Row (w : World) (ao : Option Addr) (n : Nat) (xs : List Int) : Prop := xs.length = n ∧ ∀ (j : Nat) (x : Int), xs[j]? = some x → ∃ b, ao = some ⟨b, 0, none⟩ ∧ w.cell? ⟨b, j, none⟩ = some (.int .i64 x)

theorem Row.of {w : World} {base : Nat} {ao : Option Addr} {n c : Nat} {xs : List Int} (h : LRow w base (.slice ao n c) xs) : Row w ao n xs := by
  obtain ⟨ao', c', e, _⟩ := h.shape
  cases e
  refine ⟨rfl, fun j x hx => ?_⟩
  rcases id h with ⟨_, e⟩ | ⟨b, cap, cur, e, rest⟩
  · rw [e] at hx; simp at hx
  · cases e
    exact ⟨b, rfl, h.at hx⟩

theorem Row.below {w w' : World} {ao : Option Addr} {n : Nat} {xs : List Int} (h : Row w ao n xs) (b : Below w.heap.size w w') : Row w' ao n xs := by
  refine ⟨h.1, fun j x hx => ?_⟩
  obtain ⟨g, e, hc⟩ := h.2 j x hx
  exact ⟨g, e, (b.cell (cell_lt hc)).trans hc⟩

/-- The list's own block is as it was. -/
theorem Row.same {w w' : World} {ao : Option Addr} {n c : Nat} {xs : List Int} (h : Row w ao n xs) (hb : ∀ j, (Value.slice ao n c).ownBlock = some j → j < w.heap.size → w'.heap[j]? = w.heap[j]?) : Row w' ao n xs := by
  refine ⟨h.1, fun j x hx => ?_⟩
  obtain ⟨g, e, hc⟩ := h.2 j x hx
  have q := hb g (by rw [e]; rfl) (cell_lt hc)
  exact ⟨g, e, (World.cell?_of_block (a := ⟨g, j, none⟩) q).trans hc⟩

theorem Row.take {w : World} {ao : Option Addr} {n m : Nat} {xs : List Int} (h : Row w ao n xs) (hm : m ≤ n) : Row w ao m (xs.take m) := by
  refine ⟨by rw [List.length_take, h.1]; omega, fun j x hx => ?_⟩
  have hj := (List.getElem?_eq_some_iff.1 hx).1
  rw [List.length_take] at hj
  rw [List.getElem?_take_of_lt (by omega)] at hx
  exact h.2 j x hx

def sameF (xs ys : List Int) : Bool := decide (xs = ys)

theorem same_step {xs ys : List Int} {k : Nat} {y : Int} (h : xs.take k = ys.take k) (hx : xs[k]? = some y) (hy : ys[k]? = some y) : xs.take (k + 1) = ys.take (k + 1) := by
  rw [List.take_add_one, List.take_add_one, h, hx, hy]

set_option maxHeartbeats 1000000 in
theorem same_any (ao bo : Option Addr) (n m cap cbp : Nat) (xs ys : List Int) (w : World) (h : Row w ao n xs) (g : Row w bo m ys) (hn : n ≤ 1048576) (hm : m ≤ 1048576) {b : Bool} (hb : sameF xs ys = b) :
    Calls Try.prog 17 #[.slice ao n cap, .slice bo m cbp] w fun e w' => e = .returned (.bool b) ∧ Hid (Below w.heap.size w w') := by
  subst hb
  have HR := hid h
  have GR := hid g
  by_cases hne : n = m
  · subst hne
    clear h g
    go_enter Try.func17, Try.ntmps17
    go_wp2
    go_loopw [5] (fun i wr => ∃ k : Nat, k ≤ n ∧ i = .int .i64 k ∧ Hid (xs.take k = ys.take k) ∧ Hid (Below w.heap.size w wr)) (fun i _ => n - (intOf i).toNat)
    case atStart => exact ⟨0, Nat.zero_le _, rfl, rfl, hid (Below.refl _ _)⟩
    case round =>
      obtain ⟨k, hk, rfl, hno, hb⟩ := hrel
      by_cases hlt : k < n
      · have hlt' : (k : Int) < n := by omega
        obtain ⟨y, hy⟩ : ∃ y, xs[k]? = some y := ⟨_, List.getElem?_eq_getElem (by rw [HR.out.1]; exact hlt)⟩
        obtain ⟨z, hz⟩ : ∃ z, ys[k]? = some z := ⟨_, List.getElem?_eq_getElem (by rw [GR.out.1]; exact hlt)⟩
        obtain ⟨b1, rfl, hc⟩ := (HR.out.below hb.out).2 k y hy
        obtain ⟨c1, rfl, gc⟩ := (GR.out.below hb.out).2 k z hz
        have HY := hid hy
        have HZ := hid hz
        clear hy hz
        by_cases he : y = z
        · subst he
          have HV : Hid (xs.take (k + 1) = ys.take (k + 1)) := same_step hno.out HY.out HZ.out
          go_wp2
          go_region
          all_goals go_wp2
          all_goals go_roundw
          all_goals first | exact ⟨k + 1, by omega, by go_num, HV, hid (hb.out.trans ⟨rfl, rfl, rfl, Nat.le_refl _, fun _ _ => rfl⟩)⟩ | (simp [intOf]; omega)
        · have HV : Hid (sameF xs ys = false) := by
            show sameF xs ys = false
            simp only [sameF, decide_eq_false_iff_not]
            rintro rfl
            have := HY.out.symm.trans HZ.out
            simp at this; exact he this
          have he' : (y == z) = false := by simpa using he
          go_wp2
          go_region
          all_goals go_wp2
          all_goals go_ret
          all_goals exact ⟨by rw [HV.out]; rfl, hid (hb.out.trans ⟨rfl, rfl, rfl, Nat.le_refl _, fun _ _ => rfl⟩)⟩
      · have HV : Hid (sameF xs ys = true) := by
          have e := hno.out
          rw [List.take_of_length_le (by rw [HR.out.1]; omega), List.take_of_length_le (by rw [GR.out.1]; omega)] at e
          show sameF xs ys = true
          simp [sameF, e]
        go_wp2
        go_ret
        exact ⟨by rw [HV.out]; rfl, hb⟩
  · have HV : Hid (sameF xs ys = false) := by
      show sameF xs ys = false
      simp only [sameF, decide_eq_false_iff_not]
      rintro rfl
      exact hne (h.1.symm.trans g.1)
    clear h g
    have hne' : ((n : Int) == (m : Int)) = false := by simp; omega
    go_enter Try.func17, Try.ntmps17
    go_wp2
    go_ret
    exact ⟨by rw [HV.out]; rfl, hid (Below.refl _ _)⟩

end Go.Proofs.Ytimpoagdidnpiaa
