/-
  Lists of numbers in memory; the functions that only read them.
-/
import Derived.Test.YtdkkdfgaponlbaaRefs
import Derived.Test.YtdkkdfgaponlbaaLists
import Derived.LoopTactic
namespace Go.Proofs.Ytdkkdfgaponlbaa
open Go.RowKit
set_option linter.unusedVariables false

def Fit (xs : List Int) : Prop := ∀ x ∈ xs, -9223372036854775808 ≤ x ∧ x ≤ 9223372036854775807

/-- The first n cells behind the address are the numbers xs. -/
def Row (w : World) (ao : Option Addr) (n cap : Nat) (xs : List Int) : Prop :=
  xs.length = n ∧ n ≤ cap ∧ cap ≤ maxLen ∧ (ao = none → cap = 0) ∧ Fit xs ∧ (0 < n → ∃ b off, ao = some ⟨b, off, none⟩ ∧ ∀ j, j < n → w.cell? ⟨b, off + j, none⟩ = some (.int .i64 (xs.getD j 0)))

theorem Row.max {w : World} {ao : Option Addr} {n cap : Nat} {xs : List Int} (h : Row w ao n cap xs) : n ≤ 9223372036854775807 := by
  have := h.2.1; have h2 := h.2.2.1; unfold maxLen at h2; omega

theorem Row.at {w : World} {ao : Option Addr} {n cap : Nat} {xs : List Int} (h : Row w ao n cap xs) {k : Nat} (hk : k < n) :
    ∃ b off y, ao = some ⟨b, off, none⟩ ∧ w.cell? ⟨b, off + k, none⟩ = some (.int .i64 y) ∧ Hid (xs[k]? = some y) ∧ -9223372036854775808 ≤ y ∧ y ≤ 9223372036854775807 := by
  obtain ⟨b, off, e, hc⟩ := h.2.2.2.2.2 (by omega)
  have hl : k < xs.length := by rw [h.1]; exact hk
  have hy : xs[k]? = some (xs.getD k 0) := by simp [hl]
  exact ⟨b, off, xs.getD k 0, e, hc k hk, hy, h.2.2.2.2.1 _ (List.mem_of_getElem? hy)⟩

theorem Row.keep {w w' : World} {ao : Option Addr} {n cap : Nat} {xs : List Int} (h : Row w ao n cap xs) (b : Below w.heap.size w w') : Row w' ao n cap xs := by
  refine ⟨h.1, h.2.1, h.2.2.1, h.2.2.2.1, h.2.2.2.2.1, fun h0 => ?_⟩
  obtain ⟨k, off, e, hc⟩ := h.2.2.2.2.2 h0
  refine ⟨k, off, e, fun j hj => ?_⟩
  rw [b.cell (cell_lt (hc j hj))]
  exact hc j hj

theorem rhas_any (ao : Option Addr) (n cap : Nat) (xs : List Int) (x : Int) (w : World) (h : Row w ao n cap xs) :
    Calls Try.prog 38 #[.slice ao n cap, .int .i64 x] w fun e w' => e = .returned (.bool (hasF xs x)) ∧ w' = w := by
  have HR : Hid (Row w ao n cap xs) := h
  have hm := h.max
  clear h
  go_enter Try.func38, Try.ntmps38
  go_wp2
  go_loop [5] (fun i => ∃ k : Nat, k ≤ n ∧ i = .int .i64 k ∧ Hid (hasF (xs.take k) x = false)) (fun i => n - (intOf i).toNat)
  case atStart => exact ⟨0, Nat.zero_le _, rfl, rfl⟩
  case round =>
    obtain ⟨k, hk, rfl, hno⟩ := hrel
    by_cases hlt : k < n
    · obtain ⟨b, off, y, rfl, hc, hy, _, _⟩ := HR.out.at hlt
      by_cases he : y = x
      · subst he
        have HV : Hid (hasF xs y = true) := any_hit hy.out (by simp)
        go_wp2
        go_ret
        exact ⟨by rw [HV.out]; rfl, rfl⟩
      · have HV : Hid (hasF (xs.take (k + 1)) x = false) := any_step hno.out hy.out (by simpa using he)
        go_wp2
        go_round
        case rel => exact ⟨k + 1, by omega, by go_num, HV⟩
        case measure => simp [intOf]; omega
    · have HV : Hid (hasF xs x = false) := any_end hno.out (by rw [HR.out.1]; omega)
      go_wp2
      go_ret
      exact ⟨by rw [HV.out]; rfl, rfl⟩

def sameF (xs ys : List Int) : Bool := decide (xs = ys)





theorem rholdsL_any (ao : Option Addr) (n cap : Nat) (xs : List Int) (w : World) (h : Row w ao n cap xs) (a : Option Addr) (len bap : Nat) (B : Nat → Bool) (hB : IsBools w a len bap B) :
    Calls Try.prog 14 #[.slice ao n cap, .slice a len bap] w fun e w' => e = .returned (.bool (holdsF xs len B)) ∧ w' = w := by
  have HR : Hid (Row w ao n cap xs) := h
  have HB : Hid (IsBools w a len bap B) := hB
  have hm := h.max
  clear h hB
  go_enter Try.func14, Try.ntmps14
  go_wp2
  go_loop [5] (fun i => ∃ k : Nat, k ≤ n ∧ i = .int .i64 k ∧ Hid (holdsF (xs.take k) len B = false)) (fun i => n - (intOf i).toNat)
  case atStart => exact ⟨0, Nat.zero_le _, rfl, rfl⟩
  case round =>
    obtain ⟨k, hk, rfl, hno⟩ := hrel
    by_cases hlt : k < n
    · obtain ⟨b, off, y, rfl, hc, hy, _, hu⟩ := HR.out.at hlt
      cases he : holF y len B
      · have HV : Hid (holdsF (xs.take (k + 1)) len B = false) := any_step hno.out hy.out he
        go_wp2_with (go_at_call 22; with_reducible (refine (rholds_any _ _ _ _ _ B HB.out hu).mono ?_); rintro e w1 ⟨rfl, rfl⟩)
        go_round
        case rel => exact ⟨k + 1, by omega, by go_num, HV⟩
        case measure => simp [intOf]; omega
      · have HV : Hid (holdsF xs len B = true) := any_hit hy.out he
        go_wp2_with (go_at_call 22; with_reducible (refine (rholds_any _ _ _ _ _ B HB.out hu).mono ?_); rintro e w1 ⟨rfl, rfl⟩)
        go_ret
        exact ⟨by rw [HV.out]; rfl, rfl⟩
    · have HV : Hid (holdsF xs len B = false) := any_end hno.out (by rw [HR.out.1]; omega)
      go_wp2
      go_ret
      exact ⟨by rw [HV.out]; rfl, rfl⟩



end Go.Proofs.Ytdkkdfgaponlbaa
