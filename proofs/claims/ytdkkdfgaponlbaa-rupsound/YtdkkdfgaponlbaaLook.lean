/-
  Whether a list of clauses has an empty one.
-/
import Derived.Test.YtdkkdfgaponlbaaRup
import Derived.Test.YtdkkdfgaponlbaaCat
namespace Go.Proofs.Ytdkkdfgaponlbaa
open Go.RowKit
set_option linter.unusedVariables false

theorem isEmpty_any (a : Option Addr) (n cap : Nat) (xs : List Int) (w : World) (h : Row w a n cap xs) :
    Calls Try.prog 21 #[.slice a n cap] w fun e w' => e = .returned (.bool (nulF xs)) ∧ w' = w := by
  have hm := h.max
  have e1 : nulF xs = decide (n = 0) := by simp only [nulF]; rw [h.1]
  rw [e1]
  clear e1 h
  by_cases h0 : n = 0
  · subst h0
    go_enter Try.func21, Try.ntmps21
    go_wp2
    go_ret
    exact ⟨rfl, rfl⟩
  · have hd : decide (n = 0) = false := by simpa using h0
    rw [hd]
    go_enter Try.func21, Try.ntmps21
    go_wp2
    go_ret
    exact ⟨by simp [h0], rfl⟩

set_option maxHeartbeats 1000000 in
theorem indexE_any (ao : Option Addr) (n cap : Nat) (xss : List (List Int)) (w : World) (h : Grid w ao n cap xss) :
    Calls Try.prog 29 #[.slice ao n cap, .func (.func 21) #[] #[]] w fun e w' => (∃ r : Int, e = .returned (.int .i64 r) ∧ Hid (xss.any nulF = decide (0 ≤ r))) ∧ w' = w := by
  have HR : Hid (Grid w ao n cap xss) := h
  have hm := h.max
  clear h
  go_enter Try.func29, Try.ntmps29
  go_wp2
  go_loop [5, 8] (fun _ i => ∃ k : Nat, k ≤ n ∧ i = .int .i64 k ∧ Hid ((xss.take k).any nulF = false)) (fun _ i => n - (intOf i).toNat)
  case atStart => exact ⟨0, Nat.zero_le _, rfl, rfl⟩
  case round =>
    obtain ⟨k, hk, rfl, hno⟩ := hrel
    by_cases hlt : k < n
    · obtain ⟨b, off, a, m, c, ys, rfl, hc, hy, hrow⟩ := HR.out.at hlt
      cases he : nulF ys
      · have HV : Hid ((xss.take (k + 1)).any nulF = false) := gany_step hno.out hy.out he
        go_wp2_with (go_at_call 21; with_reducible (refine (isEmpty_any _ _ _ ys _ hrow.out).mono ?_); rintro e w1 ⟨rfl, rfl⟩)
        go_round
        case rel => exact ⟨k + 1, by omega, by go_num, HV⟩
        case measure => simp [intOf]; omega
      · have HV : Hid (xss.any nulF = true) := gany_hit hy.out he
        go_wp2_with (go_at_call 21; with_reducible (refine (isEmpty_any _ _ _ ys _ hrow.out).mono ?_); rintro e w1 ⟨rfl, rfl⟩)
        go_ret
        exact ⟨⟨_, rfl, by show _ = _; rw [HV.out]; simp⟩, rfl⟩
    · have HV : Hid (xss.any nulF = false) := gany_end hno.out (by rw [HR.out.1]; omega)
      go_wp2
      go_ret
      exact ⟨⟨_, rfl, by show _ = _; rw [HV.out]; rfl⟩, rfl⟩

theorem containsE_any (ao : Option Addr) (n cap : Nat) (xss : List (List Int)) (w : World) (h : Grid w ao n cap xss) :
    Calls Try.prog 20 #[.slice ao n cap, .func (.func 21) #[] #[]] w fun e w' => e = .returned (.bool (xss.any nulF)) ∧ w' = w := by
  have HR : Hid (Grid w ao n cap xss) := h
  clear h
  go_enter Try.func20, Try.ntmps20
  go_wp2_with (go_at_call 29; with_reducible (refine (indexE_any _ _ _ xss _ HR.out).mono ?_); rintro e w1 ⟨⟨r, rfl, hs⟩, rfl⟩)
  go_ret
  exact ⟨by rw [hs.out]; rfl, rfl⟩

end Go.Proofs.Ytdkkdfgaponlbaa
