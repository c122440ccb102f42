/-
  Few clauses.
-/
import Derived.Test.YtikdmgemhfmipaaMU1
namespace Go.Proofs.Ytikdmgemhfmipaa.U
open Go.RowKit
set_option linter.unusedVariables false

def longF (xs : List Int) : Bool := decide (40 < xs.length)

def fewF (xss : List (List Int)) (most : Int) : Int := if most < xss.length then 0 else if xss.any longF = true then 0 else 1

theorem few_any (ao : Option Addr) (n cap : Nat) (xss : List (List Int)) (most : Int) (w : World) (h : Grid w ao n cap xss) :
    Calls Try.prog 5 #[.slice ao n cap, .int .i64 most] w fun e w' => e = .returned (.int .i64 (fewF xss most)) ∧ w' = w := by
  have HR : Hid (Grid w ao n cap xss) := h
  have hm := h.max
  have hl := h.1
  clear h
  by_cases hb : most < n
  · have HV : Hid (fewF xss most = 0) := by show _ = _; simp only [fewF]; rw [if_pos (by omega)]
    clear hl
    go_enter Try.func5, Try.ntmps5
    go_wp2
    go_ret
    exact ⟨by rw [HV.out]; rfl, rfl⟩
  · have HV : Hid (fewF xss most = if xss.any longF = true then 0 else 1) := by show _ = _; simp only [fewF]; rw [if_neg (by omega)]
    clear hl
    go_enter Try.func5, Try.ntmps5
    go_wp2
    go_loop [5] (fun i => ∃ k : Nat, k ≤ n ∧ i = .int .i64 k ∧ Hid ((xss.take k).any longF = false)) (fun i => n - (intOf i).toNat)
    case atStart => exact ⟨0, Nat.zero_le _, rfl, rfl⟩
    case round =>
      obtain ⟨k, hk, rfl, hno⟩ := hrel
      by_cases hlt : k < n
      · obtain ⟨b, off, a, m, c, ys, rfl, hc, hy, hr⟩ := HR.out.at hlt
        have hm2 := hr.out.max
        by_cases he : 40 < m
        · have HW : Hid (fewF xss most = 0) := by
            show _ = _; rw [HV.out, if_pos (gany_hit hy.out (by simp only [longF, decide_eq_true_eq]; rw [hr.out.1]; exact he))]
          have he' : (40 : Int) < m := by omega
          go_wp2
          go_ret
          exact ⟨by rw [HW.out]; rfl, rfl⟩
        · have HW : Hid ((xss.take (k + 1)).any longF = false) := gany_step hno.out hy.out (by simp only [longF, decide_eq_false_iff_not]; rw [hr.out.1]; exact he)
          have he' : ¬ (40 : Int) < m := by omega
          go_wp2
          go_round
          case rel => exact ⟨k + 1, by omega, by go_num, HW⟩
          case measure => simp [intOf]; omega
      · have HW : Hid (fewF xss most = 1) := by
          have := gany_end hno.out (by rw [HR.out.1]; omega)
          show _ = _; rw [HV.out, this]; rfl
        go_wp2
        go_ret
        exact ⟨by rw [HW.out]; rfl, rfl⟩

theorem few_len {xss : List (List Int)} {most : Nat} (h : ¬ fewF xss most = 0) : xss.length ≤ most := by
  by_cases hl : (most : Int) < xss.length
  · exact absurd (by simp only [fewF]; rw [if_pos hl]) h
  · omega

theorem few_short {xss : List (List Int)} {most : Int} (h : ¬ fewF xss most = 0) : ∀ c ∈ xss, c.length ≤ 40 := by
  intro c hc
  by_cases h1 : most < xss.length
  · exact absurd (by simp only [fewF]; rw [if_pos h1]) h
  · cases h2 : xss.any longF
    · have := List.any_eq_false.1 h2 c hc
      simp [longF] at this; omega
    · exact absurd (by simp only [fewF]; rw [if_neg h1, if_pos h2]) h


end Go.Proofs.Ytikdmgemhfmipaa.U
