/-
  Lists of clauses in memory; the functions that only read them.
-/
import Derived.Test.YtogjafmpoepgbaaCnf
namespace Go.Proofs.Ytogjafmpoepgbaa
open Go.RowKit
set_option linter.unusedVariables false

/-- The first n cells behind the address are the lists xss. -/
def Grid (w : World) (ao : Option Addr) (n cap : Nat) (xss : List (List Int)) : Prop :=
  xss.length = n ∧ n ≤ cap ∧ cap ≤ maxLen ∧ (ao = none → cap = 0) ∧ (0 < n → ∃ b off, ao = some ⟨b, off, none⟩ ∧ ∀ j, j < n → ∃ a m c, w.cell? ⟨b, off + j, none⟩ = some (.slice a m c) ∧ Row w a m c (xss.getD j []))

theorem Grid.max {w : World} {ao : Option Addr} {n cap : Nat} {xss : List (List Int)} (h : Grid w ao n cap xss) : n ≤ 9223372036854775807 := by
  have := h.2.1; have h2 := h.2.2.1; unfold maxLen at h2; omega

theorem Grid.at {w : World} {ao : Option Addr} {n cap : Nat} {xss : List (List Int)} (h : Grid w ao n cap xss) {k : Nat} (hk : k < n) :
    ∃ b off a m c ys, ao = some ⟨b, off, none⟩ ∧ w.cell? ⟨b, off + k, none⟩ = some (.slice a m c) ∧ Hid (xss[k]? = some ys) ∧ Hid (Row w a m c ys) := by
  obtain ⟨b, off, e, hc⟩ := h.2.2.2.2 (by omega)
  obtain ⟨a, m, c, h1, h2⟩ := hc k hk
  have hl : k < xss.length := by rw [h.1]; exact hk
  exact ⟨b, off, a, m, c, xss.getD k [], e, h1, by show _ = _; simp [hl], h2⟩

theorem Grid.keep {w w' : World} {ao : Option Addr} {n cap : Nat} {xss : List (List Int)} (h : Grid w ao n cap xss) (b : Below w.heap.size w w') : Grid w' ao n cap xss := by
  refine ⟨h.1, h.2.1, h.2.2.1, h.2.2.2.1, fun h0 => ?_⟩
  obtain ⟨k, off, e, hc⟩ := h.2.2.2.2 h0
  refine ⟨k, off, e, fun j hj => ?_⟩
  obtain ⟨a, m, c, h1, h2⟩ := hc j hj
  exact ⟨a, m, c, by rw [b.cell (cell_lt h1)]; exact h1, h2.keep b⟩

/-! ### Few -/
def longF (xs : List Int) : Bool := decide (40 < xs.length)
def fewF (xss : List (List Int)) (most : Int) : Int := if most < xss.length then 0 else if xss.any longF = true then 0 else 1

theorem few_any (ao : Option Addr) (n cap : Nat) (xss : List (List Int)) (most : Int) (w : World) (h : Grid w ao n cap xss) :
    Calls Try.prog 6 #[.slice ao n cap, .int .i64 most] w fun e w' => e = .returned (.int .i64 (fewF xss most)) ∧ w' = w := by
  have HR : Hid (Grid w ao n cap xss) := h
  have hm := h.max
  have hl := h.1
  clear h
  by_cases hb : most < n
  · have HV : Hid (fewF xss most = 0) := by show _ = _; simp only [fewF]; rw [if_pos (by omega)]
    clear hl
    go_enter Try.func6, Try.ntmps6
    go_wp2
    go_ret
    exact ⟨by rw [HV.out]; rfl, rfl⟩
  · have HV : Hid (fewF xss most = if xss.any longF = true then 0 else 1) := by show _ = _; simp only [fewF]; rw [if_neg (by omega)]
    clear hl
    go_enter Try.func6, Try.ntmps6
    go_wp2
    go_loop [5] (fun i => ∃ k : Nat, k ≤ n ∧ i = .int .i64 k ∧ Hid ((xss.take k).any longF = false)) (fun i => n - (intOf i).toNat)
    case atStart => exact ⟨0, Nat.zero_le _, rfl, rfl⟩
    case round =>
      obtain ⟨k, hk, rfl, hno⟩ := hrel
      by_cases hlt : k < n
      · obtain ⟨b, off, a, m, c, ys, rfl, hc, hy, hr⟩ := HR.out.at hlt
        have hm2 := hr.out.max
        by_cases he : 40 < m
        · have HW : Hid (fewF xss most = 0) := by
            show _ = _; rw [HV.out, if_pos (gany_hit hy.out (by simp only [longF, decide_eq_true_eq]; rw [hr.out.1]; exact he))]
          have he' : (40 : Int) < m := by omega
          go_wp2
          go_ret
          exact ⟨by rw [HW.out]; rfl, rfl⟩
        · have HW : Hid ((xss.take (k + 1)).any longF = false) := gany_step hno.out hy.out (by simp only [longF, decide_eq_false_iff_not]; rw [hr.out.1]; exact he)
          have he' : ¬ (40 : Int) < m := by omega
          go_wp2
          go_round
          case rel => exact ⟨k + 1, by omega, by go_num, HW⟩
          case measure => simp [intOf]; omega
      · have HW : Hid (fewF xss most = 1) := by
          have := gany_end hno.out (by rw [HR.out.1]; omega)
          show _ = _; rw [HV.out, this]; rfl
        go_wp2
        go_ret
        exact ⟨by rw [HW.out]; rfl, rfl⟩

/-! ### Holds, of all clauses -/
theorem holds2_any (ao : Option Addr) (n cap : Nat) (xs : List Int) (p : Nat) (w : World) (h : Row w ao n cap xs) (a : Option Addr) (len bap : Nat) (B : Nat → Bool) (hc : w.cell? ⟨p, 0, none⟩ = some (.slice a len bap)) (hB : IsBools w a len bap B) :
    Calls Try.prog 19 #[.slice ao n cap, .pointer (some ⟨p, 0, none⟩)] w fun e w' => e = .returned (.bool (missF len B xs)) ∧ Below w.heap.size w w' := by
  have HB : Hid (IsBools w a len bap B) := hB
  have HR : Hid (Row w ao n cap xs) := h
  clear hB h
  go_enter Try.func19, Try.ntmps19
  go_wp2_with (go_at_call 20; with_reducible (refine (holdsC_any _ _ _ xs _ HR.out _ _ _ B HB.out).mono ?_); rintro e w1 ⟨rfl, hb⟩)
  go_ret
  exact ⟨rfl, hb⟩

theorem indexG_any (ao : Option Addr) (n cap : Nat) (xss : List (List Int)) (p : Nat) (w : World) (h : Grid w ao n cap xss) (a : Option Addr) (len bap : Nat) (B : Nat → Bool) (hp : w.cell? ⟨p, 0, none⟩ = some (.slice a len bap)) (hB : IsBools w a len bap B) :
    Calls Try.prog 18 #[.slice ao n cap, .func (.func 19) #[] #[.pointer (some ⟨p, 0, none⟩)]] w fun e w' => e = .returned (.int .i64 (fstN xss len B)) ∧ Below w.heap.size w w' := by
  have HR : Hid (Grid w ao n cap xss) := h
  have HB : Hid (IsBools w a len bap B) := hB
  have HP : Hid (w.cell? ⟨p, 0, none⟩ = some (.slice a len bap)) := hp
  have hm := h.max
  clear h hB hp
  go_enter Try.func18, Try.ntmps18
  go_wp2
  go_loopw [8] (fun i wr => ∃ k : Nat, k ≤ n ∧ i = .int .i64 k ∧ Hid ((xss.take k).any (missF len B) = false) ∧ Below w.heap.size w wr) (fun i _ => n - (intOf i).toNat)
  case atStart => exact ⟨0, Nat.zero_le _, rfl, rfl, Below.refl _ _⟩
  case round =>
    obtain ⟨k, hk, rfl, hno, hb⟩ := hrel
    by_cases hlt : k < n
    · obtain ⟨b, off, a1, m1, c1, ys, rfl, hc, hy, hr⟩ := (HR.out.keep hb).at hlt
      have HP2 : Hid (wr.cell? ⟨p, 0, none⟩ = some (.slice a len bap)) := (hb.cell (cell_lt HP.out)).trans HP.out
      have HB2 : Hid (IsBools wr a len bap B) := HB.out.keep hb
      cases he : missF len B ys
      · have HV : Hid ((xss.take (k + 1)).any (missF len B) = false) := gany_step hno.out hy.out he
        go_wp2_with (go_at_call 19; with_reducible (refine (holds2_any _ _ _ ys _ _ hr.out _ _ _ B HP2.out HB2.out).mono ?_); rintro e w1 ⟨rfl, hb1⟩)
        go_roundw
        case rel => exact ⟨k + 1, by omega, by go_num, HV, Below.next hb hb1⟩
        case measure => simp [intOf]; omega
      · have HV : Hid (fstN xss len B = k) := fstN_hit hno.out hy.out he
        go_wp2_with (go_at_call 19; with_reducible (refine (holds2_any _ _ _ ys _ _ hr.out _ _ _ B HP2.out HB2.out).mono ?_); rintro e w1 ⟨rfl, hb1⟩)
        go_ret
        exact ⟨by rw [HV.out]; rfl, Below.next hb hb1⟩
    · have HV : Hid (fstN xss len B = -1) := fstN_end (gany_end hno.out (by rw [HR.out.1]; omega))
      go_wp2
      go_ret
      exact ⟨by rw [HV.out]; rfl, hb⟩

theorem holdsG_any (ao : Option Addr) (n cap : Nat) (xss : List (List Int)) (w : World) (h : Grid w ao n cap xss) (a : Option Addr) (len bap : Nat) (B : Nat → Bool) (hB : IsBools w a len bap B) :
    Calls Try.prog 10 #[.slice ao n cap, .slice a len bap] w fun e w' => e = .returned (.int .i64 (fstN xss len B)) ∧ Below w.heap.size w w' := by
  have hb : Below w.heap.size w (w.alloc (.cells #[.slice a len bap] 23)) := (Below.refl _ _).alloc (Nat.le_refl _) _
  have HR : Hid (Grid (w.alloc (.cells #[.slice a len bap] 23)) ao n cap xss) := h.keep hb
  have HB : Hid (IsBools (w.alloc (.cells #[.slice a len bap] 23)) a len bap B) := hB.keep hb
  have HP : Hid ((w.alloc (.cells #[.slice a len bap] 23)).cell? ⟨w.heap.size, 0, none⟩ = some (.slice a len bap)) := by show _ = _; simp
  clear h hB
  go_enter Try.func10, Try.ntmps10
  go_wp2_with (go_at_call 18; with_reducible (refine (indexG_any _ _ _ xss _ _ HR.out _ _ _ B HP.out HB.out).mono ?_); rintro e w1 ⟨rfl, hc⟩)
  go_ret
  exact ⟨rfl, Below.next hb hc⟩

theorem rholdsG_any (ao : Option Addr) (n cap : Nat) (xss : List (List Int)) (w : World) (h : Grid w ao n cap xss) (a : Option Addr) (len bap : Nat) (B : Nat → Bool) (hB : IsBools w a len bap B) :
    Calls Try.prog 11 #[.slice ao n cap, .slice a len bap] w fun e w' => e = .returned (.int .i64 (fstN xss len B)) ∧ w' = w := by
  have HR : Hid (Grid w ao n cap xss) := h
  have HB : Hid (IsBools w a len bap B) := hB
  have hm := h.max
  clear h hB
  go_enter Try.func11, Try.ntmps11
  go_wp2
  go_loop [5] (fun i => ∃ k : Nat, k ≤ n ∧ i = .int .i64 k ∧ Hid ((xss.take k).any (missF len B) = false)) (fun i => n - (intOf i).toNat)
  case atStart => exact ⟨0, Nat.zero_le _, rfl, rfl⟩
  case round =>
    obtain ⟨k, hk, rfl, hno⟩ := hrel
    by_cases hlt : k < n
    · obtain ⟨b, off, a1, m1, c1, ys, rfl, hc, hy, hr⟩ := HR.out.at hlt
      cases he : missF len B ys
      · have HV : Hid ((xss.take (k + 1)).any (missF len B) = false) := gany_step hno.out hy.out he
        have he2 : holdsF ys len B = true := by simpa [missF] using he
        go_wp2_with (go_at_call 21; with_reducible (refine (rholdsL_any _ _ _ ys _ hr.out _ _ _ B HB.out).mono ?_); rintro e w1 ⟨rfl, rfl⟩)
        go_round
        case rel => exact ⟨k + 1, by omega, by go_num, HV⟩
        case measure => simp [intOf]; omega
      · have HV : Hid (fstN xss len B = k) := fstN_hit hno.out hy.out he
        have he2 : holdsF ys len B = false := by simpa [missF] using he
        go_wp2_with (go_at_call 21; with_reducible (refine (rholdsL_any _ _ _ ys _ hr.out _ _ _ B HB.out).mono ?_); rintro e w1 ⟨rfl, rfl⟩)
        go_ret
        exact ⟨by rw [HV.out]; rfl, rfl⟩
    · have HV : Hid (fstN xss len B = -1) := fstN_end (gany_end hno.out (by rw [HR.out.1]; omega))
      go_wp2
      go_ret
      exact ⟨by rw [HV.out]; rfl, rfl⟩

end Go.Proofs.Ytogjafmpoepgbaa
