/-
  Lists of clauses in memory; the functions that only read them.
-/
import Derived.Test.YtdkkdfgaponlbaaRead
namespace Go.Proofs.Ytdkkdfgaponlbaa
open Go.RowKit
set_option linter.unusedVariables false

theorem gany_step {α : Type} {xs : List α} {p : α → Bool} {k : Nat} {y : α} (h : (xs.take k).any p = false) (hy : xs[k]? = some y) (hp : p y = false) : (xs.take (k + 1)).any p = false := by
  rw [List.take_add_one, List.any_append, h, hy]; simp [hp]

theorem gany_hit {α : Type} {xs : List α} {p : α → Bool} {k : Nat} {y : α} (hy : xs[k]? = some y) (hp : p y = true) : xs.any p = true :=
  List.any_eq_true.2 ⟨y, List.mem_of_getElem? hy, hp⟩

theorem gany_end {α : Type} {xs : List α} {p : α → Bool} {k : Nat} (h : (xs.take k).any p = false) (hk : xs.length ≤ k) : xs.any p = false := by
  rwa [List.take_of_length_le hk] at h

def missF (len : Nat) (B : Nat → Bool) (xs : List Int) : Bool := !holdsF xs len B

def fstN (xss : List (List Int)) (len : Nat) (B : Nat → Bool) : Int := match xss.findIdx? (missF len B) with
  | some i => (i : Int)
  | none => -1

theorem fstN_hit {xss : List (List Int)} {len : Nat} {B : Nat → Bool} {k : Nat} {xs : List Int} (h : (xss.take k).any (missF len B) = false) (hy : xss[k]? = some xs) (hp : missF len B xs = true) : fstN xss len B = k := by
  obtain ⟨hk, rfl⟩ := List.getElem?_eq_some_iff.1 hy
  have e : xss.findIdx? (missF len B) = some k := by
    rw [List.findIdx?_eq_some_iff_getElem]
    refine ⟨hk, hp, fun j hj => ?_⟩
    rw [List.any_eq_false] at h
    exact h _ (List.mem_take_iff_getElem.2 ⟨j, by omega, rfl⟩)
  rw [fstN, e]

theorem fstN_end {xss : List (List Int)} {len : Nat} {B : Nat → Bool} (h : xss.any (missF len B) = false) : fstN xss len B = -1 := by
  have e : xss.findIdx? (missF len B) = none := by
    rw [List.findIdx?_eq_none_iff]
    intro x hx
    rw [List.any_eq_false] at h
    simpa using h x hx
  rw [fstN, e]

theorem fstN_neg (xss : List (List Int)) (len : Nat) (B : Nat → Bool) : decide (fstN xss len B < 0) = !(xss.any (missF len B)) := by
  cases h : xss.any (missF len B)
  · rw [fstN_end h]; rfl
  · have : ∃ i, xss.findIdx? (missF len B) = some i := by
      cases e : xss.findIdx? (missF len B)
      · rw [List.findIdx?_eq_none_iff] at e
        obtain ⟨x, hx, hp⟩ := List.any_eq_true.1 h
        rw [e x hx] at hp; simp at hp
      · exact ⟨_, rfl⟩
    obtain ⟨i, e⟩ := this
    rw [fstN, e]
    simp

/-- The first n cells behind the address are the lists xss. -/
def Grid (w : World) (ao : Option Addr) (n cap : Nat) (xss : List (List Int)) : Prop :=
  xss.length = n ∧ n ≤ cap ∧ cap ≤ maxLen ∧ (ao = none → cap = 0) ∧ (0 < n → ∃ b off, ao = some ⟨b, off, none⟩ ∧ ∀ j, j < n → ∃ a m c, w.cell? ⟨b, off + j, none⟩ = some (.slice a m c) ∧ Row w a m c (xss.getD j []))

theorem Grid.max {w : World} {ao : Option Addr} {n cap : Nat} {xss : List (List Int)} (h : Grid w ao n cap xss) : n ≤ 9223372036854775807 := by
  have := h.2.1; have h2 := h.2.2.1; unfold maxLen at h2; omega

theorem Grid.at {w : World} {ao : Option Addr} {n cap : Nat} {xss : List (List Int)} (h : Grid w ao n cap xss) {k : Nat} (hk : k < n) :
    ∃ b off a m c ys, ao = some ⟨b, off, none⟩ ∧ w.cell? ⟨b, off + k, none⟩ = some (.slice a m c) ∧ Hid (xss[k]? = some ys) ∧ Hid (Row w a m c ys) := by
  obtain ⟨b, off, e, hc⟩ := h.2.2.2.2 (by omega)
  obtain ⟨a, m, c, h1, h2⟩ := hc k hk
  have hl : k < xss.length := by rw [h.1]; exact hk
  exact ⟨b, off, a, m, c, xss.getD k [], e, h1, by show _ = _; simp [hl], h2⟩

theorem Grid.keep {w w' : World} {ao : Option Addr} {n cap : Nat} {xss : List (List Int)} (h : Grid w ao n cap xss) (b : Below w.heap.size w w') : Grid w' ao n cap xss := by
  refine ⟨h.1, h.2.1, h.2.2.1, h.2.2.2.1, fun h0 => ?_⟩
  obtain ⟨k, off, e, hc⟩ := h.2.2.2.2 h0
  refine ⟨k, off, e, fun j hj => ?_⟩
  obtain ⟨a, m, c, h1, h2⟩ := hc j hj
  exact ⟨a, m, c, by rw [b.cell (cell_lt h1)]; exact h1, h2.keep b⟩

def longF (xs : List Int) : Bool := decide (40 < xs.length)

def fewF (xss : List (List Int)) (most : Int) : Int := if most < xss.length then 0 else if xss.any longF = true then 0 else 1

theorem few_any (ao : Option Addr) (n cap : Nat) (xss : List (List Int)) (most : Int) (w : World) (h : Grid w ao n cap xss) :
    Calls Try.prog 5 #[.slice ao n cap, .int .i64 most] w fun e w' => e = .returned (.int .i64 (fewF xss most)) ∧ w' = w := by
  have HR : Hid (Grid w ao n cap xss) := h
  have hm := h.max
  have hl := h.1
  clear h
  by_cases hb : most < n
  · have HV : Hid (fewF xss most = 0) := by show _ = _; simp only [fewF]; rw [if_pos (by omega)]
    clear hl
    go_enter Try.func5, Try.ntmps5
    go_wp2
    go_ret
    exact ⟨by rw [HV.out]; rfl, rfl⟩
  · have HV : Hid (fewF xss most = if xss.any longF = true then 0 else 1) := by show _ = _; simp only [fewF]; rw [if_neg (by omega)]
    clear hl
    go_enter Try.func5, Try.ntmps5
    go_wp2
    go_loop [5] (fun i => ∃ k : Nat, k ≤ n ∧ i = .int .i64 k ∧ Hid ((xss.take k).any longF = false)) (fun i => n - (intOf i).toNat)
    case atStart => exact ⟨0, Nat.zero_le _, rfl, rfl⟩
    case round =>
      obtain ⟨k, hk, rfl, hno⟩ := hrel
      by_cases hlt : k < n
      · obtain ⟨b, off, a, m, c, ys, rfl, hc, hy, hr⟩ := HR.out.at hlt
        have hm2 := hr.out.max
        by_cases he : 40 < m
        · have HW : Hid (fewF xss most = 0) := by
            show _ = _; rw [HV.out, if_pos (gany_hit hy.out (by simp only [longF, decide_eq_true_eq]; rw [hr.out.1]; exact he))]
          have he' : (40 : Int) < m := by omega
          go_wp2
          go_ret
          exact ⟨by rw [HW.out]; rfl, rfl⟩
        · have HW : Hid ((xss.take (k + 1)).any longF = false) := gany_step hno.out hy.out (by simp only [longF, decide_eq_false_iff_not]; rw [hr.out.1]; exact he)
          have he' : ¬ (40 : Int) < m := by omega
          go_wp2
          go_round
          case rel => exact ⟨k + 1, by omega, by go_num, HW⟩
          case measure => simp [intOf]; omega
      · have HW : Hid (fewF xss most = 1) := by
          have := gany_end hno.out (by rw [HR.out.1]; omega)
          show _ = _; rw [HV.out, this]; rfl
        go_wp2
        go_ret
        exact ⟨by rw [HW.out]; rfl, rfl⟩

theorem rholdsG_any (ao : Option Addr) (n cap : Nat) (xss : List (List Int)) (w : World) (h : Grid w ao n cap xss) (a : Option Addr) (len bap : Nat) (B : Nat → Bool) (hB : IsBools w a len bap B) :
    Calls Try.prog 13 #[.slice ao n cap, .slice a len bap] w fun e w' => e = .returned (.int .i64 (fstN xss len B)) ∧ w' = w := by
  have HR : Hid (Grid w ao n cap xss) := h
  have HB : Hid (IsBools w a len bap B) := hB
  have hm := h.max
  clear h hB
  go_enter Try.func13, Try.ntmps13
  go_wp2
  go_loop [5] (fun i => ∃ k : Nat, k ≤ n ∧ i = .int .i64 k ∧ Hid ((xss.take k).any (missF len B) = false)) (fun i => n - (intOf i).toNat)
  case atStart => exact ⟨0, Nat.zero_le _, rfl, rfl⟩
  case round =>
    obtain ⟨k, hk, rfl, hno⟩ := hrel
    by_cases hlt : k < n
    · obtain ⟨b, off, a1, m1, c1, ys, rfl, hc, hy, hr⟩ := HR.out.at hlt
      cases he : missF len B ys
      · have HV : Hid ((xss.take (k + 1)).any (missF len B) = false) := gany_step hno.out hy.out he
        have he2 : holdsF ys len B = true := by simpa [missF] using he
        go_wp2_with (go_at_call 14; with_reducible (refine (rholdsL_any _ _ _ ys _ hr.out _ _ _ B HB.out).mono ?_); rintro e w1 ⟨rfl, rfl⟩)
        go_round
        case rel => exact ⟨k + 1, by omega, by go_num, HV⟩
        case measure => simp [intOf]; omega
      · have HV : Hid (fstN xss len B = k) := fstN_hit hno.out hy.out he
        have he2 : holdsF ys len B = false := by simpa [missF] using he
        go_wp2_with (go_at_call 14; with_reducible (refine (rholdsL_any _ _ _ ys _ hr.out _ _ _ B HB.out).mono ?_); rintro e w1 ⟨rfl, rfl⟩)
        go_ret
        exact ⟨by rw [HV.out]; rfl, rfl⟩
    · have HV : Hid (fstN xss len B = -1) := fstN_end (gany_end hno.out (by rw [HR.out.1]; omega))
      go_wp2
      go_ret
      exact ⟨by rw [HV.out]; rfl, rfl⟩

end Go.Proofs.Ytdkkdfgaponlbaa
