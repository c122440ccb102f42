/-
  Lists of numbers in memory; whether a clause holds.
-/
import Derived.Test.YtogjafmpoepgbaaHolds
import Derived.Test.YtogjafmpoepgbaaRefs
import Derived.LoopTactic
namespace Go.Proofs.Ytogjafmpoepgbaa
open Go.RowKit
set_option linter.unusedVariables false

def holdsF (l : List Int) (len : Nat) (B : Nat → Bool) : Bool := l.any (fun x => holF x len B)

theorem any_step {xs : List Int} {p : Int → Bool} {k : Nat} {y : Int} (h : (xs.take k).any p = false) (hy : xs[k]? = some y) (hp : p y = false) : (xs.take (k + 1)).any p = false := by
  rw [List.take_add_one, List.any_append, h, hy]; simp [hp]

theorem any_hit {xs : List Int} {p : Int → Bool} {k : Nat} {y : Int} (hy : xs[k]? = some y) (hp : p y = true) : xs.any p = true :=
  List.any_eq_true.2 ⟨y, List.mem_of_getElem? hy, hp⟩

theorem any_end {xs : List Int} {p : Int → Bool} {k : Nat} (h : (xs.take k).any p = false) (hk : xs.length ≤ k) : xs.any p = false := by
  rwa [List.take_of_length_le hk] at h

def Fit (xs : List Int) : Prop := ∀ x ∈ xs, -9223372036854775808 ≤ x ∧ x ≤ 9223372036854775807

/-- The first n cells behind the address are the numbers xs. -/
def Row (w : World) (ao : Option Addr) (n cap : Nat) (xs : List Int) : Prop :=
  xs.length = n ∧ n ≤ cap ∧ cap ≤ maxLen ∧ (ao = none → cap = 0) ∧ Fit xs ∧ (0 < n → ∃ b off, ao = some ⟨b, off, none⟩ ∧ ∀ j, j < n → w.cell? ⟨b, off + j, none⟩ = some (.int .i64 (xs.getD j 0)))

theorem Row.max {w : World} {ao : Option Addr} {n cap : Nat} {xs : List Int} (h : Row w ao n cap xs) : n ≤ 9223372036854775807 := by
  have := h.2.1; have h2 := h.2.2.1; unfold maxLen at h2; omega

theorem Row.at {w : World} {ao : Option Addr} {n cap : Nat} {xs : List Int} (h : Row w ao n cap xs) {k : Nat} (hk : k < n) :
    ∃ b off y, ao = some ⟨b, off, none⟩ ∧ w.cell? ⟨b, off + k, none⟩ = some (.int .i64 y) ∧ Hid (xs[k]? = some y) ∧ -9223372036854775808 ≤ y ∧ y ≤ 9223372036854775807 := by
  obtain ⟨b, off, e, hc⟩ := h.2.2.2.2.2 (by omega)
  have hl : k < xs.length := by rw [h.1]; exact hk
  have hy : xs[k]? = some (xs.getD k 0) := by simp [hl]
  exact ⟨b, off, xs.getD k 0, e, hc k hk, hy, h.2.2.2.2.1 _ (List.mem_of_getElem? hy)⟩

theorem Row.keep {w w' : World} {ao : Option Addr} {n cap : Nat} {xs : List Int} (h : Row w ao n cap xs) (b : Below w.heap.size w w') : Row w' ao n cap xs := by
  refine ⟨h.1, h.2.1, h.2.2.1, h.2.2.2.1, h.2.2.2.2.1, fun h0 => ?_⟩
  obtain ⟨k, off, e, hc⟩ := h.2.2.2.2.2 h0
  refine ⟨k, off, e, fun j hj => ?_⟩
  rw [b.cell (cell_lt (hc j hj))]
  exact hc j hj

theorem rholdsL_any (ao : Option Addr) (n cap : Nat) (xs : List Int) (w : World) (h : Row w ao n cap xs) (a : Option Addr) (len bap : Nat) (B : Nat → Bool) (hB : IsBools w a len bap B) :
    Calls Try.prog 21 #[.slice ao n cap, .slice a len bap] w fun e w' => e = .returned (.bool (holdsF xs len B)) ∧ w' = w := by
  have HR : Hid (Row w ao n cap xs) := h
  have HB : Hid (IsBools w a len bap B) := hB
  have hm := h.max
  clear h hB
  go_enter Try.func21, Try.ntmps21
  go_wp2
  go_loop [5] (fun i => ∃ k : Nat, k ≤ n ∧ i = .int .i64 k ∧ Hid (holdsF (xs.take k) len B = false)) (fun i => n - (intOf i).toNat)
  case atStart => exact ⟨0, Nat.zero_le _, rfl, rfl⟩
  case round =>
    obtain ⟨k, hk, rfl, hno⟩ := hrel
    by_cases hlt : k < n
    · obtain ⟨b, off, y, rfl, hc, hy, _, hu⟩ := HR.out.at hlt
      cases he : holF y len B
      · have HV : Hid (holdsF (xs.take (k + 1)) len B = false) := any_step hno.out hy.out he
        go_wp2_with (go_at_call 33; with_reducible (refine (rholds_any _ _ _ _ _ B HB.out hu).mono ?_); rintro e w1 ⟨rfl, rfl⟩)
        go_round
        case rel => exact ⟨k + 1, by omega, by go_num, HV⟩
        case measure => simp [intOf]; omega
      · have HV : Hid (holdsF xs len B = true) := any_hit hy.out he
        go_wp2_with (go_at_call 33; with_reducible (refine (rholds_any _ _ _ _ _ B HB.out hu).mono ?_); rintro e w1 ⟨rfl, rfl⟩)
        go_ret
        exact ⟨by rw [HV.out]; rfl, rfl⟩
    · have HV : Hid (holdsF xs len B = false) := any_end hno.out (by rw [HR.out.1]; omega)
      go_wp2
      go_ret
      exact ⟨by rw [HV.out]; rfl, rfl⟩

theorem holds1_any (x : Int) (p : Nat) (w : World) (a : Option Addr) (len bap : Nat) (B : Nat → Bool) (hc : w.cell? ⟨p, 0, none⟩ = some (.slice a len bap)) (hB : IsBools w a len bap B) (hu : x ≤ 9223372036854775807) :
    Calls Try.prog 31 #[.int .i64 x, .pointer (some ⟨p, 0, none⟩)] w fun e w' => e = .returned (.bool (holF x len B)) ∧ Below w.heap.size w w' := by
  have HB : Hid (IsBools w a len bap B) := hB
  clear hB
  go_enter Try.func31, Try.ntmps31
  go_wp2_with (go_at_call 32; with_reducible (refine (holds_any _ _ _ _ _ B HB.out hu).mono ?_); rintro e w1 ⟨rfl, hb⟩)
  go_ret
  exact ⟨rfl, hb⟩

theorem indexH_any (ao : Option Addr) (n cap : Nat) (xs : List Int) (p : Nat) (w : World) (h : Row w ao n cap xs) (a : Option Addr) (len bap : Nat) (B : Nat → Bool) (hp : w.cell? ⟨p, 0, none⟩ = some (.slice a len bap)) (hB : IsBools w a len bap B) :
    Calls Try.prog 38 #[.slice ao n cap, .func (.func 31) #[] #[.pointer (some ⟨p, 0, none⟩)]] w fun e w' => (∃ r : Int, e = .returned (.int .i64 r) ∧ Hid (holdsF xs len B = decide (0 ≤ r))) ∧ Below w.heap.size w w' := by
  have HR : Hid (Row w ao n cap xs) := h
  have HB : Hid (IsBools w a len bap B) := hB
  have HP : Hid (w.cell? ⟨p, 0, none⟩ = some (.slice a len bap)) := hp
  have hm := h.max
  clear h hB hp
  go_enter Try.func38, Try.ntmps38
  go_wp2
  go_loopw [5, 8] (fun _ i wr => ∃ k : Nat, k ≤ n ∧ i = .int .i64 k ∧ Hid (holdsF (xs.take k) len B = false) ∧ Below w.heap.size w wr) (fun _ i _ => n - (intOf i).toNat)
  case atStart => exact ⟨0, Nat.zero_le _, rfl, rfl, Below.refl _ _⟩
  case round =>
    obtain ⟨k, hk, rfl, hno, hb⟩ := hrel
    by_cases hlt : k < n
    · obtain ⟨b, off, y, rfl, hc, hy, _, hu⟩ := (HR.out.keep hb).at hlt
      have HP2 : Hid (wr.cell? ⟨p, 0, none⟩ = some (.slice a len bap)) := (hb.cell (cell_lt HP.out)).trans HP.out
      have HB2 : Hid (IsBools wr a len bap B) := HB.out.keep hb
      cases he : holF y len B
      · have HV : Hid (holdsF (xs.take (k + 1)) len B = false) := any_step hno.out hy.out he
        go_wp2_with (go_at_call 31; with_reducible (refine (holds1_any _ _ _ _ _ _ B HP2.out HB2.out hu).mono ?_); rintro e w1 ⟨rfl, hb1⟩)
        go_roundw
        case rel => exact ⟨k + 1, by omega, by go_num, HV, Below.next hb hb1⟩
        case measure => simp [intOf]; omega
      · have HV : Hid (holdsF xs len B = true) := any_hit hy.out he
        go_wp2_with (go_at_call 31; with_reducible (refine (holds1_any _ _ _ _ _ _ B HP2.out HB2.out hu).mono ?_); rintro e w1 ⟨rfl, hb1⟩)
        go_ret
        exact ⟨⟨_, rfl, by show _ = _; rw [HV.out]; simp⟩, Below.next hb hb1⟩
    · have HV : Hid (holdsF xs len B = false) := any_end hno.out (by rw [HR.out.1]; omega)
      go_wp2
      go_ret
      exact ⟨⟨_, rfl, by show _ = _; rw [HV.out]; rfl⟩, hb⟩

theorem containsH_any (ao : Option Addr) (n cap : Nat) (xs : List Int) (p : Nat) (w : World) (h : Row w ao n cap xs) (a : Option Addr) (len bap : Nat) (B : Nat → Bool) (hp : w.cell? ⟨p, 0, none⟩ = some (.slice a len bap)) (hB : IsBools w a len bap B) :
    Calls Try.prog 30 #[.slice ao n cap, .func (.func 31) #[] #[.pointer (some ⟨p, 0, none⟩)]] w fun e w' => e = .returned (.bool (holdsF xs len B)) ∧ Below w.heap.size w w' := by
  have HR : Hid (Row w ao n cap xs) := h
  have HB : Hid (IsBools w a len bap B) := hB
  have HP : Hid (w.cell? ⟨p, 0, none⟩ = some (.slice a len bap)) := hp
  clear h hB hp
  go_enter Try.func30, Try.ntmps30
  go_wp2_with (go_at_call 38; with_reducible (refine (indexH_any _ _ _ xs _ _ HR.out _ _ _ B HP.out HB.out).mono ?_); rintro e w1 ⟨⟨r, rfl, hs⟩, hb⟩)
  go_ret
  exact ⟨by rw [hs.out]; rfl, hb⟩

theorem holdsC_any (ao : Option Addr) (n cap : Nat) (xs : List Int) (w : World) (h : Row w ao n cap xs) (a : Option Addr) (len bap : Nat) (B : Nat → Bool) (hB : IsBools w a len bap B) :
    Calls Try.prog 20 #[.slice ao n cap, .slice a len bap] w fun e w' => e = .returned (.bool (holdsF xs len B)) ∧ Below w.heap.size w w' := by
  have hb : Below w.heap.size w (w.alloc (.cells #[.slice a len bap] 23)) := (Below.refl _ _).alloc (Nat.le_refl _) _
  have HR : Hid (Row (w.alloc (.cells #[.slice a len bap] 23)) ao n cap xs) := h.keep hb
  have HB : Hid (IsBools (w.alloc (.cells #[.slice a len bap] 23)) a len bap B) := hB.keep hb
  have HP : Hid ((w.alloc (.cells #[.slice a len bap] 23)).cell? ⟨w.heap.size, 0, none⟩ = some (.slice a len bap)) := by show _ = _; simp
  clear h hB
  go_enter Try.func20, Try.ntmps20
  go_wp2_with (go_at_call 30; with_reducible (refine (containsH_any _ _ _ xs _ _ HR.out _ _ _ B HP.out HB.out).mono ?_); rintro e w1 ⟨rfl, hc⟩)
  go_ret
  exact ⟨rfl, Below.next hb hc⟩

end Go.Proofs.Ytogjafmpoepgbaa
