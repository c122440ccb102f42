/-
  What is found by a function that is handed over: Holds, place.
-/
import Derived.Test.YtgnoejcekbfkoaaNormals
namespace Go.Proofs.Ytgnoejcekbfkoaa
open Go.RowKit
set_option linter.unusedVariables false

theorem holds1_any (x : Int) (p : Nat) (w : World) (a : Option Addr) (len bap : Nat) (B : Nat → Bool) (hc : w.cell? ⟨p, 0, none⟩ = some (.slice a len bap)) (hB : IsBools w a len bap B) (hu : x ≤ 9223372036854775807) :
    Calls Try.prog 27 #[.int .i64 x, .pointer (some ⟨p, 0, none⟩)] w fun e w' => e = .returned (.bool (holF x len B)) ∧ Below w.heap.size w w' := by
  have HB : Hid (IsBools w a len bap B) := hB
  clear hB
  go_enter Try.func27, Try.ntmps27
  go_wp2_with (go_at_call 28; with_reducible (refine (holds_any _ _ _ _ _ B HB.out hu).mono ?_); rintro e w1 ⟨rfl, hb⟩)
  go_ret
  exact ⟨rfl, hb⟩

theorem indexH_any (ao : Option Addr) (n cap : Nat) (xs : List Int) (p : Nat) (w : World) (h : Row w ao n cap xs) (a : Option Addr) (len bap : Nat) (B : Nat → Bool) (hp : w.cell? ⟨p, 0, none⟩ = some (.slice a len bap)) (hB : IsBools w a len bap B) :
    Calls Try.prog 39 #[.slice ao n cap, .func (.func 27) #[] #[.pointer (some ⟨p, 0, none⟩)]] w fun e w' => (∃ r : Int, e = .returned (.int .i64 r) ∧ Hid (holdsF xs len B = decide (0 ≤ r))) ∧ Below w.heap.size w w' := by
  have HR : Hid (Row w ao n cap xs) := h
  have HB : Hid (IsBools w a len bap B) := hB
  have HP : Hid (w.cell? ⟨p, 0, none⟩ = some (.slice a len bap)) := hp
  have hm := h.max
  clear h hB hp
  go_enter Try.func39, Try.ntmps39
  go_wp2
  go_loopw [5, 8] (fun _ i wr => ∃ k : Nat, k ≤ n ∧ i = .int .i64 k ∧ Hid (holdsF (xs.take k) len B = false) ∧ Below w.heap.size w wr) (fun _ i _ => n - (intOf i).toNat)
  case atStart => exact ⟨0, Nat.zero_le _, rfl, rfl, Below.refl _ _⟩
  case round =>
    obtain ⟨k, hk, rfl, hno, hb⟩ := hrel
    by_cases hlt : k < n
    · obtain ⟨b, off, y, rfl, hc, hy, _, hu⟩ := (HR.out.keep hb).at hlt
      have HP2 : Hid (wr.cell? ⟨p, 0, none⟩ = some (.slice a len bap)) := (hb.cell (cell_lt HP.out)).trans HP.out
      have HB2 : Hid (IsBools wr a len bap B) := HB.out.keep hb
      cases he : holF y len B
      · have HV : Hid (holdsF (xs.take (k + 1)) len B = false) := any_step hno.out hy.out he
        go_wp2_with (go_at_call 27; with_reducible (refine (holds1_any _ _ _ _ _ _ B HP2.out HB2.out hu).mono ?_); rintro e w1 ⟨rfl, hb1⟩)
        go_roundw
        case rel => exact ⟨k + 1, by omega, by go_num, HV, Below.next hb hb1⟩
        case measure => simp [intOf]; omega
      · have HV : Hid (holdsF xs len B = true) := any_hit hy.out he
        go_wp2_with (go_at_call 27; with_reducible (refine (holds1_any _ _ _ _ _ _ B HP2.out HB2.out hu).mono ?_); rintro e w1 ⟨rfl, hb1⟩)
        go_ret
        exact ⟨⟨_, rfl, by show _ = _; rw [HV.out]; simp⟩, Below.next hb hb1⟩
    · have HV : Hid (holdsF xs len B = false) := any_end hno.out (by rw [HR.out.1]; omega)
      go_wp2
      go_ret
      exact ⟨⟨_, rfl, by show _ = _; rw [HV.out]; rfl⟩, hb⟩

theorem containsH_any (ao : Option Addr) (n cap : Nat) (xs : List Int) (p : Nat) (w : World) (h : Row w ao n cap xs) (a : Option Addr) (len bap : Nat) (B : Nat → Bool) (hp : w.cell? ⟨p, 0, none⟩ = some (.slice a len bap)) (hB : IsBools w a len bap B) :
    Calls Try.prog 26 #[.slice ao n cap, .func (.func 27) #[] #[.pointer (some ⟨p, 0, none⟩)]] w fun e w' => e = .returned (.bool (holdsF xs len B)) ∧ Below w.heap.size w w' := by
  have HR : Hid (Row w ao n cap xs) := h
  have HB : Hid (IsBools w a len bap B) := hB
  have HP : Hid (w.cell? ⟨p, 0, none⟩ = some (.slice a len bap)) := hp
  clear h hB hp
  go_enter Try.func26, Try.ntmps26
  go_wp2_with (go_at_call 39; with_reducible (refine (indexH_any _ _ _ xs _ _ HR.out _ _ _ B HP.out HB.out).mono ?_); rintro e w1 ⟨⟨r, rfl, hs⟩, hb⟩)
  go_ret
  exact ⟨by rw [hs.out]; rfl, hb⟩

theorem holdsC_any (ao : Option Addr) (n cap : Nat) (xs : List Int) (w : World) (h : Row w ao n cap xs) (a : Option Addr) (len bap : Nat) (B : Nat → Bool) (hB : IsBools w a len bap B) :
    Calls Try.prog 12 #[.slice ao n cap, .slice a len bap] w fun e w' => e = .returned (.bool (holdsF xs len B)) ∧ Below w.heap.size w w' := by
  have hb : Below w.heap.size w (w.alloc (.cells #[.slice a len bap] 31)) := (Below.refl _ _).alloc (Nat.le_refl _) _
  have HR : Hid (Row (w.alloc (.cells #[.slice a len bap] 31)) ao n cap xs) := h.keep hb
  have HB : Hid (IsBools (w.alloc (.cells #[.slice a len bap] 31)) a len bap B) := hB.keep hb
  have HP : Hid ((w.alloc (.cells #[.slice a len bap] 31)).cell? ⟨w.heap.size, 0, none⟩ = some (.slice a len bap)) := by show _ = _; simp
  clear h hB
  go_enter Try.func12, Try.ntmps12
  go_wp2_with (go_at_call 26; with_reducible (refine (containsH_any _ _ _ xs _ _ HR.out _ _ _ B HP.out HB.out).mono ?_); rintro e w1 ⟨rfl, hc⟩)
  go_ret
  exact ⟨rfl, Below.next hb hc⟩

/-! ### place -/
def plcF (x v : Int) (neg : Bool) : Bool := decide (varF x = v) && (negF x == neg)

set_option maxHeartbeats 1000000 in
theorem place1_any (x v : Int) (neg : Bool) (p q : Nat) (w : World) (hp : w.cell? ⟨p, 0, none⟩ = some (.int .i64 v)) (hq : w.cell? ⟨q, 0, none⟩ = some (.bool neg)) (hu : x ≤ 9223372036854775807) :
    Calls Try.prog 47 #[.int .i64 x, .pointer (some ⟨p, 0, none⟩), .pointer (some ⟨q, 0, none⟩)] w fun e w' => e = .returned (.bool (plcF x v neg)) ∧ Below w.heap.size w w' := by
  have hb : Below w.heap.size w w.drew := (Below.refl _ _).drew
  have HP : Hid (w.drew.cell? ⟨p, 0, none⟩ = some (.int .i64 v)) := hp
  have HQ : Hid (w.drew.cell? ⟨q, 0, none⟩ = some (.bool neg)) := hq
  by_cases he : varF x = v
  · have HV : Hid (plcF x v neg = (negF x == neg)) := by show _ = _; simp [plcF, he]
    subst he
    go_enter Try.func47, Try.ntmps47
    go_wp2
    go_region_with (first
      | (go_at_call 20; refine (var_any _ _ hu).mono ?_; rintro e w1 ⟨rfl, hb1⟩; have hp1 := (hb1.cell (cell_lt HP.out)).trans HP.out; have hq1 := (hb1.cell (cell_lt HQ.out)).trans HQ.out; have hb2 := Below.next hb hb1)
      | (go_at_call 21; refine (neg_any _ _ hu).mono ?_; rintro e w2 ⟨rfl, hb3⟩; have hq2 := (hb3.cell (cell_lt hq1)).trans hq1; have hb4 := Below.next hb2 hb3))
    all_goals go_wp2
    all_goals go_ret
    all_goals exact ⟨by rw [HV.out]; rfl, by assumption⟩
  · have HV : Hid (plcF x v neg = false) := by show _ = _; simp [plcF, he]
    have he' : (varF x == v) = false := by simpa using he
    go_enter Try.func47, Try.ntmps47
    go_wp2
    first
    | go_region_with (go_at_call 20; refine (var_any _ _ hu).mono ?_; rintro e w1 ⟨rfl, hb1⟩; have hp1 := (hb1.cell (cell_lt HP.out)).trans HP.out; have hb2 := Below.next hb hb1)
    | fail
    all_goals go_wp2
    all_goals go_ret
    all_goals exact ⟨by rw [HV.out]; rfl, by assumption⟩

def PlcAt (xs : List Int) (v : Int) (neg : Bool) (r : Int) : Prop :=
  (r = -1 ∧ xs.any (fun x => plcF x v neg) = false) ∨ ∃ (i : Nat) (y : Int), r = i ∧ xs[i]? = some y ∧ plcF y v neg = true

theorem indexP_any (ao : Option Addr) (n cap : Nat) (xs : List Int) (v : Int) (neg : Bool) (p q : Nat) (w : World) (h : Row w ao n cap xs) (hp : w.cell? ⟨p, 0, none⟩ = some (.int .i64 v)) (hq : w.cell? ⟨q, 0, none⟩ = some (.bool neg)) :
    Calls Try.prog 39 #[.slice ao n cap, .func (.func 47) #[] #[.pointer (some ⟨p, 0, none⟩), .pointer (some ⟨q, 0, none⟩)]] w fun e w' => (∃ r : Int, e = .returned (.int .i64 r) ∧ Hid (PlcAt xs v neg r)) ∧ Below w.heap.size w w' := by
  have HR : Hid (Row w ao n cap xs) := h
  have HP : Hid (w.cell? ⟨p, 0, none⟩ = some (.int .i64 v)) := hp
  have HQ : Hid (w.cell? ⟨q, 0, none⟩ = some (.bool neg)) := hq
  have hm := h.max
  clear h hp hq
  go_enter Try.func39, Try.ntmps39
  go_wp2
  go_loopw [5, 8] (fun _ i wr => ∃ k : Nat, k ≤ n ∧ i = .int .i64 k ∧ Hid ((xs.take k).any (fun x => plcF x v neg) = false) ∧ Below w.heap.size w wr) (fun _ i _ => n - (intOf i).toNat)
  case atStart => exact ⟨0, Nat.zero_le _, rfl, rfl, Below.refl _ _⟩
  case round =>
    obtain ⟨k, hk, rfl, hno, hb⟩ := hrel
    by_cases hlt : k < n
    · obtain ⟨b, off, y, rfl, hc, hy, _, hu⟩ := (HR.out.keep hb).at hlt
      have HP2 : Hid (wr.cell? ⟨p, 0, none⟩ = some (.int .i64 v)) := (hb.cell (cell_lt HP.out)).trans HP.out
      have HQ2 : Hid (wr.cell? ⟨q, 0, none⟩ = some (.bool neg)) := (hb.cell (cell_lt HQ.out)).trans HQ.out
      cases he : plcF y v neg
      · have HV : Hid ((xs.take (k + 1)).any (fun x => plcF x v neg) = false) := any_step hno.out hy.out he
        go_wp2_with (go_at_call 47; with_reducible (refine (place1_any _ _ _ _ _ _ HP2.out HQ2.out hu).mono ?_); rintro e w1 ⟨rfl, hb1⟩)
        go_roundw
        case rel => exact ⟨k + 1, by omega, by go_num, HV, Below.next hb hb1⟩
        case measure => simp [intOf]; omega
      · have HV : Hid (PlcAt xs v neg k) := .inr ⟨k, y, rfl, hy.out, he⟩
        go_wp2_with (go_at_call 47; with_reducible (refine (place1_any _ _ _ _ _ _ HP2.out HQ2.out hu).mono ?_); rintro e w1 ⟨rfl, hb1⟩)
        go_ret
        exact ⟨⟨_, rfl, HV⟩, Below.next hb hb1⟩
    · have HV : Hid (PlcAt xs v neg (-1)) := .inl ⟨rfl, any_end hno.out (by rw [HR.out.1]; omega)⟩
      go_wp2
      go_ret
      exact ⟨⟨_, rfl, HV⟩, hb⟩

theorem place_any (ao : Option Addr) (n cap : Nat) (xs : List Int) (v : Int) (neg : Bool) (w : World) (h : Row w ao n cap xs) :
    Calls Try.prog 32 #[.slice ao n cap, .int .i64 v, .bool neg] w fun e w' => (∃ r : Int, e = .returned (.int .i64 r) ∧ Hid (PlcAt xs v neg r)) ∧ Below w.heap.size w w' := by
  have hb : Below w.heap.size w ((w.alloc (.cells #[.int .i64 v] 3)).alloc (.cells #[.bool neg] 4)) := ((Below.refl _ _).alloc (Nat.le_refl _) _).alloc (by simp) _
  have HR : Hid (Row ((w.alloc (.cells #[.int .i64 v] 3)).alloc (.cells #[.bool neg] 4)) ao n cap xs) := h.keep hb
  have HP : Hid (((w.alloc (.cells #[.int .i64 v] 3)).alloc (.cells #[.bool neg] 4)).cell? ⟨w.heap.size, 0, none⟩ = some (.int .i64 v)) := by show _ = _; simp
  have HQ : Hid (((w.alloc (.cells #[.int .i64 v] 3)).alloc (.cells #[.bool neg] 4)).cell? ⟨w.heap.size + 1, 0, none⟩ = some (.bool neg)) := by show _ = _; simp
  clear h
  go_enter Try.func32, Try.ntmps32
  go_wp2_with (go_at_call 39; with_reducible (refine (indexP_any _ _ _ xs _ _ _ _ _ HR.out HP.out HQ.out).mono ?_); rintro e w1 ⟨⟨r, rfl, hs⟩, hc⟩)
  go_ret
  exact ⟨⟨_, rfl, hs⟩, Below.next hb hc⟩

end Go.Proofs.Ytgnoejcekbfkoaa
