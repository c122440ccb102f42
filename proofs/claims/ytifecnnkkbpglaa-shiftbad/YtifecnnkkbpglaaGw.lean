/-
  The functions of package gate that make no gate of their own, each by its contract.
-/
import Derived.Test.YtifecnnkkbpglaaGm
import Derived.Deep.RegionHeld3
import Derived.Deep.RegionLaw
namespace Go.Proofs.Ytifecnnkkbpglaa
open Go.RowKit
set_option linter.unusedVariables false

theorem vars_any (gb n : Nat) (w : World) (h0 : w.cell? ⟨gb, 0, none⟩ = some (.int .i64 n)) : Calls Try.prog 26 #[.pointer (some ⟨gb, 0, none⟩)] w fun e w' => e = .returned (.int .i64 n) ∧ w' = w := by
  go_enter Try.func26, Try.ntmps26
  go_wp2
  go_ret
  exact ⟨rfl, rfl⟩

theorem vars_nil (w : World) : Calls Try.prog 26 #[.pointer none] w fun e w' => e = .returned (.int .i64 0) ∧ w' = w := by
  go_enter Try.func26, Try.ntmps26
  go_wp2
  go_ret
  exact ⟨rfl, rfl⟩

theorem true_any (gb : Nat) (w : World) : Calls Try.prog 14 #[.pointer (some ⟨gb, 0, none⟩)] w fun e w' => e = .returned (.int .i64 0) ∧ w' = w := by
  go_enter Try.func14, Try.ntmps14
  go_wp2
  go_ret
  exact ⟨rfl, rfl⟩

theorem true_nil (w : World) : Calls Try.prog 14 #[.pointer none] w fun e w' => e = .returned (.int .i64 (-1)) ∧ w' = w := by
  go_enter Try.func14, Try.ntmps14
  go_wp2
  go_ret
  exact ⟨rfl, rfl⟩

theorem input_nil (w : World) : Calls Try.prog 15 #[.pointer none] w fun e w' => e = .returned (.int .i64 (-1)) ∧ w' = w := by
  go_enter Try.func15, Try.ntmps15
  go_wp2
  go_ret
  exact ⟨rfl, rfl⟩

theorem input_any (gb n : Nat) (w : World) (h0 : w.cell? ⟨gb, 0, none⟩ = some (.int .i64 n)) (hf : w.frozen? ⟨gb, 0, none⟩ = false) (hn : n ≤ 100000) :
    Calls Try.prog 15 #[.pointer (some ⟨gb, 0, none⟩)] w fun e w' => e = .returned (.int .i64 (2 * (n : Int))) ∧ w' = w.setCell ⟨gb, 0, none⟩ (.int .i64 ((n : Int) + 1)) := by
  go_enter Try.func15, Try.ntmps15
  go_wp2
  go_ret
  exact ⟨rfl, rfl⟩

theorem clauses_nil (w : World) : Calls Try.prog 27 #[.pointer none] w fun e w' => e = .returned (.slice none 0 0) ∧ w' = w := by
  go_enter Try.func27, Try.ntmps27
  go_wp2
  go_ret
  exact ⟨rfl, rfl⟩

/-- Whether a number is a literal of one of n variables. -/
def okF (n : Nat) (x : Int) : Bool := decide (0 ≤ x ∧ x < 2 * (n : Int))
def haveF (n : Nat) (xs : List Int) : Bool := xs.all (okF n)

theorem okF_rng {n : Nat} {x : Int} : okF n x = true ↔ rng n x := by simp [okF, rng]

/-- The pointer is nil, or of gates of n variables. -/
def Vq (w : World) (p : Value) (n : Nat) : Prop := (p = .pointer none ∧ n = 0) ∨ ∃ gb, p = .pointer (some ⟨gb, 0, none⟩) ∧ w.cell? ⟨gb, 0, none⟩ = some (.int .i64 n)

theorem Vq.keep {w w' : World} {p : Value} {n : Nat} (h : Vq w p n) (b : Below w.heap.size w w') : Vq w' p n := by
  rcases h with h | ⟨gb, e, hc⟩
  · exact .inl h
  · exact .inr ⟨gb, e, (b.cell (cell_lt hc)).trans hc⟩

theorem vars_q {w : World} {p : Value} {n : Nat} (h : Vq w p n) : Calls Try.prog 26 #[p] w fun e w' => e = .returned (.int .i64 n) ∧ w' = w := by
  rcases h with ⟨rfl, rfl⟩ | ⟨gb, rfl, hc⟩
  · exact vars_nil w
  · exact vars_any gb n w hc

set_option maxHeartbeats 1000000 in
theorem have_any (w : World) (p : Value) (n : Nat) (hp : Vq w p n) (hn : n ≤ 100000) (ao : Option Addr) (m cap : Nat) (xs : List Int) (hr : Row w ao m cap xs) :
    Calls Try.prog 56 #[p, .slice ao m cap] w fun e w' => e = .returned (.bool (haveF n xs)) ∧ Hid (Below w.heap.size w w') := by
  have HR := hid hr
  have HP := hid hp
  have hm := hr.max
  have hb0 := hid (Below.refl w.heap.size w)
  clear hr hp
  go_enter Try.func56, Try.ntmps56
  go_wp2
  go_loopw [6, 7, 10] (fun _ _ i wr => ∃ k : Nat, k ≤ m ∧ i = .int .i64 k ∧ Hid ((xs.take k).all (okF n) = true) ∧ Hid (Below w.heap.size w wr)) (fun _ _ i _ => m - (intOf i).toNat)
  case atStart => exact ⟨0, Nat.zero_le _, rfl, rfl, hb0⟩
  case round =>
    obtain ⟨k, hk, rfl, hall, hb⟩ := hrel
    by_cases hlt : k < m
    · obtain ⟨b, off, y, rfl, hc, hy, y0, y1⟩ := (HR.out.keep hb.out).at hlt
      cases he : okF n y
      · have HV : Hid (haveF n xs = false) := hid (by
          rw [haveF, List.all_eq_false]
          exact ⟨y, List.mem_of_getElem? hy.out, by simp [he]⟩)
        by_cases hneg : y < 0
        · have hv : varF y = -1 := by simp [varF, hneg]
          clear he
          go_wp2_with (first
            | (go_at_call 55; with_reducible (refine (var_any _ _ y1).mono ?_); rintro e w1 ⟨rfl, hb1⟩; rw [hv]))
          go_ret
          exact ⟨by rw [HV.out]; rfl, hid (Below.next hb.out hb1)⟩
        · obtain ⟨v, hv⟩ : ∃ v, v = varF y := ⟨_, rfl⟩
          have hv2 : v = y / 2 := by rw [hv]; simp [varF, hneg]
          have hv0 : ¬ v < 0 := by omega
          have hv1 : (n : Int) ≤ v := by
            rw [← Bool.not_eq_true, okF_rng] at he
            unfold rng at he; omega
          clear he hv2
          go_wp2_with (first
            | (go_at_call 55; with_reducible (refine (var_any _ _ y1).mono ?_); rintro e w1 ⟨rfl, hb1⟩; rw [← hv])
            | (go_at_call 26; with_reducible (refine (vars_q (HP.out.keep (Below.next hb.out hb1))).mono ?_); rintro e w2 ⟨rfl, rfl⟩))
          go_ret
          exact ⟨by rw [HV.out]; rfl, hid (Below.next hb.out hb1)⟩
      · have HV : Hid ((xs.take (k + 1)).all (okF n) = true) := hid (by
          rw [List.take_add_one, hy.out, List.all_append, hall.out]; simp [he])
        obtain ⟨v, hv⟩ : ∃ v, v = varF y := ⟨_, rfl⟩
        have hr := okF_rng.1 he
        have hv2 : v = y / 2 := by rw [hv]; unfold rng at hr; simp [varF]; omega
        have hv0 : ¬ v < 0 := by unfold rng at hr; omega
        have hv1 : ¬ (n : Int) ≤ v := by unfold rng at hr; omega
        clear he hv2 hr
        go_wp2_with (first
          | (go_at_call 55; with_reducible (refine (var_any _ _ y1).mono ?_); rintro e w1 ⟨rfl, hb1⟩; rw [← hv])
          | (go_at_call 26; with_reducible (refine (vars_q (HP.out.keep (Below.next hb.out hb1))).mono ?_); rintro e w2 ⟨rfl, rfl⟩))
        go_roundw
        case rel => exact ⟨k + 1, by omega, by go_num, HV, hid (Below.next hb.out hb1)⟩
        case measure => simp only [intOf]; omega
    · have HV : Hid (haveF n xs = true) := hid (by
        have := hall.out
        rwa [List.take_of_length_le (by rw [HR.out.1]; omega)] at this)
      go_wp2
      go_ret
      exact ⟨by rw [HV.out]; rfl, hb⟩

def withinF (c x : Int) : Int := if x = c then 0 else if x = notF c then 1 else x

theorem within_any (c x : Int) (w : World) (hu : c ≤ 9223372036854775807) : Calls Try.prog 57 #[.int .i64 c, .int .i64 x] w fun e w' => e = .returned (.int .i64 (withinF c x)) ∧ Hid (Below w.heap.size w w') := by
  by_cases h1 : x = c
  · have HV : Hid (withinF c x = 0) := hid (by simp [withinF, h1])
    have q : (x == c) = true := by simpa using h1
    clear h1
    go_enter Try.func57, Try.ntmps57
    go_wp2
    go_ret
    exact ⟨by rw [HV.out]; rfl, hid (Below.refl _ _)⟩
  · have q : (x == c) = false := by simpa using h1
    by_cases h2 : x = notF c
    · have HV : Hid (withinF c x = 1) := hid (by rw [withinF, if_neg h1, if_pos h2])
      have q2 : (x == notF c) = true := by simpa using h2
      clear h1 h2
      go_enter Try.func57, Try.ntmps57
      go_wp2_with (go_at_call 36; with_reducible (refine (not_any _ _ hu).mono ?_); rintro e w1 ⟨rfl, hb1⟩)
      go_ret
      exact ⟨by rw [HV.out]; rfl, hid (by assumption)⟩
    · have HV : Hid (withinF c x = x) := hid (by rw [withinF, if_neg h1, if_neg h2])
      have q2 : (x == notF c) = false := by simpa using h2
      clear h1 h2
      go_enter Try.func57, Try.ntmps57
      go_wp2_with (go_at_call 36; with_reducible (refine (not_any _ _ hu).mono ?_); rintro e w1 ⟨rfl, hb1⟩)
      go_ret
      exact ⟨by rw [HV.out]; rfl, hid (by assumption)⟩

end Go.Proofs.Ytifecnnkkbpglaa
