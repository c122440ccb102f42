/-
  Four lists, one behind the other.
-/
import Derived.Test.YtgnoejcekbfkoaaFinds
import Derived.Test.YtgnoejcekbfkoaaShelfB
namespace Go.Proofs.Ytgnoejcekbfkoaa
open Go.RowKit
set_option linter.unusedVariables false

theorem grow_any (n : Nat) (w : World) (hn : n ≤ 10000) : Calls Try.prog 48 #[.slice none 0 0, .int .i64 n] w fun e w' => ∃ v, e = .returned v ∧ Hid (Own w' w.heap.size v []) ∧ Below w.heap.size w w' := by
  by_cases h0 : n = 0
  · subst h0
    refine (Try.slices_Grow_room none 0 0 0 w (by omega) (by omega) (by omega) (by omega)).mono ?_
    rintro e w' ⟨rfl, rfl⟩
    exact ⟨_, rfl, Own.nil _ _, Below.refl _ _⟩
  · obtain ⟨i0, hi, hz0, hz1, hz2⟩ := info_parts Try.info3
    refine (Try.slices_Grow_grow i0 (.int .i64 0) hi hz0 (by omega) none 0 0 n [] w (by omega) (by omega) (by rw [hz2]; omega) (by omega) (by simp) (fun _ => rfl) (fun a h => by simp at h)).mono ?_
    rintro e w' ⟨rfl, rfl⟩
    refine ⟨_, rfl, ⟨⟨by simp, .inr ⟨_, _, _, rfl, Nat.le_refl _, heap_alloc_new w.drew _, Nat.zero_le _, grownCap_le_maxLen _ _ _ _ (by unfold maxLen; omega), ?_, by simp⟩⟩, fun x hx => by simp at hx⟩, ?_⟩
    · have := grownCap_ge w (0 + n) 0 3
      rw [Nat.zero_add] at this
      simp [size_zeroCells, Value.cells]; omega
    · exact ((Below.refl _ _).drew).alloc (Nat.le_refl _) _

def catF (L : Nat → List Int) : Nat → List Int
  | 0 => []
  | k + 1 => catF L k ++ L k

structure Four (w : World) (g : Nat) (A : Nat → Option Addr) (N C : Nat → Nat) (L : Nat → List Int) : Prop where
  cell : ∀ i, i < 4 → w.cell? ⟨g, i, none⟩ = some (.slice (A i) (N i) (C i))
  row : ∀ i, i < 4 → Row w (A i) (N i) (C i) (L i)
  le : ∀ i, i < 4 → N i ≤ 1000

theorem Four.len {w : World} {g : Nat} {A : Nat → Option Addr} {N C : Nat → Nat} {L : Nat → List Int} (h : Four w g A N C L) : ∀ k, k ≤ 4 → (catF L k).length ≤ 1000 * k := by
  intro k
  induction k with
  | zero => intro _; simp [catF]
  | succ k ih =>
    intro hk
    have := ih (by omega)
    have := (h.row k (by omega)).1
    have := h.le k (by omega)
    simp [catF]; omega

set_option maxHeartbeats 2000000 in
theorem concat_any (g : Nat) (A : Nat → Option Addr) (N C : Nat → Nat) (L : Nat → List Int) (w : World) (h : Four w g A N C L) :
    Calls Try.prog 33 #[.slice (some ⟨g, 0, none⟩) 4 4] w fun e w' => ∃ bo m c, e = .returned (.slice bo m c) ∧ Hid (Row w' bo m c (catF L 4)) ∧ Below w.heap.size w w' := by
  have HF : Hid (Four w g A N C L) := h
  clear h
  go_enter Try.func33, Try.ntmps33
  go_wp2
  go_loop [3, 5, 11] (fun s _ i => ∃ k : Nat, k ≤ 4 ∧ i = .int .i64 k ∧ ∃ t : Nat, s = .int .i64 t ∧ t ≤ 4000 ∧ Hid (t = (catF L k).length)) (fun _ _ i => 4 - (intOf i).toNat)
  case atStart => exact ⟨0, by omega, rfl, 0, rfl, by omega, rfl⟩
  case round =>
    obtain ⟨k, hk, rfl, t, rfl, ht, hl⟩ := hrel
    by_cases hlt : k < 4
    · have hc := HF.out.cell k hlt
      have hlt' : (k : Int) < 4 := by omega
      have hN := HF.out.le k hlt
      have HT : Hid (t + N k = (catF L (k + 1)).length) := by
        show _ = _
        rw [catF, List.length_append, ← hl.out, (HF.out.row k hlt).1]
      have ht2 : t + N k ≤ 4000 := by
        have := HF.out.len (k + 1) (by omega)
        rw [HT.out]; omega
      go_wp2
      go_round
      case rel => exact ⟨k + 1, by omega, by go_num, t + N k, by go_num, ht2, HT⟩
      case measure => simp only [intOf]; omega
    · have hk4 : k = 4 := by omega
      subst hk4
      have hb0 := Below.refl w.heap.size w
      go_wp2_with (go_at_call 48; with_reducible (refine (grow_any _ _ (by omega)).mono ?_); rintro e w1 ⟨v, rfl, hown, hb⟩)
      clear hl
      go_loopw [6, 8, 27] (fun v _ i wr => ∃ k : Nat, k ≤ 4 ∧ i = .int .i64 k ∧ Hid (Own wr w.heap.size v (catF L k)) ∧ Below w.heap.size w wr) (fun _ _ i _ => 4 - (intOf i).toNat)
      case atStart => exact ⟨0, by omega, rfl, hown, hb⟩
      case round =>
        obtain ⟨k, hk, rfl, hown, hb⟩ := hrel
        by_cases hlt : k < 4
        · have hc := (hb.cell (cell_lt (HF.out.cell k hlt))).trans (HF.out.cell k hlt)
          have hlt' : (k : Int) < 4 := by omega
          have hN := HF.out.le k hlt
          have hL := HF.out.len k (by omega)
          have hs := hb.size
          go_wp2_with (at_builtin; refine append_ints rfl (.tmp 31) (.tmp 32) rfl w.heap.size _ (catF L k) (L k) rfl hown.out _ _ _ rfl ((HF.out.row k hlt).keep hb) (by omega) hs ?_; intro v2 w2 hown2 hb2)
          go_roundw
          case rel => exact ⟨k + 1, by omega, by go_num, hown2, hb.trans hb2.out⟩
          case measure => simp only [intOf]; omega
        · have hk4 : k = 4 := by omega
          subst hk4
          obtain ⟨ao, m, c, rfl, hrow⟩ := hown.out.shape
          go_wp2
          go_ret
          exact ⟨_, _, _, rfl, hrow, hb⟩

end Go.Proofs.Ytgnoejcekbfkoaa
