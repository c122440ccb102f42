/-
  Two rows, one behind the other; how many bits a number has.
-/
import Derived.Test.YtifecnnkkbpglaaQe
import Derived.Test.YtifecnnkkbpglaaPs
import Derived.Test.YtifecnnkkbpglaaShelf
import Derived.Laws.AppendOwnNone
import Derived.Lib.Walk
import Derived.Laws.BitsLemmas
namespace Go.Proofs.Ytifecnnkkbpglaa
open Go.RowKit
set_option linter.unusedVariables false

/-! ### slices.Concat -/
theorem grow_any (n : Nat) (w : World) (hn : n ≤ 10000) : Calls Try.prog 59 #[.slice none 0 0, .int .i64 n] w fun e w' => ∃ v, e = .returned v ∧ Hid (Own w' w.heap.size v []) ∧ Below w.heap.size w w' := by
  by_cases h0 : n = 0
  · subst h0
    refine (Try.slices_Grow_room none 0 0 0 w (by omega) (by omega) (by omega) (by omega)).mono ?_
    rintro e w' ⟨rfl, rfl⟩
    exact ⟨_, rfl, Own.nil _ _, Below.refl _ _⟩
  · obtain ⟨i0, hi, hz0, hz1, hz2⟩ := info_parts Try.info3
    refine (Try.slices_Grow_grow i0 (.int .i64 0) hi hz0 (by omega) none 0 0 n [] w (by omega) (by omega) (by rw [hz2]; omega) (by omega) (by simp) (fun _ => rfl) (fun a h => by simp at h)).mono ?_
    rintro e w' ⟨rfl, rfl⟩
    refine ⟨_, rfl, ⟨⟨by simp, .inr ⟨_, _, _, rfl, Nat.le_refl _, heap_alloc_new w.drew _, Nat.zero_le _, grownCap_le_maxLen _ _ _ _ (by unfold maxLen; omega), ?_, by simp⟩⟩, fun x hx => by simp at hx⟩, ?_⟩
    · have := grownCap_ge w (0 + n) 0 3
      rw [Nat.zero_add] at this
      simp [size_zeroCells, Value.cells]; omega
    · exact ((Below.refl _ _).drew).alloc (Nat.le_refl _) _

def catF (L : Nat → List Int) : Nat → List Int
  | 0 => []
  | k + 1 => catF L k ++ L k

structure Two (w : World) (g : Nat) (A : Nat → Option Addr) (N C : Nat → Nat) (L : Nat → List Int) : Prop where
  cell : ∀ i, i < 2 → w.cell? ⟨g, i, none⟩ = some (.slice (A i) (N i) (C i))
  row : ∀ i, i < 2 → Row w (A i) (N i) (C i) (L i)
  le : ∀ i, i < 2 → N i ≤ 1000

theorem Two.len {w : World} {g : Nat} {A : Nat → Option Addr} {N C : Nat → Nat} {L : Nat → List Int} (h : Two w g A N C L) : ∀ k, k ≤ 2 → (catF L k).length ≤ 1000 * k := by
  intro k
  induction k with
  | zero => intro _; simp [catF]
  | succ k ih =>
    intro hk
    have := ih (by omega)
    have := (h.row k (by omega)).1
    have := h.le k (by omega)
    simp [catF]; omega

set_option maxHeartbeats 2000000 in
theorem concat_any (g : Nat) (A : Nat → Option Addr) (N C : Nat → Nat) (L : Nat → List Int) (w : World) (h : Two w g A N C L) :
    Calls Try.prog 43 #[.slice (some ⟨g, 0, none⟩) 2 2] w fun e w' => ∃ v, e = .returned v ∧ Hid (Own w' w.heap.size v (catF L 2)) ∧ Below w.heap.size w w' := by
  have HF : Hid (Two w g A N C L) := h
  clear h
  go_enter Try.func43, Try.ntmps43
  go_wp2
  go_loop [3, 5, 11] (fun s _ i => ∃ k : Nat, k ≤ 2 ∧ i = .int .i64 k ∧ ∃ t : Nat, s = .int .i64 t ∧ t ≤ 2000 ∧ Hid (t = (catF L k).length)) (fun _ _ i => 2 - (intOf i).toNat)
  case atStart => exact ⟨0, by omega, rfl, 0, rfl, by omega, rfl⟩
  case round =>
    obtain ⟨k, hk, rfl, t, rfl, ht, hl⟩ := hrel
    by_cases hlt : k < 2
    · have hc := HF.out.cell k hlt
      have hlt' : (k : Int) < 2 := by omega
      have hN := HF.out.le k hlt
      have HT : Hid (t + N k = (catF L (k + 1)).length) := by
        show _ = _
        rw [catF, List.length_append, ← hl.out, (HF.out.row k hlt).1]
      have ht2 : t + N k ≤ 2000 := by
        have := HF.out.len (k + 1) (by omega)
        rw [HT.out]; omega
      go_wp2
      go_round
      case rel => exact ⟨k + 1, by omega, by go_num, t + N k, by go_num, ht2, HT⟩
      case measure => simp only [intOf]; omega
    · have hk2 : k = 2 := by omega
      subst hk2
      have hb0 := Below.refl w.heap.size w
      go_wp2_with (go_at_call 59; with_reducible (refine (grow_any _ _ (by omega)).mono ?_); rintro e w1 ⟨v, rfl, hown, hb⟩)
      clear hl
      go_loopw [6, 8, 27] (fun v _ i wr => ∃ k : Nat, k ≤ 2 ∧ i = .int .i64 k ∧ Hid (Own wr w.heap.size v (catF L k)) ∧ Below w.heap.size w wr) (fun _ _ i _ => 2 - (intOf i).toNat)
      case atStart => exact ⟨0, by omega, rfl, hown, hb⟩
      case round =>
        obtain ⟨k, hk, rfl, hown, hb⟩ := hrel
        by_cases hlt : k < 2
        · have hc := (hb.cell (cell_lt (HF.out.cell k hlt))).trans (HF.out.cell k hlt)
          have hlt' : (k : Int) < 2 := by omega
          have hN := HF.out.le k hlt
          have hL := HF.out.len k (by omega)
          have hs := hb.size
          go_wp2_with (at_builtin; refine append_ints rfl (.tmp 31) (.tmp 32) rfl w.heap.size _ (catF L k) (L k) rfl hown.out _ _ _ rfl ((HF.out.row k hlt).keep hb) (by omega) hs ?_; intro v2 w2 hown2 hb2)
          go_roundw
          case rel => exact ⟨k + 1, by omega, by go_num, hown2, hb.trans hb2.out⟩
          case measure => simp only [intOf]; omega
        · have hk2 : k = 2 := by omega
          subst hk2
          go_wp2
          go_ret
          exact ⟨_, rfl, hown, hb⟩

theorem concat_two (w : World) (ao bo : Option Addr) (n m c1 c2 k : Nat) (xs ys : List Int) (rx : TR w ao n c1 xs) (ry : TR w bo m c2 ys) (hn : n ≤ 1000) (hm : m ≤ 1000) (hk : n + m = k) :
    Calls Try.prog 43 #[.slice (some ⟨w.heap.size, 0, none⟩) 2 2] (w.alloc (.cells #[.slice ao n c1, .slice bo m c2] 29)) fun e w' => ∃ ro c, e = .returned (.slice ro k c) ∧ Hid (TR w' ro k c (xs ++ ys)) ∧ Hid (Below w.heap.size w w') := by
  have b := new_a w (.cells #[.slice ao n c1, .slice bo m c2] 29)
  obtain ⟨h1, h2⟩ := two_rows w (.slice ao n c1) (.slice bo m c2)
  refine (concat_any w.heap.size (fun i => if i = 0 then ao else bo) (fun i => if i = 0 then n else m) (fun i => if i = 0 then c1 else c2) (fun i => if i = 0 then xs else ys) _ ⟨fun i hi => ?_, fun i hi => ?_, fun i hi => ?_⟩).mono ?_
  · match i, hi with
    | 0, _ => exact h1
    | 1, _ => exact h2
  · match i, hi with
    | 0, _ => exact (rx.below b).row
    | 1, _ => exact (ry.below b).row
  · match i, hi with
    | 0, _ => exact hn
    | 1, _ => exact hm
  · rintro e w' ⟨v, rfl, hown, hb⟩
    obtain ⟨ro, c, ev, t⟩ := hown.out.trow (T := fun _ => False) (fun b hb => hb.elim)
    have e2 : catF (fun i => if i = 0 then xs else ys) 2 = xs ++ ys := by simp [catF]
    have e3 : (xs ++ ys).length = k := by rw [List.length_append, rx.row.1, ry.row.1]; exact hk
    rw [e2] at ev t
    rw [e3] at ev t
    exact ⟨ro, c, by rw [ev], t, Below.next b hb⟩

/-! ### math/bits.Len -/
theorem tab_of (A B C D : List UInt8) (h : (A.append B).append (C.append D) = Lib.len8tab.data.toList) : (ByteArray.mk ((A.append B).append (C.append D)).toArray) = Lib.len8tab := by
  rw [h]
/-- A table of bytes that tells how many bits a number below 256 has. -/
def Tab (T : ByteArray) : Prop := T.size = 256 ∧ ∀ (y : Int) (h : y.toNat < T.size), 0 ≤ y → ((T[y.toNat]'h).toNat : Int) = (Lib.bitLen y.toNat : Int) ∧ Lib.bitLen y.toNat ≤ 8
theorem tab_len8 : ∃ T, Lib.len8tab = T ∧ Tab T := by
  refine ⟨_, rfl, Lib.len8tab_size, fun y h h0 => ?_⟩
  have hs := Lib.len8tab_size
  refine ⟨?_, Lib.bitLen_le8' y h0 (by omega)⟩
  rw [← Lib.len8_of y h0 (by omega)]
  unfold Lib.len8
  rw [getElem?_pos Lib.len8tab y.toNat h]
  rfl
theorem tab_end0 {T : ByteArray} (hT : Tab T) (y : Int) (h : y.toNat < T.size) (h0 : 0 ≤ y) : wrap64 (wrap64 ((T[y.toNat]'h).toNat : Int)) = (Lib.bitLen y.toNat : Int) := by
  obtain ⟨e1, e2⟩ := hT.2 y h h0
  rw [e1]
  generalize Lib.bitLen y.toNat = b at e2
  unfold wrap64
  omega

set_option maxHeartbeats 4000000 in
set_option maxRecDepth 100000 in
theorem len64_any (x : Int) (h0 : 0 ≤ x) (h : x ≤ 200) (w : World) :
    Calls Try.prog 39 #[.int .u64 x] w fun e w' => e = .returned (.int .i64 (Lib.bitLen x.toNat)) ∧ w' = w := by
  obtain ⟨T, eT, hT⟩ := tab_len8
  have hs := hT.1
  go_enter Try.func39, Try.ntmps39
  rw [tab_of]
  case h => decide +kernel
  rw [eT]
  clear eT
  go_wp2
  all_goals first
    | (go_ret; refine ⟨congrArg Ending.returned (congrArg (Value.int IntKind.i64) ?_), rfl⟩)
    | (exfalso; omega)
  exact tab_end0 hT x _ (by omega)

theorem blen_any (x : Nat) (h : x < 200) (w : World) :
    Calls Try.prog 21 #[.int .u64 x] w fun e w' => e = .returned (.int .i64 (Lib.bitLen x)) ∧ w' = w := by
  have c : ∀ w, Calls Try.prog 39 #[.int .u64 x] w fun e w' => e = .returned (.int .i64 (Lib.bitLen x)) ∧ w' = w := fun w => by
    have c0 := len64_any (x : Int) (by omega) (by omega) w
    rwa [Int.toNat_natCast] at c0
  go_enter Try.func21, Try.ntmps21
  go_wp2_with (go_at_call 39; with_reducible (refine (c _).mono ?_); rintro e w1 ⟨rfl, rfl⟩)
  go_ret
  exact ⟨rfl, rfl⟩

end Go.Proofs.Ytifecnnkkbpglaa
