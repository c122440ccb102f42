/-
  Normal, of the program and of the document.
-/
import Derived.Test.YtgnoejcekbfkoaaSorted
import Derived.BigQuiet
namespace Go.Proofs.Ytgnoejcekbfkoaa
open Go.RowKit
set_option linter.unusedVariables false

theorem nrm_of_bad {xs : List Int} (h : badL xs = true) : nrmF xs = [] ∧ alwF xs = false ∧ erF xs = 10 := by simp [nrmF, alwF, erF, h]
theorem nrm_of_good {xs : List Int} (h : badL xs = false) : nrmF xs = rise xs ∧ alwF xs = alwL xs ∧ erF xs = 0 := by simp [nrmF, alwF, erF, h]

theorem row_nil (w : World) : Row w none 0 0 [] := ⟨rfl, Nat.le_refl _, by unfold maxLen; omega, fun _ => rfl, fun x hx => by simp at hx, fun h => by omega⟩

theorem any_snoc {xs : List Int} {p : Int → Bool} {k : Nat} {y : Int} (hy : xs[k]? = some y) : (xs.take (k + 1)).any p = ((xs.take k).any p || p y) := by
  rw [List.take_add_one, List.any_append, hy]; simp

set_option maxHeartbeats 2000000 in
theorem rnormal_any (ao : Option Addr) (n cap : Nat) (xs : List Int) (w : World) (h : Row w ao n cap xs) (hn : n ≤ 1000) :
    Calls Try.prog 10 #[.slice ao n cap] w fun e w' => ∃ bo m c, e = .returned (.tuple #[.slice bo m c, .bool (alwF xs), .int .i64 (erF xs)]) ∧ Hid (Row w' bo m c (nrmF xs)) ∧ Below w.heap.size w w' := by
  have HR : Hid (Row w ao n cap xs) := h
  have hm := h.max
  clear h
  go_enter Try.func10, Try.ntmps10
  go_wp2
  go_loop [5, 6] (fun a i => ∃ k : Nat, k ≤ n ∧ i = .int .i64 k ∧ (∃ t, a = .bool t ∧ Hid (t = (xs.take k).any (fun x => hasF xs (notF x)))) ∧ Hid ((xs.take k).any (fun x => decide (x < 0)) = false)) (fun _ i => n - (intOf i).toNat)
  case atStart => exact ⟨0, Nat.zero_le _, rfl, ⟨false, rfl, rfl⟩, rfl⟩
  case round =>
    obtain ⟨k, hk, rfl, ⟨t, rfl, ht⟩, hno⟩ := hrel
    by_cases hlt : k < n
    · obtain ⟨b, off, y, rfl, hc, hy, y0, y1⟩ := HR.out.at hlt
      by_cases he : y < 0
      · have HV : Hid (nrmF xs = [] ∧ alwF xs = false ∧ erF xs = 10) := nrm_of_bad (any_hit hy.out (by simpa using he))
        go_wp2
        go_ret3
        exact ⟨_, _, _, by rw [HV.out.2.1, HV.out.2.2]; rfl, by show Row _ _ _ _ _; rw [HV.out.1]; exact row_nil _, Below.refl _ _⟩
      · have HV : Hid ((xs.take (k + 1)).any (fun x => decide (x < 0)) = false) := any_step hno.out hy.out (by simpa using he)
        cases t
        · have HT : Hid (hasF xs (notF y) = (xs.take (k + 1)).any (fun x => hasF xs (notF x))) := by show _ = _; rw [any_snoc hy.out, ← ht.out]; simp
          go_wp2_with (first
            | (go_at_call 24; with_reducible (refine (rnot_any _ _ y1).mono ?_); rintro e w1 ⟨rfl, rfl⟩)
            | (go_at_call 15; with_reducible (refine (rhas_any _ _ _ xs _ _ HR.out).mono ?_); rintro e w1 ⟨rfl, rfl⟩))
          go_round
          case rel => exact ⟨k + 1, by omega, by go_num, ⟨_, rfl, HT⟩, HV⟩
          case measure => simp [intOf]; omega
        · have HT : Hid (true = (xs.take (k + 1)).any (fun x => hasF xs (notF x))) := by show _ = _; rw [any_snoc hy.out, ← ht.out]; simp
          go_wp2
          go_round
          case rel => exact ⟨k + 1, by omega, by go_num, ⟨_, rfl, HT⟩, HV⟩
          case measure => simp [intOf]; omega
    · have HK : Hid (xs.take k = xs) := List.take_of_length_le (by rw [HR.out.1]; omega)
      have HV : Hid (nrmF xs = rise xs ∧ alwF xs = alwL xs ∧ erF xs = 0) := nrm_of_good (by rw [badL, ← HK.out]; exact hno.out)
      have HT : Hid (t = alwF xs) := by show t = _; rw [HV.out.2.1, ht.out, HK.out]; rfl
      go_wp2_with (go_at_call 25; with_reducible (refine (sorted_any _ _ _ xs _ HR.out hn).mono ?_); rintro e w1 ⟨bo, m, c, rfl, hrow, hb⟩)
      go_ret3
      exact ⟨_, _, _, by rw [HT.out, HV.out.2.2]; rfl, by show Row _ _ _ _ _; rw [HV.out.1]; exact hrow.out, hb⟩

/-! ### A literal and its Not are neighbours in a rising list -/
theorem alw_hit {ys : List Int} {i : Nat} {x y : Int} (hx : ys[i]? = some x) (hy : ys[i + 1]? = some y) (h : y = notF x) : alwL ys = true := by
  refine any_hit hx ?_
  rw [hasF_mem, ← h]
  exact List.mem_of_getElem? hy

theorem next_of {ys : List Int} (hr : ys.Pairwise (· < ·)) {x : Int} (h0 : x ∈ ys) (h1 : x + 1 ∈ ys) : ∃ i, ys[i]? = some x ∧ ys[i + 1]? = some (x + 1) := by
  obtain ⟨i, hi, ei⟩ := List.mem_iff_getElem.1 h0
  obtain ⟨j, hj, ej⟩ := List.mem_iff_getElem.1 h1
  rw [List.pairwise_iff_getElem] at hr
  have hij : i < j := by
    apply Classical.byContradiction
    intro hn
    by_cases e : i = j
    · subst e; omega
    · have := hr j i hj hi (by omega); omega
  have e : j = i + 1 := by
    apply Classical.byContradiction
    intro hn
    have a := hr i (i + 1) hi (by omega) (by omega)
    have b := hr (i + 1) j (by omega) hj (by omega)
    omega
  subst e
  exact ⟨i, by rw [List.getElem?_eq_getElem hi, ei], by rw [List.getElem?_eq_getElem hj, ej]⟩

theorem alw_miss {ys : List Int} (hr : ys.Pairwise (· < ·)) (h0 : ∀ y ∈ ys, 0 ≤ y) (h : ∀ i x y, ys[i]? = some x → ys[i + 1]? = some y → y ≠ notF x) : alwL ys = false := by
  cases ha : alwL ys
  · rfl
  · exfalso
    obtain ⟨x, hx, hh⟩ := List.any_eq_true.1 ha
    rw [hasF_mem] at hh
    have x0 := h0 x hx
    by_cases hp : x % 2 = 1
    · have e : notF x = x - 1 := by simp [notF, hp]; omega
      rw [e] at hh
      obtain ⟨i, a, b⟩ := next_of hr hh (by rw [Int.sub_add_cancel]; exact hx)
      refine h i _ _ a b ?_
      have : (x - 1) % 2 = 0 := by omega
      simp [notF, this]; omega
    · have e : notF x = x + 1 := by simp [notF, hp]; omega
      rw [e] at hh
      obtain ⟨i, a, b⟩ := next_of hr hx hh
      exact h i _ _ a b e.symm

theorem alw_rise (xs : List Int) : alwL (rise xs) = alwL xs := by
  rw [Bool.eq_iff_iff]
  simp only [alwL, List.any_eq_true, hasF_mem, mem_rise]

def Apart (ys : List Int) (k : Nat) : Prop := ∀ i x y, i + 1 < k → ys[i]? = some x → ys[i + 1]? = some y → y ≠ notF x

set_option maxHeartbeats 2000000 in
theorem opposed_any (ao : Option Addr) (n cap : Nat) (ys : List Int) (w : World) (h : Row w ao n cap ys) (hr : ys.Pairwise (· < ·)) (h0 : ∀ y ∈ ys, 0 ≤ y) :
    Calls Try.prog 23 #[.slice ao n cap] w fun e w' => e = .returned (.bool (alwL ys)) ∧ Below w.heap.size w w' := by
  have HR : Hid (Row w ao n cap ys) := h
  have HU : Hid (ys.Pairwise (· < ·) ∧ ∀ y ∈ ys, 0 ≤ y) := ⟨hr, h0⟩
  have hm := h.max
  clear h hr h0
  go_enter Try.func23, Try.ntmps23
  go_wp2
  go_loopw [3] (fun i wr => ∃ k : Nat, i = .int .i64 ((k : Int) + 1) ∧ (k = 0 ∨ k + 1 ≤ n) ∧ Hid (Apart ys (k + 1)) ∧ Below w.heap.size w wr) (fun i _ => n + 1 - (intOf i).toNat)
  case atStart => exact ⟨0, rfl, .inl rfl, fun i x y hi => by omega, Below.refl _ _⟩
  case round =>
    obtain ⟨k, rfl, hk, hno, hb⟩ := hrel
    by_cases hlt : k + 1 < n
    · obtain ⟨b, off, x, rfl, hc, hx, x0, x1⟩ := (HR.out.keep hb).at (show k < n by omega)
      obtain ⟨b', off', y, e, gc, hy, y0, y1⟩ := (HR.out.keep hb).at hlt
      injection e with e; injection e with e1 e2; subst e1 e2
      have hkn : k < n := by omega
      have hw : IntKind.i64.wrap (k : Int) = k := IntWalk.i64_in _ (by omega)
      have hk1 : (0 : Int) ≤ (k : Int) + 1 := by omega
      have hkn' : (k : Int) < (n : Int) := by omega
      have GC : Hid (wr.drew.cell? ⟨b, off + (k + 1), none⟩ = some (.int .i64 y)) := gc
      by_cases he : y = notF x
      · have HV : Hid (alwL ys = true) := alw_hit hx.out hy.out he
        go_wp2
        go_region_with (go_at_call 38; refine (not_any _ _ x1).mono ?_; rintro e w1 ⟨rfl, hq⟩; have hb3 := Below.next hb.drew hq; have gc3 := (hq.cell (cell_lt GC.out)).trans GC.out)
        all_goals go_wp2
        all_goals go_ret
        all_goals exact ⟨by rw [HV.out]; rfl, by assumption⟩
      · have HV : Hid (Apart ys (k + 1 + 1)) := by
          intro i x' y' hi hx' hy'
          by_cases e : i + 1 < k + 1
          · exact hno.out i x' y' e hx' hy'
          · obtain rfl : i = k := by omega
            have a := hx.out.symm.trans hx'; injection a with a
            have b := hy.out.symm.trans hy'; injection b with b
            subst a b; exact he
        have he' : (y == notF x) = false := by simpa using he
        go_wp2
        go_region_with (go_at_call 38; refine (not_any _ _ x1).mono ?_; rintro e w1 ⟨rfl, hq⟩; have hb3 := Below.next hb.drew hq; have gc3 := (hq.cell (cell_lt GC.out)).trans GC.out)
        all_goals go_wp2
        all_goals go_roundw
        all_goals first | exact ⟨k + 1, by go_num, .inr (by omega), HV, by assumption⟩ | (simp only [intOf]; omega)
    · have HV : Hid (alwL ys = false) := by
        refine alw_miss HU.out.1 HU.out.2 fun i x y hx hy => hno.out i x y ?_ hx hy
        have := (List.getElem?_eq_some_iff.1 hy).1
        rw [HR.out.1] at this; omega
      go_wp2
      go_ret
      exact ⟨by rw [HV.out]; rfl, hb⟩

theorem bad_head {xs : List Int} {y : Int} (hy : (rise xs)[0]? = some y) : badL xs = decide (y < 0) := by
  have hm := (mem_rise xs y).1 (List.mem_of_getElem? hy)
  by_cases h : y < 0
  · rw [badL, List.any_eq_true.2 ⟨y, hm, by simpa using h⟩]; simp [h]
  · have : badL xs = false := by
      rw [badL, List.any_eq_false]
      intro x hx
      have hx' := (mem_rise xs x).2 hx
      have hr := up_rise xs
      cases hz : rise xs with
      | nil => rw [hz] at hx'; simp at hx'
      | cons a tl =>
        rw [hz] at hy hx' hr
        simp at hy; subst hy
        rw [List.pairwise_cons] at hr
        rcases List.mem_cons.1 hx' with rfl | hx'
        · simpa using h
        · have := hr.1 x hx'; simp; omega
    rw [this]; simp [h]

theorem good_all {xs : List Int} (h : badL xs = false) : ∀ y ∈ rise xs, 0 ≤ y := by
  intro y hy
  rw [badL, List.any_eq_false] at h
  have := h y ((mem_rise xs y).1 hy)
  simpa using this

theorem rising_nil (ao : Option Addr) (n cap : Nat) (xs : List Int) (w : World) (h : Row w ao n cap xs) (hn : n ≤ 1000) (h0 : rise xs = []) :
    Calls Try.prog 22 #[.slice ao n cap] w fun e w' => ∃ bo c, e = .returned (.slice bo 0 c) ∧ Hid (Row w' bo 0 c (rise xs)) ∧ Below w.heap.size w w' := by
  refine (rising_any ao n cap xs w h hn).mono ?_
  rintro e w1 ⟨bo, m, c, rfl, hrow, hb⟩
  have e : m = 0 := by rw [← hrow.out.1, h0, List.length_nil]
  subst e
  exact ⟨bo, c, rfl, hrow, hb⟩

theorem rising_cons (ao : Option Addr) (n cap : Nat) (xs : List Int) (y : Int) (w : World) (h : Row w ao n cap xs) (hn : n ≤ 1000) (h0 : (rise xs)[0]? = some y) :
    Calls Try.prog 22 #[.slice ao n cap] w fun e w' => ∃ b off m c, e = .returned (.slice (some ⟨b, off, none⟩) m c) ∧ Hid (Row w' (some ⟨b, off, none⟩) m c (rise xs)) ∧ w'.cell? ⟨b, off, none⟩ = some (.int .i64 y) ∧ 0 < m ∧ (0 : Int) < (m : Int) ∧ Below w.heap.size w w' := by
  refine (rising_any ao n cap xs w h hn).mono ?_
  rintro e w1 ⟨bo, m, c, rfl, hrow, hb⟩
  have hm : 0 < m := by rw [← hrow.out.1]; exact (List.getElem?_eq_some_iff.1 h0).1
  obtain ⟨b, off, z, rfl, hc, hz, z0, z1⟩ := hrow.out.at hm
  have e := hz.out.symm.trans h0
  injection e with e
  subst e
  exact ⟨b, off, m, c, rfl, hrow, by simpa using hc, hm, by omega, hb⟩

set_option maxHeartbeats 1000000 in
theorem normal_any (ao : Option Addr) (n cap : Nat) (xs : List Int) (w : World) (h : Row w ao n cap xs) (hn : n ≤ 1000) :
    Calls Try.prog 9 #[.slice ao n cap] w fun e w' => ∃ bo m c, e = .returned (.tuple #[.slice bo m c, .bool (alwF xs), .int .i64 (erF xs)]) ∧ Hid (Row w' bo m c (nrmF xs)) ∧ Below w.heap.size w w' := by
  have HR : Hid (Row w ao n cap xs) := h
  clear h
  by_cases h0 : rise xs = []
  · have hx : xs = [] := List.eq_nil_iff_forall_not_mem.2 fun x hx => by have := (mem_rise xs x).2 hx; rw [h0] at this; simp at this
    have HB : Hid (badL xs = false) := by show _ = _; rw [hx]; rfl
    have HV : Hid (nrmF xs = rise xs ∧ alwF xs = alwL xs ∧ erF xs = 0) := nrm_of_good HB.out
    have HA : Hid (alwL (rise xs) = alwL xs) := alw_rise xs
    have H0 : Hid (rise xs = []) := h0
    clear hx h0
    go_enter Try.func9, Try.ntmps9
    go_wp2_with (first
      | (go_at_call 22; with_reducible (refine (rising_nil _ _ _ xs _ HR.out hn H0.out).mono ?_); rintro e w1 ⟨bo, c, rfl, hrow, hb⟩)
      | (go_at_call 23; with_reducible (refine (opposed_any _ _ _ _ _ hrow.out (up_rise xs) (good_all HB.out)).mono ?_); rintro e w2 ⟨rfl, hb2⟩))
    go_ret3
    exact ⟨_, _, _, by rw [HV.out.2.1, HV.out.2.2, HA.out]; rfl, by show Row _ _ _ _ _; rw [HV.out.1]; exact hrow.out.keep hb2, Below.next hb hb2⟩
  · have hp : 0 < (rise xs).length := by
      cases e : rise xs with
      | nil => exact absurd e h0
      | cons a tl => simp
    obtain ⟨y, hy⟩ : ∃ y, (rise xs)[0]? = some y := ⟨_, List.getElem?_eq_getElem hp⟩
    have HY : Hid ((rise xs)[0]? = some y) := hy
    have HP : Hid (0 < (rise xs).length) := hp
    clear hy hp h0
    by_cases hb : y < 0
    · have HV : Hid (nrmF xs = [] ∧ alwF xs = false ∧ erF xs = 10) := nrm_of_bad (by rw [bad_head HY.out]; simpa using hb)
      go_enter Try.func9, Try.ntmps9
      go_wp2_with (go_at_call 22; with_reducible (refine (rising_cons _ _ _ xs y _ HR.out hn HY.out).mono ?_); rintro e w1 ⟨b, off, m, c, rfl, hrow, hc, hm0, hm1, hb1⟩)
      go_ret3
      exact ⟨_, _, _, by rw [HV.out.2.1, HV.out.2.2]; rfl, by show Row _ _ _ _ _; rw [HV.out.1]; exact row_nil _, hb1⟩
    · have HB : Hid (badL xs = false) := by show _ = _; rw [bad_head HY.out]; simpa using hb
      have HV : Hid (nrmF xs = rise xs ∧ alwF xs = alwL xs ∧ erF xs = 0) := nrm_of_good HB.out
      have HA : Hid (alwL (rise xs) = alwL xs) := alw_rise xs
      go_enter Try.func9, Try.ntmps9
      go_wp2_with (first
        | (go_at_call 22; with_reducible (refine (rising_cons _ _ _ xs y _ HR.out hn HY.out).mono ?_); rintro e w1 ⟨b, off, m, c, rfl, hrow, hc, hm0, hm1, hb1⟩)
        | (go_at_call 23; with_reducible (refine (opposed_any _ _ _ _ _ hrow.out (up_rise xs) (good_all HB.out)).mono ?_); rintro e w2 ⟨rfl, hb2⟩))
      go_ret3
      exact ⟨_, _, _, by rw [HV.out.2.1, HV.out.2.2, HA.out]; rfl, by show Row _ _ _ _ _; rw [HV.out.1]; exact hrow.out.keep hb2, Below.next hb1 hb2⟩

end Go.Proofs.Ytgnoejcekbfkoaa
