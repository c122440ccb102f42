/-
  Widths, masks, cuts; how many terms there are, whether there is one, which it is, how wide it is.
-/
import Derived.Test.YtefielnmlekhaaaDoorMem
namespace Go.Proofs.YtefielnmlekhaaaDoor
open Go.RowKit Go.Maps
set_option linter.unusedVariables false

theorem ret_int {k : IntKind} {a b : Int} (h : a = b) : Ending.returned (.int k a) = .returned (.int k b) := by rw [h]
theorem ret_bool {a b : Bool} (h : a = b) : Ending.returned (.bool a) = .returned (.bool b) := by rw [h]
theorem fits_yes {a : Int} (h1 : 1 ≤ a) (h2 : a ≤ 64) : fitsB a = true := by simp [fitsB, h1, h2]
theorem fits_no {a : Int} (h : ¬ (1 ≤ a ∧ a ≤ 64)) : fitsB a = false := by
  cases e : fitsB a
  · rfl
  · simp [fitsB] at e; omega
theorem fits_bd {a : Int} (h : fitsB a = true) : 1 ≤ a ∧ a ≤ 64 := by simpa [fitsB] using h

theorem wordWidth_any (a : Int) (w : World) : Calls Tryd.prog 60 #[.int .i64 a] w fun e w' => e = .returned (.bool (fitsB a)) ∧ w' = w := by
  by_cases h1 : 1 ≤ a
  · by_cases h2 : a ≤ 64
    · rw [fits_yes h1 h2]
      go_enter Tryd.func60, Tryd.ntmps60
      go_wp2
      go_ret
      exact ⟨rfl, rfl⟩
    · rw [fits_no (by omega)]
      go_enter Tryd.func60, Tryd.ntmps60
      go_wp2
      go_ret
      exact ⟨rfl, rfl⟩
  · rw [fits_no (by omega)]
    go_enter Tryd.func60, Tryd.ntmps60
    go_wp2
    go_ret
    exact ⟨rfl, rfl⟩
theorem rfits_any (a : Int) (w : World) : Calls Tryd.prog 52 #[.int .i64 a] w fun e w' => e = .returned (.bool (fitsB a)) ∧ w' = w := by
  by_cases h1 : 1 ≤ a
  · by_cases h2 : a ≤ 64
    · rw [fits_yes h1 h2]
      go_enter Tryd.func52, Tryd.ntmps52
      go_wp2
      go_ret
      exact ⟨rfl, rfl⟩
    · rw [fits_no (by omega)]
      go_enter Tryd.func52, Tryd.ntmps52
      go_wp2
      go_ret
      exact ⟨rfl, rfl⟩
  · rw [fits_no (by omega)]
    go_enter Tryd.func52, Tryd.ntmps52
    go_wp2
    go_ret
    exact ⟨rfl, rfl⟩

theorem mask_any (a : Int) (w : World) : Calls Tryd.prog 51 #[.int .i64 a] w fun e w' => e = .returned (.int .u64 (mskF a)) ∧ w' = w := by
  by_cases h : 1 ≤ a ∧ a ≤ 64
  · obtain ⟨h1, h2⟩ := h
    have hf := fits_yes h1 h2
    go_enter Tryd.func51, Tryd.ntmps51
    go_wp2_with (go_at_call 60; refine (wordWidth_any _ _).mono ?_; rintro e w' ⟨rfl, rfl⟩)
    go_ret
    exact ⟨ret_int (mask_eq a h1 h2), rfl⟩
  · have hf := fits_no h
    go_enter Tryd.func51, Tryd.ntmps51
    go_wp2_with (go_at_call 60; refine (wordWidth_any _ _).mono ?_; rintro e w' ⟨rfl, rfl⟩)
    go_ret
    exact ⟨ret_int (msk_no h).symm, rfl⟩

theorem rmask_any (a : Int) (w : World) : Calls Tryd.prog 61 #[.int .i64 a] w fun e w' => e = .returned (.int .u64 (mskF a)) ∧ w' = w := by
  by_cases h : 1 ≤ a ∧ a ≤ 64
  · obtain ⟨n, rfl, hn1, hn2⟩ := width_nat h.1 h.2
    have hf := fits_yes h.1 h.2
    clear h
    go_enter Tryd.func61, Tryd.ntmps61
    go_wp2
    go_loop [3, 4] (fun x i => ∃ k : Nat, k ≤ n ∧ i = .int .i64 k ∧ x = .int .u64 (2 ^ k - 1)) (fun _ i => (n - intOf i).toNat)
    case atStart => exact ⟨0, by omega, rfl, rfl⟩
    case round =>
      obtain ⟨k, hk, rfl, rfl⟩ := hrel
      by_cases hlt : k < n
      · go_wp2_with (go_at_call 52; refine (rfits_any _ _).mono ?_; rintro e w' ⟨rfl, rfl⟩)
        go_round
        case rel => exact ⟨k + 1, by omega, by go_num, by rw [mask_step k (by omega)]⟩
        case measure => simp [intOf]; omega
      · go_wp2_with (go_at_call 52; refine (rfits_any _ _).mono ?_; rintro e w' ⟨rfl, rfl⟩)
        go_ret
        exact ⟨ret_int (by rw [msk_yes n hn1 hn2, show k = n by omega]), rfl⟩
  · have hf := fits_no h
    go_enter Tryd.func61, Tryd.ntmps61
    go_wp2
    go_loop [3, 4] (fun x i => i = .int .i64 0 ∧ x = .int .u64 0) (fun _ i => 0)
    case atStart => exact ⟨rfl, rfl⟩
    case round =>
      obtain ⟨rfl, rfl⟩ := hrel
      by_cases hlt : 0 < a
      · go_wp2_with (go_at_call 52; refine (rfits_any _ _).mono ?_; rintro e w' ⟨rfl, rfl⟩)
        go_ret
        exact ⟨ret_int (msk_no h).symm, rfl⟩
      · go_wp2_with (go_at_call 52; refine (rfits_any _ _).mono ?_; rintro e w' ⟨rfl, rfl⟩)
        go_ret
        exact ⟨ret_int (msk_no h).symm, rfl⟩

theorem cut_any (a x : Int) (w : World) (x0 : 0 ≤ x) (x1 : x < 18446744073709551616) : Calls Tryd.prog 26 #[.int .i64 a, .int .u64 x] w fun e w' => e = .returned (.int .u64 (cutF a x)) ∧ w' = w := by
  go_enter Tryd.func26, Tryd.ntmps26
  go_wp2_with (go_at_call 51; refine (mask_any _ _).mono ?_; rintro e w' ⟨rfl, rfl⟩)
  go_ret
  exact ⟨ret_int (cut_eq a x x0 x1), rfl⟩
theorem rcut_any (a x : Int) (w : World) (x0 : 0 ≤ x) (x1 : x < 18446744073709551616) : Calls Tryd.prog 54 #[.int .i64 a, .int .u64 x] w fun e w' => e = .returned (.int .u64 (cutF a x)) ∧ w' = w := by
  go_enter Tryd.func54, Tryd.ntmps54
  go_wp2_with (go_at_call 61; refine (rmask_any _ _).mono ?_; rintro e w' ⟨rfl, rfl⟩)
  go_ret
  exact ⟨ret_int (cut_eq a x x0 x1), rfl⟩

theorem msk_pos {a : Int} (h : fitsB a = true) : (mskF a != 0) = true := by
  obtain ⟨h1, h2⟩ := fits_bd h
  obtain ⟨n, rfl, hn1, hn2⟩ := width_nat h1 h2
  rw [msk_yes n hn1 hn2]
  have := pow_le 1 n hn1
  simp at this ⊢
  omega
theorem isWidth_any (a : Int) (w : World) : Calls Tryd.prog 24 #[.int .i64 a] w fun e w' => e = .returned (.bool (fitsB a)) ∧ w' = w := by
  have hv : (mskF a != 0) = fitsB a := by
    cases h : fitsB a
    · rw [msk_no (fun e => by rw [fits_yes e.1 e.2] at h; cases h)]; rfl
    · exact msk_pos h
  have HV := hid hv
  clear hv
  go_enter Tryd.func24, Tryd.ntmps24
  go_wp2_with (go_at_call 51; refine (mask_any _ _).mono ?_; rintro e w' ⟨rfl, rfl⟩)
  go_ret
  exact ⟨ret_bool HV.out, rfl⟩

theorem widthOf_any (op x : Int) (w : World) (h1 : 1 ≤ op) (h2 : op ≤ 14) : Calls Tryd.prog 29 #[.int .i64 op, .int .i64 x] w fun e w' => e = .returned (.int .i64 (opW op x)) ∧ w' = w := by
  by_cases h : 12 ≤ op
  · have HV : Hid (opW op x = 1) := hid (by simp [opW, h])
    have : op = 12 ∨ op = 13 ∨ op = 14 := by omega
    rcases this with rfl | rfl | rfl
    all_goals
      go_enter Tryd.func29, Tryd.ntmps29
      go_wp2
      go_ret
      exact ⟨ret_int HV.out.symm, rfl⟩
  · have HV : Hid (opW op x = x) := hid (by simp [opW, h])
    have e1 : (op == 12) = false := by simp; omega
    have e2 : (op == 13) = false := by simp; omega
    have e3 : (op == 14) = false := by simp; omega
    clear h h1 h2
    go_enter Tryd.func29, Tryd.ntmps29
    go_wp2
    go_ret
    exact ⟨ret_int HV.out.symm, rfl⟩

/-! ### Len -/
theorem len_none (w : World) : Calls Tryd.prog 19 #[.pointer none] w fun e w' => e = .returned (.int .i64 (([] : List Nd).length : Nat)) ∧ w' = w := by
  go_enter Tryd.func19, Tryd.ntmps19
  go_wp2
  go_ret
  exact ⟨rfl, rfl⟩

theorem len_raw {k : K} {w : World} {N : List Nd} {ws : List Int} {nv : Value} {mo : Option Nat} {P : Nat → Prop} (s : Raw k w N ws nv mo P) : Calls Tryd.prog 19 #[.pointer (some ⟨k.DB, 0, none⟩)] w fun e w' => e = .returned (.int .i64 N.length) ∧ w' = w := by
  have c1 := s.c1
  obtain ⟨ao, c, rfl, _⟩ := own_shape6 s.ow
  clear s
  go_enter Tryd.func19, Tryd.ntmps19
  go_wp2
  go_ret
  exact ⟨rfl, rfl⟩

theorem len_any {k : K} {w : World} {N : List Nd} {P : Nat → Prop} (s : Dg k w N P) : Calls Tryd.prog 19 #[.pointer (some ⟨k.DB, 0, none⟩)] w fun e w' => e = .returned (.int .i64 N.length) ∧ w' = w := by
  obtain ⟨_, nv, mo, s⟩ := s
  exact len_raw s

/-! ### has -/
def allN (N : List Nd) (xs : List Int) : Bool := xs.all (isN N)

theorem has_gen {p : Value} {w : World} {N : List Nd} (hL : Calls Tryd.prog 19 #[p] w fun e w' => e = .returned (.int .i64 N.length) ∧ w' = w) (b c : Nat) (xs : List Int) (hx : ∀ j, j < xs.length → w.cell? ⟨b, j, none⟩ = some (.int .i64 (xs.getD j 0))) (hs : xs.length ≤ 100) (h0 : 0 < xs.length) :
    Calls Tryd.prog 27 #[p, .slice (some ⟨b, 0, none⟩) xs.length c] w fun e w' => e = .returned (.bool (allN N xs)) ∧ w' = w := by
  have HL := hid hL
  have HX := hid hx
  clear hL hx
  go_enter Tryd.func27, Tryd.ntmps27
  go_wp2
  go_loop [9] (fun i => ∃ q : Nat, q ≤ xs.length ∧ i = .int .i64 q ∧ Hid (allN N (xs.take q) = true)) (fun i => xs.length - (intOf i).toNat)
  case atStart => exact ⟨0, Nat.zero_le _, rfl, hid rfl⟩
  case round =>
    obtain ⟨q, hq, rfl, ha⟩ := hrel
    by_cases hlt : q < xs.length
    · have hlt' : (q : Int) < xs.length := by omega
      have cq := HX.out q hlt
      obtain ⟨y, hy⟩ : ∃ y, xs.getD q 0 = y := ⟨_, rfl⟩
      rw [hy] at cq
      have hx2 : xs[q]? = some y := by rw [← hy]; simp [hlt]
      have HY : Hid (allN N (xs.take (q + 1)) = isN N y) := hid (by
        have := ha.out
        unfold allN at this ⊢
        rw [List.take_add_one, List.all_append, this, hx2]; simp)
      have HZ : Hid (isN N y = false → allN N xs = false) := hid (by
        intro h
        cases e : allN N xs
        · rfl
        · unfold allN at e
          rw [List.all_eq_true] at e
          rw [e y (List.mem_of_getElem? hx2)] at h; cases h)
      clear hy hx2 ha
      by_cases h1 : y < 0
      · have HE : Hid (isN N y = false) := hid (by simp [isN]; omega)
        go_wp2
        go_ret
        exact ⟨ret_bool (HZ.out HE.out).symm, rfl⟩
      · by_cases h2 : y < N.length
        · have HE : Hid (isN N y = true) := hid (by simp [isN]; omega)
          go_wp2_with (go_at_call 19; with_reducible (refine HL.out.mono ?_); rintro e w ⟨rfl, rfl⟩)
          go_round
          case rel => exact ⟨q + 1, by omega, by go_num, hid (by rw [HY.out, HE.out])⟩
          case measure => simp only [intOf]; omega
        · have HE : Hid (isN N y = false) := hid (by simp [isN]; omega)
          go_wp2_with (go_at_call 19; with_reducible (refine HL.out.mono ?_); rintro e w ⟨rfl, rfl⟩)
          go_ret
          exact ⟨ret_bool (HZ.out HE.out).symm, rfl⟩
    · have e : Hid (allN N xs = true) := hid (by have := ha.out; rwa [List.take_of_length_le (by omega)] at this)
      go_wp2
      go_ret
      exact ⟨ret_bool e.out.symm, rfl⟩

end Go.Proofs.YtefielnmlekhaaaDoor
