/-
  What arith asks ahead of the first gate; rows of Nots; rows of one literal.
-/
import Derived.Test.YtifecnnkkbpglaaAm
import Derived.Laws.CopyOwn
namespace Go.Proofs.Ytifecnnkkbpglaa
open Go.RowKit
set_option linter.unusedVariables false

set_option maxHeartbeats 1000000 in
theorem ahave_any (w : World) (p : Value) (n : Nat) (hp : Vq w p n) (hn : n ≤ 100000) (ao : Option Addr) (m cap : Nat) (xs : List Int) (hr : Row w ao m cap xs) :
    Calls Try.prog 40 #[p, .slice ao m cap] w fun e w' => e = .returned (.bool (haveF n xs)) ∧ Hid (Below w.heap.size w w') := by
  have HR := hid hr
  have HP := hid hp
  have hm := hr.max
  have hb0 := hid (Below.refl w.heap.size w)
  clear hr hp
  go_enter Try.func40, Try.ntmps40
  go_wp2
  go_loopw [6, 7, 10] (fun _ _ i wr => ∃ k : Nat, k ≤ m ∧ i = .int .i64 k ∧ Hid ((xs.take k).all (okF n) = true) ∧ Hid (Below w.heap.size w wr)) (fun _ _ i _ => m - (intOf i).toNat)
  case atStart => exact ⟨0, Nat.zero_le _, rfl, rfl, hb0⟩
  case round =>
    obtain ⟨k, hk, rfl, hall, hb⟩ := hrel
    by_cases hlt : k < m
    · obtain ⟨b, off, y, rfl, hc, hy, y0, y1⟩ := (HR.out.keep hb.out).at hlt
      cases he : okF n y
      · have HV : Hid (haveF n xs = false) := hid (by
          rw [haveF, List.all_eq_false]
          exact ⟨y, List.mem_of_getElem? hy.out, by simp [he]⟩)
        by_cases hneg : y < 0
        · have hv : varF y = -1 := by simp [varF, hneg]
          clear he
          go_wp2_with (first
            | (go_at_call 55; with_reducible (refine (var_any _ _ y1).mono ?_); rintro e w1 ⟨rfl, hb1⟩; rw [hv]))
          go_ret
          exact ⟨by rw [HV.out]; rfl, hid (Below.next hb.out hb1)⟩
        · obtain ⟨v, hv⟩ : ∃ v, v = varF y := ⟨_, rfl⟩
          have hv2 : v = y / 2 := by rw [hv]; simp [varF, hneg]
          have hv0 : ¬ v < 0 := by omega
          have hv1 : (n : Int) ≤ v := by
            rw [← Bool.not_eq_true, okF_rng] at he
            unfold rng at he; omega
          clear he hv2
          go_wp2_with (first
            | (go_at_call 55; with_reducible (refine (var_any _ _ y1).mono ?_); rintro e w1 ⟨rfl, hb1⟩; rw [← hv])
            | (go_at_call 26; with_reducible (refine (vars_q (HP.out.keep (Below.next hb.out hb1))).mono ?_); rintro e w2 ⟨rfl, rfl⟩))
          go_ret
          exact ⟨by rw [HV.out]; rfl, hid (Below.next hb.out hb1)⟩
      · have HV : Hid ((xs.take (k + 1)).all (okF n) = true) := hid (by
          rw [List.take_add_one, hy.out, List.all_append, hall.out]; simp [he])
        obtain ⟨v, hv⟩ : ∃ v, v = varF y := ⟨_, rfl⟩
        have hr := okF_rng.1 he
        have hv2 : v = y / 2 := by rw [hv]; unfold rng at hr; simp [varF]; omega
        have hv0 : ¬ v < 0 := by unfold rng at hr; omega
        have hv1 : ¬ (n : Int) ≤ v := by unfold rng at hr; omega
        clear he hv2 hr
        go_wp2_with (first
          | (go_at_call 55; with_reducible (refine (var_any _ _ y1).mono ?_); rintro e w1 ⟨rfl, hb1⟩; rw [← hv])
          | (go_at_call 26; with_reducible (refine (vars_q (HP.out.keep (Below.next hb.out hb1))).mono ?_); rintro e w2 ⟨rfl, rfl⟩))
        go_roundw
        case rel => exact ⟨k + 1, by omega, by go_num, HV, hid (Below.next hb.out hb1)⟩
        case measure => simp only [intOf]; omega
    · have HV : Hid (haveF n xs = true) := hid (by
        have := hall.out
        rwa [List.take_of_length_le (by rw [HR.out.1]; omega)] at this)
      go_wp2
      go_ret
      exact ⟨by rw [HV.out]; rfl, hb⟩

theorem ahave_one (w : World) (p : Value) (n : Nat) (hp : Vq w p n) (hn : n ≤ 10000) (a : Int) (h0 : -9223372036854775808 ≤ a ∧ a ≤ 9223372036854775807) :
    Calls Try.prog 40 #[p, .slice (some ⟨w.heap.size, 0, none⟩) 1 1] (w.alloc (.cells #[.int .i64 a] 3)) fun e w' => e = .returned (.bool (haveF n [a])) ∧ Hid (Below w.heap.size w w') := by
  have b1 : Below w.heap.size w (w.alloc (.cells #[.int .i64 a] 3)) := (Below.refl _ _).alloc (Nat.le_refl _) _
  refine (ahave_any _ p n (hp.keep b1) (by omega) _ 1 1 [a] (row_one w a h0.1 h0.2)).mono ?_
  rintro e w' ⟨he, hb⟩
  exact ⟨he, hid (Below.next b1 hb.out)⟩


/-! ### alike -/
def al2 (n m m2 : Nat) (xs ys : List Int) : Bool := (decide (0 < m) && haveF n xs) && (decide (m2 = m) && haveF n ys)

theorem al_yes {n m : Nat} {xs ys : List Int} (h0 : 0 < m) (hx : ∀ x ∈ xs, rng n x) (hy : ∀ x ∈ ys, rng n x) : al2 n m m xs ys = true := by
  simp [al2, h0, have_yes hx, have_yes hy]
theorem al_len {n m m2 : Nat} {xs ys : List Int} (h : m2 ≠ m) : al2 n m m2 xs ys = false := by simp [al2, h]
theorem al_zero {n m m2 : Nat} {xs ys : List Int} (h : m = 0) : al2 n m m2 xs ys = false := by simp [al2, h]
theorem al_left {n m m2 : Nat} {xs ys : List Int} {x : Int} (hx : x ∈ xs) (h : ¬ rng n x) : al2 n m m2 xs ys = false := by simp [al2, have_no hx h]
theorem al_right {n m m2 : Nat} {xs ys : List Int} {x : Int} (hx : x ∈ ys) (h : ¬ rng n x) : al2 n m m2 xs ys = false := by simp [al2, have_no hx h]

/-- What the rows that were asked for say. -/
def Lk (n m m2 : Nat) (xs ys : List Int) (k : Nat) : Prop := (0 < k → 0 < m ∧ haveF n xs = true) ∧ (1 < k → m2 = m ∧ haveF n ys = true)
theorem Lk.start (n m m2 : Nat) (xs ys : List Int) : Lk n m m2 xs ys 0 := ⟨fun h => by omega, fun h => by omega⟩
theorem Lk.one {n m m2 : Nat} {xs ys : List Int} (h : 0 < m) (hh : haveF n xs = true) : Lk n m m2 xs ys 1 := ⟨fun _ => ⟨h, hh⟩, fun h => by omega⟩
theorem Lk.two {n m : Nat} {xs ys : List Int} (h : Lk n m m xs ys 1) (hh : haveF n ys = true) : Lk n m m xs ys 2 := ⟨fun _ => h.1 (by omega), fun _ => ⟨rfl, hh⟩⟩
theorem Lk.end {n m m2 : Nat} {xs ys : List Int} (h : Lk n m m2 xs ys 2) : al2 n m m2 xs ys = true := by
  obtain ⟨p1, p2⟩ := h.1 (by omega)
  obtain ⟨p3, p4⟩ := h.2 (by omega)
  simp [al2, p1, p2, p3, p4]

theorem two_rows (w : World) (u v : Value) : (w.alloc (.cells #[u, v] 29)).cell? ⟨w.heap.size, 0, none⟩ = some u ∧ (w.alloc (.cells #[u, v] 29)).cell? ⟨w.heap.size, 1, none⟩ = some v := by
  rw [cell_of (new_same w _), cell_of (new_same w _)]; exact ⟨rfl, rfl⟩

set_option maxHeartbeats 4000000 in
theorem alike_any (w : World) (p : Value) (n : Nat) (hp : Vq w p n) (hn : n ≤ 10000) (ao bo : Option Addr) (m m2 c c2 : Nat) (xs ys : List Int) (rx : Row w ao m c xs) (ry : Row w bo m2 c2 ys) :
    Calls Try.prog 41 #[p, .slice (some ⟨w.heap.size, 0, none⟩) 2 2] (w.alloc (.cells #[.slice ao m c, .slice bo m2 c2] 29)) fun e w' => e = .returned (.bool (al2 n m m2 xs ys)) ∧ Hid (Below w.heap.size w w') := by
  have b1 : Below w.heap.size w (w.alloc (.cells #[.slice ao m c, .slice bo m2 c2] 29)) := (Below.refl _ _).alloc (Nat.le_refl _) _
  obtain ⟨k0, k1⟩ := two_rows w (.slice ao m c) (.slice bo m2 c2)
  have HB := hid b1
  have K0 := hid k0
  have K1 := hid k1
  have HP := hid (hp.keep b1)
  have RX := hid (rx.keep b1)
  have RY := hid (ry.keep b1)
  have mx := rx.max
  have my := ry.max
  clear hp rx ry b1 k0 k1
  generalize (w.alloc (.cells #[.slice ao m c, .slice bo m2 c2] 29)) = wa at HB K0 K1 HP RX RY ⊢
  have AB := hid HB.out.size
  generalize w.heap.size = ab at K0 K1 HB AB ⊢
  go_enter Try.func41, Try.ntmps41
  go_wp2
  go_loopw [6, 9] (fun _ i wr => ∃ k : Nat, k ≤ 2 ∧ i = .int .i64 k ∧ Hid (Lk n m m2 xs ys k) ∧ Hid (Below wa.heap.size wa wr)) (fun _ i _ => 2 - (intOf i).toNat)
  case atStart => exact ⟨0, by omega, rfl, hid (Lk.start _ _ _ _ _), hid (Below.refl _ _)⟩
  case round =>
    obtain ⟨k, hk, rfl, lk, hb⟩ := hrel
    have c0 := (hb.out.cell (cell_lt K0.out)).trans K0.out
    have c1 := (hb.out.cell (cell_lt K1.out)).trans K1.out
    have HP := hid (HP.out.keep hb.out)
    have RX := hid (RX.out.keep hb.out)
    have RY := hid (RY.out.keep hb.out)
    obtain rfl | rfl | rfl : k = 0 ∨ k = 1 ∨ k = 2 := by omega
    · by_cases hm : m = 0
      · have HV := hid (al_zero (n := n) (m := m) (m2 := m2) (xs := xs) (ys := ys) hm)
        have q1 : ((m : Int) == 0) = true := by simp; omega
        clear hm
        go_wp2
        go_ret
        exact ⟨by rw [HV.out]; rfl, hid (HB.out.trans (hb.out.mono AB.out))⟩
      · have q1 : ((m : Int) == 0) = false := by simp; omega
        have q2 : ((m : Int) != (m : Int)) = false := by simp
        have hm0 := hid (show 0 < m by omega)
        cases hh : haveF n xs
        · have HV : Hid (al2 n m m2 xs ys = false) := hid (by simp [al2, hh])
          have HH := hid hh
          clear hm hh
          go_wp2_with (go_at_call 40; with_reducible (refine (ahave_any _ _ n HP.out (by omega) _ m c xs RX.out).mono ?_); rintro e w1 ⟨rfl, hb1⟩; rw [HH.out]; have hb := hid (Below.next hb.out hb1.out))
          go_ret
          exact ⟨by rw [HV.out]; rfl, hid (HB.out.trans (hb.out.mono AB.out))⟩
        · have HH := hid hh
          clear hm hh
          go_wp2_with (go_at_call 40; with_reducible (refine (ahave_any _ _ n HP.out (by omega) _ m c xs RX.out).mono ?_); rintro e w1 ⟨rfl, hb1⟩; rw [HH.out]; have hb := hid (Below.next hb.out hb1.out))
          go_roundw
          case rel => exact ⟨1, by omega, by go_num, hid (Lk.one hm0.out HH.out), hb⟩
          case measure => simp only [intOf]; omega
    · have p1 := (lk.out.1 (by omega)).1
      by_cases hm : m2 = m
      · subst hm
        have q1 : ((m2 : Int) == 0) = false := by simp; omega
        have q2 : ((m2 : Int) != (m2 : Int)) = false := by simp
        cases hh : haveF n ys
        · have HV : Hid (al2 n m2 m2 xs ys = false) := hid (by simp [al2, hh])
          have HH := hid hh
          clear p1 hh
          go_wp2_with (go_at_call 40; with_reducible (refine (ahave_any _ _ n HP.out (by omega) _ m2 c2 ys RY.out).mono ?_); rintro e w1 ⟨rfl, hb1⟩; rw [HH.out]; have hb := hid (Below.next hb.out hb1.out))
          go_ret
          exact ⟨by rw [HV.out]; rfl, hid (HB.out.trans (hb.out.mono AB.out))⟩
        · have HH := hid hh
          clear p1 hh
          go_wp2_with (go_at_call 40; with_reducible (refine (ahave_any _ _ n HP.out (by omega) _ m2 c2 ys RY.out).mono ?_); rintro e w1 ⟨rfl, hb1⟩; rw [HH.out]; have hb := hid (Below.next hb.out hb1.out))
          go_roundw
          case rel => exact ⟨2, by omega, by go_num, hid (lk.out.two HH.out), hb⟩
          case measure => simp only [intOf]; omega
      · have HV := hid (al_len (n := n) (m := m) (m2 := m2) (xs := xs) (ys := ys) hm)
        have q2 : ((m2 : Int) != (m : Int)) = true := by simp; omega
        clear hm p1
        by_cases hz : m2 = 0
        · have q1 : ((m2 : Int) == 0) = true := by simp; omega
          clear hz
          go_wp2
          go_ret
          exact ⟨by rw [HV.out]; rfl, hid (HB.out.trans (hb.out.mono AB.out))⟩
        · have q1 : ((m2 : Int) == 0) = false := by simp; omega
          clear hz
          go_wp2
          go_ret
          exact ⟨by rw [HV.out]; rfl, hid (HB.out.trans (hb.out.mono AB.out))⟩
    · have HV := hid lk.out.end
      go_wp2
      go_ret
      exact ⟨by rw [HV.out]; rfl, hid (HB.out.trans (hb.out.mono AB.out))⟩

/-! ### the Nots of a row -/

end Go.Proofs.Ytifecnnkkbpglaa
