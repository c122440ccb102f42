/-
  isMove, coming, moved, anyOf.
-/
import Derived.Test.YtifecnnkkbpglaaCn
namespace Go.Proofs.Ytifecnnkkbpglaa
open Go.RowKit
set_option linter.unusedVariables false

/-! ### which operators move -/
def mvB (op : Int) : Bool := op == 9 || op == 10 || op == 11
theorem isMove_any (op : Int) (w : World) : Calls Try.prog 17 #[.int .i64 op] w fun e w' => e = .returned (.bool (mvB op)) ∧ w' = w := by
  have walk : ∀ o : Int, (o = 9 ∨ o = 10 ∨ o = 11 ∨ (¬ o = 9 ∧ ¬ o = 10 ∧ ¬ o = 11)) := fun o => by omega
  rcases walk op with rfl | rfl | rfl | ⟨h1, h2, h3⟩
  all_goals
    go_enter Try.func17, Try.ntmps17
    go_wp2
    go_ret
    exact ⟨rfl, rfl⟩

/-! ### what comes in -/
theorem coming_no (gb : Nat) (op : Int) (h : ¬ op = 11) (v : Value) (w : World) : Calls Try.prog 20 #[.pointer (some ⟨gb, 0, none⟩), .int .i64 op, v] w fun e w' => e = .returned (.int .i64 1) ∧ Hid (Below w.heap.size w w') := by
  have HV : Hid (notF 0 = 1) := hid (by decide)
  go_enter Try.func20, Try.ntmps20
  go_wp2_with (first
    | (go_at_call 14; with_reducible (refine (true_any gb _).mono ?_); rintro e w1 ⟨rfl, rfl⟩)
    | (go_at_call 36; with_reducible (refine (not_any _ _ (by omega)).mono ?_); rintro e w1 ⟨rfl, hb1⟩))
  go_ret
  exact ⟨by rw [HV.out]; rfl, hid hb1⟩

theorem coming_top (p : Value) (w : World) (ao : Option Addr) (m c1 : Nat) (xs : List Int) (rx : TR w ao m c1 xs) (y : Int) (hy : xs[m - 1]? = some y) (hm : m ≤ 1000) (hm0 : 0 < m) : Calls Try.prog 20 #[p, .int .i64 11, .slice ao m c1] w fun e w' => e = .returned (.int .i64 y) ∧ w' = w := by
  obtain ⟨b, o, rfl, cx⟩ := rx.cells hm0
  have c := cx B0 w (FG.refl _) _ _ hy
  have mx := rx.row.max
  obtain ⟨p1, hp⟩ : ∃ q, q = m - 1 := ⟨_, rfl⟩
  rw [← hp] at c
  have e1 : (m : Int) - 1 = (p1 : Int) := by omega
  have e2 : IntKind.i64.wrap (p1 : Int) = (p1 : Int) := IntWalk.i64_in _ (by omega)
  have e3 : (p1 : Int) < m := by omega
  have e4 : p1 < m := by omega
  clear cx hy rx hp
  go_enter Try.func20, Try.ntmps20
  go_wp2
  go_ret
  exact ⟨rfl, rfl⟩

/-! ### moved -/
set_option maxHeartbeats 2000000 in
theorem moved_left (w : World) (ao bo : Option Addr) (m t c1 c2 : Nat) (xs ys : List Int) (rx : TR w ao m c1 xs) (ry : TR w bo t c2 ys) (hm : m ≤ 1000) (ht : t ≤ m) (hm0 : 0 < m) :
    Calls Try.prog 23 #[.int .i64 9, .slice ao m c1, .slice bo t c2] w fun e w' => ∃ ro c, e = .returned (.slice ro m c) ∧ Hid (TR w' ro m c (ys ++ xs.take (m - t))) ∧ Hid (Below w.heap.size w w') := by
  obtain ⟨b, o, rfl, cx⟩ := rx.cells hm0
  clear cx
  have mx := rx.row.max
  have my := ry.row.max
  have hc1 := rx.row.2.1
  have mc1 := rx.row.2.2.1
  unfold maxLen at mc1
  obtain ⟨k, hk⟩ : ∃ k, k = m - t := ⟨_, rfl⟩
  have HK : Hid (t + k = m) := hid (by omega)
  rw [← hk]
  have k1 : k ≤ m := by omega
  have e1 : (m : Int) - t = (k : Int) := by omega
  have e2 : IntKind.i64.wrap (k : Int) = (k : Int) := IntWalk.i64_in _ (by omega)
  have p1 : (0 : Int) ≤ k := by omega
  have p2 : (k : Int) ≤ c1 := by omega
  have RX := hid (rx.take k1)
  have RY := hid ry
  clear hk rx ry
  go_enter Try.func23, Try.ntmps23
  go_wp2_with (go_at_call 43; with_reducible (refine (concat_two _ _ _ t k c2 c1 m ys (xs.take k) RY.out RX.out (by omega) (by omega) HK.out).mono ?_); rintro e w1 ⟨ro, c, rfl, hr, hb⟩)
  go_ret
  exact ⟨_, _, rfl, hr, hb⟩

set_option maxHeartbeats 2000000 in
theorem moved_right (op : Int) (hop : ¬ op = 9) (w : World) (ao bo : Option Addr) (m t c1 c2 : Nat) (xs ys : List Int) (rx : TR w ao m c1 xs) (ry : TR w bo t c2 ys) (hm : m ≤ 1000) (ht : t < m) :
    Calls Try.prog 23 #[.int .i64 op, .slice ao m c1, .slice bo t c2] w fun e w' => ∃ ro c, e = .returned (.slice ro m c) ∧ Hid (TR w' ro m c (xs.drop t ++ ys)) ∧ Hid (Below w.heap.size w w') := by
  obtain ⟨b, o, rfl, cx⟩ := rx.cells (by omega)
  clear cx
  have mx := rx.row.max
  have my := ry.row.max
  have hc1 := rx.row.2.1
  have mc1 := rx.row.2.2.1
  unfold maxLen at mc1
  have HK : Hid (m - t + t = m) := hid (by omega)
  have p0 : (0 : Int) ≤ t := by omega
  have p1 : (t : Int) ≤ m := by omega
  have p2 : (m : Int) ≤ c1 := by omega
  have hne : ¬ c1 = t := by omega
  have RX := hid (rx.drop (i := t) (c' := c1 - t) (by omega) (by omega) (by omega))
  have RY := hid ry
  clear rx ry
  go_enter Try.func23, Try.ntmps23
  go_wp2_with (go_at_call 43; with_reducible (refine (concat_two _ _ _ (m - t) t (c1 - t) c2 m (xs.drop t) ys RX.out RY.out (by omega) (by omega) HK.out).mono ?_); rintro e w1 ⟨ro, c, rfl, hr, hb⟩)
  go_ret
  exact ⟨_, _, rfl, hr, hb⟩

/-! ### whether one of a row holds -/
set_option maxHeartbeats 8000000 in
theorem any_any {B : BT} {gb n : Nat} {cs : List (List Int)} {val : Nat → Bool} {is : List Int} (w : World) (g : Good n cs val is) (h : Gt B gb w n cs) (hn : n ≤ 5000) (bo : Option Addr) (m c2 : Nat) (ys : List Int) (ry : TR w bo m c2 ys) (C : Nat → Bool) (Y : Lits n val ys m C) (hm : m ≤ 1000) :
    Calls Try.prog 24 #[.pointer (some ⟨gb, 0, none⟩), .slice bo m c2] w fun e w' => ∃ y, e = .returned (.int .i64 y) ∧ Hid (YEnd B gb is n val m w w' y (orF C m)) := by
  have HG := hid g
  have G := hid h
  have RY := hid ry
  have HY := hid Y
  have my := ry.row.max
  have HV : Hid (notF 0 = 1) := hid (by decide)
  clear g h ry Y
  go_enter Try.func24, Try.ntmps24
  go_upto_region 3 with (first
    | (go_at_call 14; with_reducible (refine (true_any gb _).mono ?_); rintro e w1 ⟨rfl, hw1⟩; subst w1)
    | (go_at_call 36; with_reducible (refine (not_any _ _ (by omega)).mono ?_); rintro e w1 ⟨rfl, hb1⟩; rw [HV.out]))
  have L0 : Hid (YEnd B gb is n val 0 w w1 1 (orF C 0)) := hid (YEnd.of ((Sx.start HG.out G.out).below hb1) (rng_one HG.out.pos) (hd_one HG.out))
  clear hb1
  go_loopw [5, 7, 13] (fun yv _ i wr => ∃ q : Nat, q ≤ m ∧ i = .int .i64 q ∧ ∃ y, yv = .int .i64 y ∧ Hid (YEnd B gb is n val q w wr y (orF C q))) (fun _ _ i _ => m - (intOf i).toNat)
  case atStart => exact ⟨0, Nat.zero_le _, rfl, _, rfl, L0⟩
  case round =>
    clear L0
    obtain ⟨q, hq, rfl, y, rfl, hst⟩ := hrel
    obtain ⟨n2, cs2, val2, s2, ry2, vy2⟩ := hst.out
    have S := hid s2
    have Ry := hid ry2
    have Vy := hid vy2
    clear s2 ry2 vy2 hst
    by_cases hlt : q < m
    · have hlt' : (q : Int) < m := by omega
      obtain ⟨b2, o2, rfl, cy⟩ := RY.out.cells (by omega)
      obtain ⟨yq, hyq, ryq, vyq⟩ := HY.out.at (j := q) hlt
      have Ryq := hid ryq
      have Vyq := hid vyq
      have cq := cy B wr S.out.f _ _ hyq
      clear cy hyq ryq vyq
      go_wp2_with (go_at_call 44; with_reducible (refine (or_any _ S.out.g S.out.h (by have := S.out.hi; omega) y yq Ry.out (rng_more Ryq.out S.out.lo)).mono ?_); rintro e w5 ⟨y5, rfl, hend⟩; obtain ⟨n5, cs5, val5, lo5, hi5, S5, ag5, RU5, HU5⟩ := hend.out.on S.out (Below.refl _ _); clear hend)
      have YE : Hid (YEnd B gb is n val (q + 1) w w5 y5 (orF C (q + 1))) := hid (YEnd.of S5.out RU5.out (by rw [HU5.out, Vy.out, hd_agree S.out.ag Ryq.out, Vyq.out]; rfl))
      go_roundw
      case rel => exact ⟨q + 1, by omega, by go_num, _, rfl, YE⟩
      case measure => simp only [intOf]; omega
    · have hqm : q = m := by omega
      subst hqm
      have YE := hid (YEnd.of S.out Ry.out Vy.out)
      go_wp2
      go_ret
      exact ⟨_, rfl, YE⟩

end Go.Proofs.Ytifecnnkkbpglaa
