/-
  take.
-/
import Derived.Test.YtplhlfmibeennaaTk
namespace Go.Proofs.Ytplhlfmibeennaa
open Go.RowKit
set_option linter.unusedVariables false

theorem new_a (w : World) (o : Obj) : Below w.heap.size w (w.alloc o) := (Below.refl _ _).alloc (Nat.le_refl _) o
theorem one_new (w : World) (y : Int) : (w.alloc (.cells #[.int .i64 y] 3)).cell? ⟨w.heap.size, 0, none⟩ = some (.int .i64 y) := by rw [cell_of (new_same w _)]; rfl
theorem one_new2 (w : World) (o : Obj) (y : Int) : ((w.alloc o).alloc (.cells #[.int .i64 y] 3)).cell? ⟨w.heap.size + 1, 0, none⟩ = some (.int .i64 y) := by
  have := one_new (w.alloc o) y
  rwa [show (w.alloc o).heap.size = w.heap.size + 1 by simp] at this
theorem one_more {w w' : World} {a : Addr} {v : Value} (h : w.cell? a = some v) (b : Below w.heap.size w w') : w'.cell? a = some v := (b.cell (cell_lt h)).trans h
theorem row_cell {w : World} {b : Nat} {y : Int} (h : w.cell? ⟨b, 0, none⟩ = some (.int .i64 y)) (hy : -9223372036854775808 ≤ y ∧ y ≤ 9223372036854775807) : Row w (some ⟨b, 0, none⟩) 1 1 [y] := by
  refine ⟨rfl, Nat.le_refl _, by unfold maxLen; omega, fun e => by simp at e, fun x hx => ?_, fun _ => ⟨b, 0, rfl, fun j hj => ?_⟩⟩
  · rw [List.mem_singleton] at hx; subst hx; exact hy
  · obtain rfl : j = 0 := by omega
    exact h

/-- What is left, and whether it was taken. -/
def dfF (R Bf : Nat → Bool) (m : Nat) : Nat → Bool := smF true (lowB R m) (noF (lowB Bf m))
theorem df_eq (R Bf : Nat → Bool) (m : Nat) : dfF R Bf m = smF true (lowB R m) (noF (lowB Bf m)) := rfl
def tkB (R Bf : Nat → Bool) (m : Nat) (P : Bool) : Bool := !(dfF R Bf m m || P)
theorem tk_eq (R Bf : Nat → Bool) (m : Nat) (P : Bool) : tkB R Bf m P = !(dfF R Bf m m || P) := rfl
def lfF (R Bf : Nat → Bool) (m : Nat) (P : Bool) : Nat → Bool := itF (tkB R Bf m P) (dfF R Bf m) R

theorem lits_low {n : Nat} {cs : List (List Int)} {val : Nat → Bool} {is : List Int} (g : Good n cs val is) {xs : List Int} {m : Nat} {A : Nat → Bool} (X : Lits n val xs m A) : Lits n val (xs ++ [1]) (m + 1) (lowB A m) :=
  (X.app (lits_one g)).as (fun j hj => by
    by_cases h : j < m <;> simp [h, lowB])

theorem TR.get {w : World} {b m c : Nat} {xs : List Int} (h : TR w (some ⟨b, 0, none⟩) m c xs) {j : Nat} {x : Int} (hx : xs[j]? = some x) : w.cell? ⟨b, j, none⟩ = some (.int .i64 x) := by
  have hj : j < m := by rw [← h.row.1]; exact (List.getElem?_eq_some_iff.1 hx).1
  obtain ⟨b2, o2, e, hc⟩ := h.row.2.2.2.2.2 (by omega)
  cases e
  have := hc j hj
  rw [Nat.zero_add, List.getD_eq_getElem?_getD, hx] at this
  exact this
theorem rng_ge {n : Nat} {x : Int} (h : rng n x) : 0 ≤ x := h.1
theorem GEnd.fg {B : BT} {gb n : Nat} {cs : List (List Int)} {val : Nat → Bool} {is : List Int} {r : Bool} {w w' : World} {y : Int} (e : GEnd B gb n cs val is r w w' y) : FG B w w' := by
  obtain ⟨_, _, _, _, _, _, _, h5⟩ := e
  exact h5
theorem lf_eq (R Bf : Nat → Bool) (m : Nat) (P : Bool) : lfF R Bf m P = itF (tkB R Bf m P) (dfF R Bf m) R := rfl

/-- A literal and a row were made. -/
def TkEnd (B : BT) (gb : Nat) (is : List Int) (n0 : Nat) (v0 : Nat → Bool) (k : Nat) (w w' : World) (y : Int) (r : Bool) (rb m : Nat) (S : Nat → Bool) : Prop :=
  ∃ n cs val zs, Sx B gb is n0 v0 k w w' n cs val ∧ rng n y ∧ hd val y = r ∧ TR w' (some ⟨rb, 0, none⟩) m m zs ∧ Lits n val zs m S ∧ w.heap.size ≤ rb
theorem TkEnd.go {B : BT} {gb : Nat} {is : List Int} {n0 : Nat} {v0 : Nat → Bool} {k : Nat} {w w' : World} {y : Int} {r : Bool} {rb m : Nat} {S : Nat → Bool} (h : TkEnd B gb is n0 v0 k w w' y r rb m S) :
    ∃ n cs val zs, Hid (Sx B gb is n0 v0 k w w' n cs val) ∧ Hid (rng n y) ∧ Hid (hd val y = r) ∧ Hid (TR w' (some ⟨rb, 0, none⟩) m m zs) ∧ Hid (Lits n val zs m S) ∧ w.heap.size ≤ rb := by
  obtain ⟨n, cs, val, zs, h1, h2, h3, h4, h5, h6⟩ := h
  exact ⟨n, cs, val, zs, h1, h2, h3, h4, h5, h6⟩
theorem TkEnd.mk {B : BT} {gb : Nat} {is : List Int} {n0 : Nat} {v0 : Nat → Bool} {k : Nat} {w w' : World} {y : Int} {r : Bool} {rb m : Nat} {S : Nat → Bool} {n : Nat} {cs : List (List Int)} {val : Nat → Bool} {zs : List Int} (h1 : Sx B gb is n0 v0 k w w' n cs val) (h2 : rng n y) (h3 : hd val y = r) (h4 : TR w' (some ⟨rb, 0, none⟩) m m zs) (h5 : Lits n val zs m S) (h6 : w.heap.size ≤ rb) : TkEnd B gb is n0 v0 k w w' y r rb m S :=
  ⟨n, cs, val, zs, h1, h2, h3, h4, h5, h6⟩

set_option maxHeartbeats 16000000 in
theorem take_any {B : BT} {gb n : Nat} {cs : List (List Int)} {val : Nat → Bool} {is : List Int} (w : World) (g : Good n cs val is) (h : Gt B gb w n cs) (hn : n ≤ 4000) (ao bo : Option Addr) (m c1 c2 : Nat) (xs ys : List Int) (rx : TR w ao m c1 xs) (ry : TR w bo m c2 ys) (R Bf : Nat → Bool) (X : Lits n val xs m R) (Y : Lits n val ys m Bf) (t : Int) (ht : rng n t) (P : Bool) (hP : hd val t = P) (hm : m ≤ 100) (hm0 : 0 < m) :
    Calls Try.prog 35 #[.pointer (some ⟨gb, 0, none⟩), .slice ao m c1, .slice bo m c2, .int .i64 t] w fun e w' => ∃ y rb, e = .returned (.tuple #[.int .i64 y, .slice (some ⟨rb, 0, none⟩) m m]) ∧ Hid (TkEnd B gb is n val (3 * (m + 1) + 1 + m) w w' y (tkB R Bf m P) rb m (lfF R Bf m P)) := by
  have HG := hid g
  have G := hid h
  have hc1 : m ≤ c1 := rx.row.2.1
  have hc2 : m ≤ c2 := ry.row.2.1
  have mc1 := rx.row.2.2.1
  have mc2 := ry.row.2.2.1
  have mx := rx.row.max
  have my := ry.row.max
  obtain ⟨b1, o1, rfl, _⟩ := rx.cells (by omega)
  obtain ⟨b2, o2, rfl, _⟩ := ry.cells (by omega)
  have RX : Hid (TR w (some ⟨b1, o1, none⟩) m m xs) := hid (rx.full (Nat.le_refl _) hc1 (fun e => by simp at e))
  have RY : Hid (TR w (some ⟨b2, o2, none⟩) m m ys) := hid (ry.full (Nat.le_refl _) hc2 (fun e => by simp at e))
  have RW := hid rx
  have HX := hid X
  have LA := hid (lits_low g X)
  have LB := hid (lits_low g Y)
  have RT := hid ht
  have VT := hid hP
  have N0 : Hid True := hid trivial
  have p1 : (0 : Int) ≤ m := by omega
  have p2 : (m : Int) ≤ c1 := by omega
  have p3 : (m : Int) ≤ c2 := by omega
  have p4 : (m : Int) ≤ m := by omega
  obtain ⟨M, hM⟩ : ∃ M, M = m + 1 := ⟨_, rfl⟩
  have HM := hid hM
  have k1 : m < M := by omega
  have k2 : M ≤ m + 1 := by omega
  unfold maxLen at mc1 mc2
  clear g h rx ry X Y ht hP hM
  go_enter Try.func35, Try.ntmps35
  go_wp2
  go_cut [11] from 15 to 32 (fun v wx => ∃ lb, v = .slice (some ⟨lb, 0, none⟩) M M ∧ Hid (REnd B gb is n val (3 * M) w wx lb M (dfF R Bf m)))
  case first =>
    have HB := hid (below_drew w)
    go_region_held3 (fun W => True) (exact trivial) (first
      | (go_at_call 21; with_reducible (refine (mno_any gb _).mono ?_); rintro e w1 ⟨rfl, hb1⟩; have T0 := N0.out; have N0 := trivial; have HB := hid (Below.next (by first | exact HB.out | exact Below.next HB.out (new_a _ _)) hb1.out))
      | (go_at_call 21; with_reducible (refine (mno_any gb _).mono ?_); rintro e w2 ⟨rfl, hb2⟩; have HB := hid (Below.next (by first | exact HB.out | exact Below.next HB.out (new_a _ _)) hb2.out))
      | (refine step_full rfl (.tmp 19) (.tmp 22) rfl ⟨b1, o1, none⟩ m xs (by first | rfl | (simp; done) | (simp [go_sem]; done)) ((RX.out.below (by first | exact HB.out | exact Below.next HB.out (new_a _ _) | exact Below.next (Below.next HB.out (new_a _ _)) (new_a _ _))).row) _ 1 1 [1] rfl (row_cell (by first
          | exact one_new _ _
          | exact one_new2 _ _ _
          | exact one_more (one_new _ _) hb2.out
          | exact one_more (one_new _ _) (new_a _ _)
          | exact one_more (one_more (one_new _ _) hb2.out) (new_a _ _)
          | exact one_more (one_more (one_more (one_new _ _) hb2.out) (new_a _ _)) hb4.out
          | exact one_more (one_more (one_new _ _) (new_a _ _)) hb4.out
          | exact one_more (one_new2 _ _ _) hb4.out) (by omega)) (by omega) (by omega) ?_; intro g3 cap3 w3 tr3 hb3; have T3 := hid tr3.out; have HB := hid (Below.next (by first | exact HB.out | exact Below.next HB.out (new_a _ _) | exact Below.next (Below.next HB.out (new_a _ _)) (new_a _ _)) hb3.out))
      | (refine step_full rfl (.tmp 27) (.tmp 30) rfl ⟨b2, o2, none⟩ m ys (by first | rfl | (simp; done) | (simp [go_sem]; done)) ((RY.out.below (by first | exact HB.out | exact Below.next HB.out (new_a _ _) | exact Below.next (Below.next HB.out (new_a _ _)) (new_a _ _))).row) _ 1 1 [1] rfl (row_cell (by first
          | exact one_new _ _
          | exact one_new2 _ _ _
          | exact one_more (one_new _ _) hb3.out
          | exact one_more (one_new2 _ _ _) hb3.out
          | exact one_more (one_new _ _) (new_a _ _)
          | exact one_more (one_more (one_new _ _) (new_a _ _)) hb3.out) (by omega)) (by omega) (by omega) ?_; intro g4 cap4 w4 tr4 hb4; have T4 := hid tr4.out; have HB := hid (Below.next (by first | exact HB.out | exact Below.next HB.out (new_a _ _) | exact Below.next (Below.next HB.out (new_a _ _)) (new_a _ _)) hb4.out))
      | (go_at_call 50; with_reducible (refine (sub_any _ HG.out (G.out.below HB.out) (by omega) _ _ (m + 1) cap3 cap4 _ _ (by first | exact T3.out | exact T3.out.below hb4.out | exact (T3.out.below (new_a _ _)).below hb4.out | exact ((T3.out.below hb2.out).below (new_a _ _)).below hb4.out) (by first | exact T4.out | exact T4.out.below hb3.out | exact (T4.out.below (new_a _ _)).below hb3.out) _ _ LA.out LB.out (by omega) (by omega)).mono ?_); rintro e w5 ⟨lb, rfl, hr⟩; have RE : Hid (REnd B gb is n val (3 * M) w w5 lb M (dfF R Bf m)) := hid (by rw [HM.out, df_eq]; exact hr.out.ahead (FG.below HB.out))))
    all_goals go_wp2_with fail
    all_goals go_meet
    all_goals exact ⟨lb, by rw [HM.out], RE⟩
  case rest =>
    obtain ⟨lb, rfl, hre⟩ := hcut
    obtain ⟨n2, cs2, val2, zs, s2, t2, l2, _⟩ := hre.out
    have S2 := hid s2
    have T2 := hid t2
    have L2 := hid l2
    obtain ⟨zm, hzm, rzm, vzm⟩ := l2.at (j := m) k1
    have Rzm := hid rzm
    have Vzm := hid vzm
    have cz := t2.get hzm
    have p5 : (m : Int) < M := by omega
    have p6 : (m : Int) ≤ M := by omega
    have TL : Hid (TR wc (some ⟨lb, 0, none⟩) m m (zs.take m)) := hid ((t2.take (j := m) (by omega)).full (Nat.le_refl _) (by omega) (fun e => by simp at e))
    have LL := hid (l2.take (j := m) (by omega))
    clear s2 t2 l2 hzm rzm vzm hre
    go_wp2_with (first
      | (go_at_call 49; with_reducible (refine (or_any _ S2.out.g S2.out.h (by have := S2.out.hi; omega) zm t Rzm.out (rng_more RT.out S2.out.lo)).mono ?_); rintro e w5 ⟨y5, rfl, hend⟩; have F5 := hid hend.out.fg; obtain ⟨n5, cs5, val5, lo5, hi5, S5, ag5, RU5, HU5⟩ := hend.out.on S2.out (Below.refl _ _); clear hend; have x5 := (rng_fit RU5.out (by have := S5.out.hi; omega)).2)
      | (go_at_call 37; with_reducible (refine (not_any _ _ x5).mono ?_); rintro e w6 ⟨rfl, hb6⟩; have S6 := hid (S5.out.below hb6); have HQ : Hid (hd val5 (notF y5) = tkB R Bf m P) := hid (by rw [hd_not _ (rng_ge RU5.out), HU5.out, Vzm.out, hd_agree S2.out.ag RT.out, VT.out, tk_eq]))
      | (go_at_call 22; with_reducible (refine (aite_any _ S6.out.g S6.out.h (by have := S6.out.hi; omega) _ (rng_not RU5.out) (tkB R Bf m P) HQ.out _ _ m m c1 _ xs ((TL.out.fg F5.out).below hb6) (RW.out.fg S6.out.f) (dfF R Bf m) R (LL.out.more lo5 ag5.out) (HX.out.more S6.out.lo S6.out.ag) (by omega) hm0).mono ?_); rintro e w7 ⟨rb, rfl, hr⟩; obtain ⟨n7, cs7, val7, zs7, lo7, S7, ag7, F7, T7, L7⟩ := hr.out.go S6.out; have NB := hid (Nat.le_trans S6.out.f.size hr.out.new)))
    have RE := hid (TkEnd.mk (S7.out.mono (k' := 3 * (m + 1) + 1 + m) (by omega)) (rng_more (rng_not RU5.out) lo7) ((hd_agree ag7.out (rng_not RU5.out)).trans HQ.out) T7.out L7.out NB.out)
    go_ret2
    exact ⟨_, _, rfl, RE⟩

end Go.Proofs.Ytplhlfmibeennaa
