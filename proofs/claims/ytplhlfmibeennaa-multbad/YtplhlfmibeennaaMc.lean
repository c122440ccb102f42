/-
  Row of constants alone; awake.
-/
import Derived.Test.YtplhlfmibeennaaMb
namespace Go.Proofs.Ytplhlfmibeennaa
open Go.RowKit
set_option linter.unusedVariables false

theorem RwS.con {B : BT} {gb : Nat} {wE wr : World} {x : Int} {is0 : List Int} {n0 : Nat} {v0 : Nat → Bool} {m : Nat} {rv hv : Value} {xs hs : List Int} {n : Nat} {cs : List (List Int)} {val : Nat → Bool} {is : List Int} (s : RwS B gb wE wr x is0 n0 v0 m m rv hv xs hs n cs val is) :
    ∃ ao c1 ho l2 c2, rv = .slice ao m c1 ∧ hv = .slice ho l2 c2 ∧ QEnd B gb is n0 v0 m wE wr ao m c1 (fun j => Wd.bitB x j) := by
  obtain ⟨ao, c1, e1, t1⟩ := s.o1.trow (T := fun _ => False) (fun b hb => hb.elim)
  obtain ⟨ho, c2, e2, t2⟩ := s.o2.trow (T := fun _ => False) (fun b hb => hb.elim)
  rw [s.lx] at e1 t1
  exact ⟨ao, c1, ho, hs.length, c2, e1, e2, n, cs, val, xs, ⟨s.lo, s.hi, s.g, s.ag, s.h.hop rfl (World.grownBy.refl _ none) (fun j T hj => by cases hj) (fun b hb => ⟨s.h.tl b (.inl hb), .inl (.inl hb)⟩), s.f⟩, t1, ⟨s.lx, s.rx, s.vx⟩⟩

set_option maxHeartbeats 8000000 in
theorem row_con {B : BT} {gb n : Nat} {cs : List (List Int)} {val : Nat → Bool} {is : List Int} (w : World) (g : Good n cs val is) (h : Gt B gb w n cs) (hn : n ≤ 1000) (m : Nat) (hm : m ≤ 64) (x inn : Int) (x0 : 0 ≤ x) (x1 : x < 18446744073709551616) (i0 : 0 ≤ inn) (i1 : inn < 18446744073709551616) (hz : ∀ q, Wd.bitB inn q = false) :
    Calls Try.prog 9 #[.pointer (some ⟨gb, 0, none⟩), .int .i64 m, .int .u64 x, .int .u64 inn] w fun e w' => ∃ ao c1 ho l2 c2, e = .returned (.tuple #[.slice ao m c1, .slice ho l2 c2]) ∧ Hid (QEnd B gb is n val m w w' ao m c1 (fun j => Wd.bitB x j)) := by
  have L0 : Hid (∃ xs hs n2 cs2 val2, RwS B gb w w x is n val 0 0 (.slice none 0 0) (.slice none 0 0) xs hs n2 cs2 val2 is) := hid ⟨_, _, _, _, _, RwS.start g h⟩
  clear g h
  go_enter Try.func9, Try.ntmps9
  go_wp2
  go_loopw [10, 11, 12, 13, 14] (fun rv hv i _ _ wr => ∃ q : Nat, q ≤ m ∧ i = .int .i64 q ∧ Hid (∃ xs hs n2 cs2 val2, RwS B gb w wr x is n val q q rv hv xs hs n2 cs2 val2 is)) (fun _ _ i _ _ _ => m - (intOf i).toNat)
  case atStart => exact ⟨0, Nat.zero_le _, rfl, L0⟩
  case round =>
    clear L0
    obtain ⟨q, hq, rfl, hst⟩ := hrel
    obtain ⟨xs, hs, n2, cs2, val2, lp⟩ := hst.out
    have LP := hid lp
    have n2b : n2 ≤ 2000 := by have := lp.hi; omega
    have hxl : Hid (xs.length ≤ 100) := hid (by rw [lp.lx]; omega)
    have hhl : Hid (hs.length ≤ 100) := hid (by have := lp.hl; omega)
    obtain ⟨ra, rn, rc, rfl, _⟩ := lp.o1.shape
    obtain ⟨ha, hn2, hc2, rfl, _⟩ := lp.o2.shape
    clear lp hst
    by_cases hlt : q < m
    · have hlt' : (q : Int) < m := by omega
      have q64 : q < 64 := by omega
      have hbit := fun (w : World) => Wd.rbit_any x q w x0 x1 q64
      have hi2 : ((inn / 2 ^ q).tmod 2 == 1) = false := hz q
      cases hb : Wd.bitB x q
      · have HB := hid hb
        have hx01 : bits .xor .i64 0 1 = 1 := by decide +kernel
        have HSZ : Hid (w.heap.size ≤ wr.heap.size) := hid LP.out.f.size
        go_wp2_with (first
          | (go_at_call 16; with_reducible (refine (true_any gb _).mono ?_); rintro e w3 ⟨rfl, rfl⟩)
          | (go_at_call 18; with_reducible (refine (hbit _).mono ?_); rintro e w4 ⟨rfl, rfl⟩; rw [HB.out])
          | (at_builtin; refine wpList_app rfl _ _ 29 3 rfl Try.underlying29 (.int .i64 0) 1 8 rfl (by decide) Try.info3 (by decide) [.int .i64 1] rfl rfl (ints_one [1]) w.heap.size xs.length _ _ rfl LP.out.o1.1 rfl (Nat.le_trans hxl.out (by decide)) HSZ.out ?_; intro v6 w6 own6 g6 l6))
        have LP7 := hid (LP.out.row (by omega) (rng_one LP.out.g.pos) (by rw [hd_one LP.out.g, HB.out]) own6.out g6.out l6.out)
        go_wp2
        go_roundw
        case rel => exact ⟨q + 1, by omega, by go_num, hid ⟨_, _, _, _, _, LP7.out.mono (by omega)⟩⟩
        case measure => simp only [intOf]; omega
      · have HB := hid hb
        have hx01 : bits .xor .i64 0 1 = 1 := by decide +kernel
        have HSZ : Hid (w.heap.size ≤ wr.heap.size) := hid LP.out.f.size
        go_wp2_with (first
          | (go_at_call 16; with_reducible (refine (true_any gb _).mono ?_); rintro e w3 ⟨rfl, rfl⟩)
          | (go_at_call 18; with_reducible (refine (hbit _).mono ?_); rintro e w4 ⟨rfl, rfl⟩; rw [HB.out])
          | (at_builtin; refine wpList_app rfl _ _ 29 3 rfl Try.underlying29 (.int .i64 0) 1 8 rfl (by decide) Try.info3 (by decide) [.int .i64 0] rfl rfl (ints_one [0]) w.heap.size xs.length _ _ rfl LP.out.o1.1 rfl (Nat.le_trans hxl.out (by decide)) HSZ.out ?_; intro v6 w6 own6 g6 l6))
        have LP7 := hid (LP.out.row (by omega) (rng_zero LP.out.g.pos) (by rw [hd_zero LP.out.g, HB.out]) own6.out g6.out l6.out)
        go_wp2
        go_roundw
        case rel => exact ⟨q + 1, by omega, by go_num, hid ⟨_, _, _, _, _, LP7.out.mono (by omega)⟩⟩
        case measure => simp only [intOf]; omega
    · have hqm : q = m := by omega
      subst hqm
      obtain ⟨ao, c1, ho, l2, c2, e1, e2, RE⟩ := LP.out.con
      cases e1
      cases e2
      have RE := hid RE
      go_wp2
      go_ret2
      exact ⟨_, _, _, _, _, rfl, RE⟩

theorem bit_zero (q : Nat) : Wd.bitB 0 q = false := bit_is 0 q (Int.le_refl _) false (by simp [Wd.b01])

theorem con4 {B : BT} {gb n : Nat} {cs : List (List Int)} {val : Nat → Bool} {is : List Int} (w : World) (g : Good n cs val is) (h : Gt B gb w n cs) (hn : n ≤ 1000) (x : Int) (x0 : 0 ≤ x) (x1 : x < 18446744073709551616) :
    Calls Try.prog 9 #[.pointer (some ⟨gb, 0, none⟩), .int .i64 4, .int .u64 x, .int .u64 0] w fun e w' => ∃ ao c1 ho l2 c2, e = .returned (.tuple #[.slice ao 4 c1, .slice ho l2 c2]) ∧ Hid (QEnd B gb is n val 4 w w' ao 4 c1 (fun j => Wd.bitB x j)) :=
  row_con w g h hn 4 (by omega) x 0 x0 x1 (by omega) (by omega) bit_zero

theorem is4 (w : World) (kb ib n : Nat) (val : Nat → Bool) (hv : Vs w kb ib n (fun _ => true) val) (hn : n ≤ 10000) (ao : Option Addr) (c : Nat) (xs : List Int) (rx : TR w ao 4 c xs) (A : Nat → Bool) (X : Lits n val xs 4 A) (x : Int) (x0 : 0 ≤ x) (x1 : x < 18446744073709551616) (hx : nvF A 4 = Wd.cutF 4 x) :
    Calls Try.prog 13 #[.agg #[.slice (some ⟨kb, 0, none⟩) n n, .slice (some ⟨ib, 0, none⟩) n n], .slice ao 4 c, .int .i64 4, .int .u64 x] w fun e w' => e = .returned (.int .i64 1) ∧ Hid (Below w.heap.size w w') :=
  is_any w kb ib n val hv hn ao 4 c xs rx A X (by omega) x x0 x1 hx

theorem quo4 : nvF (quF (fun j => Wd.bitB 7 j) (fun j => Wd.bitB 2 j) 4) 4 = Wd.cutF 4 3 := by decide +kernel
theorem rem4 : nvF (reF (fun j => Wd.bitB 7 j) (fun j => Wd.bitB 2 j) 4 4) 4 = Wd.cutF 4 1 := by decide +kernel
theorem pro4 : nvF (mpF (fun j => Wd.bitB 7 j) (fun j => Wd.bitB 2 j) 4 4) 4 = Wd.cutF 4 14 := by decide +kernel

theorem tr_nil (w : World) : TR w none 0 0 [] := ⟨row_none w, fun h0 => absurd h0 (Nat.lt_irrefl 0)⟩

set_option maxHeartbeats 8000000 in
theorem awake_any (w : World) : Calls Try.prog 7 #[] w fun e w' => e = .returned (.bool true) ∧ Hid (Below w.heap.size w w') := by
  go_enter Try.func7, Try.ntmps7
  go_upto_region 9 with (first
    | (go_at_call 8; with_reducible (refine (new_any _).mono ?_); rintro e w1 ⟨gb, rfl, G, F⟩; have S := hid ((Sx.start Good.start G.out).mono (k' := 0) (by omega)))
    | (go_at_call 9; with_reducible (refine (con4 _ S.out.g S.out.h (by have := S.out.hi; omega) 7 (by omega) (by omega)).mono ?_); rintro e w2 ⟨ao, c1, h1, l1, d1, rfl, hr⟩; obtain ⟨n2, cs2, val2, xs, lo2, S, ag2, F2, TA, LA⟩ := hr.out.go S.out; have RA := hid (Rd.mk TA.out LA.out); clear hr TA LA F2)
    | (go_at_call 9; with_reducible (refine (con4 _ S.out.g S.out.h (by have := S.out.hi; omega) 2 (by omega) (by omega)).mono ?_); rintro e w3 ⟨bo, c2, h2, l2, d2, rfl, hr⟩; obtain ⟨n3, cs3, val3, ys, lo3, S, ag3, F3, TB, LB⟩ := hr.out.go S.out; have RA := hid (Rd.step RA.out F3.out lo3 ag3.out); have RB := hid (Rd.mk TB.out LB.out); clear hr TB LB F3)
    | (go_at_call 14; with_reducible (refine (divide_any _ S.out.g S.out.h (by have := S.out.hi; omega) _ _ 4 c1 c2 xs ys RA.out.t RB.out.t _ _ RA.out.l RB.out.l (by omega) (by omega)).mono ?_); rintro e w4 ⟨qb, ro, rc, rfl, hr⟩; obtain ⟨n4, cs4, val4, zq, zr, lo4, S, ag4, F4, TQ, LQ, TS, LS⟩ := hr.out.go S.out; have RA := hid (Rd.step RA.out F4.out lo4 ag4.out); have RB := hid (Rd.step RB.out F4.out lo4 ag4.out); have RQ := hid (Rd.mk TQ.out LQ.out); have RR := hid (Rd.mk TS.out LS.out); clear hr TQ LQ TS LS F4)
    | (go_at_call 10; with_reducible (refine (mul_any _ S.out.g S.out.h (by have := S.out.hi; omega) _ _ 4 c1 c2 xs ys RA.out.t RB.out.t _ _ RA.out.l RB.out.l (by omega) (by omega)).mono ?_); rintro e w5 ⟨mb, mc, rfl, hr⟩; obtain ⟨n5, cs5, val5, zm, lo5, S, ag5, F5, TM, LM⟩ := hr.out.go S.out; have RA := hid (Rd.step RA.out F5.out lo5 ag5.out); have RB := hid (Rd.step RB.out F5.out lo5 ag5.out); have RQ := hid (Rd.step RQ.out F5.out lo5 ag5.out); have RR := hid (Rd.step RR.out F5.out lo5 ag5.out); have RM := hid (Rd.mk TM.out LM.out); clear hr TM LM F5)
    | (go_at_call 11; with_reducible (refine (close_any _ S.out.g S.out.h (by have := S.out.hi; omega) none 0 0 [] (tr_nil _) (fun y hy => by simp at hy) (fun y hy => by simp at hy)).mono ?_); rintro e w6 ⟨kb, ib, rfl, hv, hb⟩; have S := hid (S.out.below hb.out); have RA := hid (Rd.below RA.out hb.out); have RB := hid (Rd.below RB.out hb.out); have RQ := hid (Rd.below RQ.out hb.out); have RR := hid (Rd.below RR.out hb.out); have RM := hid (Rd.below RM.out hb.out)))
  have nb : n5 ≤ 5000 := by have := S.out.hi; omega
  have n0 : 0 < n5 := S.out.g.pos
  have bb : Below w6.heap.size w6 (w6.alloc (.cells #[.slice (some ⟨kb, 0, none⟩) n5 n5, .slice (some ⟨ib, 0, none⟩) n5 n5] 36)) := (Below.refl _ _).alloc (Nat.le_refl _) _
  obtain ⟨d0, d1⟩ := box_cells w6 (.slice (some ⟨kb, 0, none⟩) n5 n5) (.slice (some ⟨ib, 0, none⟩) n5 n5)
  have HV := hid (hv.out.keep bb)
  have S := hid (S.out.below bb)
  have RA := hid (Rd.below RA.out bb)
  have RB := hid (Rd.below RB.out bb)
  have RQ := hid (Rd.below RQ.out bb)
  have RR := hid (Rd.below RR.out bb)
  have RM := hid (Rd.below RM.out bb)
  have q3 : (3 : Int) ≤ (c2 : Int) := by have := RB.out.t.row.2.1; omega
  generalize (w6.alloc (.cells #[.slice (some ⟨kb, 0, none⟩) n5 n5, .slice (some ⟨ib, 0, none⟩) n5 n5] 36)) = wz at d0 d1 HV S RA RB RQ RR RM ⊢
  generalize w6.heap.size = vb at d0 d1 ⊢
  clear bb hb hv
  go_wp2_with (first
    | (go_at_call 14; with_reducible (refine (divide_bad _ gb n5 S.out.h.vq (by omega) n0 _ _ 4 3 c1 c2 xs (ys.take 3) RA.out.t.row (RB.out.t.take (by omega)).row (al_len (by omega))).mono ?_); rintro e wx ⟨rfl, hb⟩; have S := hid (S.out.below hb.out); have RA := hid (Rd.below RA.out hb.out); have RQ := hid (Rd.below RQ.out hb.out); have RR := hid (Rd.below RR.out hb.out); have RM := hid (Rd.below RM.out hb.out); have d0 := (hb.out.cell (cell_lt d0)).trans d0; have d1 := (hb.out.cell (cell_lt d1)).trans d1; have HV := hid (HV.out.keep hb.out))
    | (go_at_call 13; with_reducible (refine (is4 _ kb ib n5 val5 HV.out (by omega) _ _ zq RQ.out.t _ RQ.out.l 3 (by omega) (by omega) quo4).mono ?_); rintro e wx ⟨rfl, hb⟩; have S := hid (S.out.below hb.out); have RA := hid (Rd.below RA.out hb.out); have RR := hid (Rd.below RR.out hb.out); have RM := hid (Rd.below RM.out hb.out); have d0 := (hb.out.cell (cell_lt d0)).trans d0; have d1 := (hb.out.cell (cell_lt d1)).trans d1; have HV := hid (HV.out.keep hb.out))
    | (go_at_call 13; with_reducible (refine (is4 _ kb ib n5 val5 HV.out (by omega) _ _ zr RR.out.t _ RR.out.l 1 (by omega) (by omega) rem4).mono ?_); rintro e wx ⟨rfl, hb⟩; have S := hid (S.out.below hb.out); have RA := hid (Rd.below RA.out hb.out); have RM := hid (Rd.below RM.out hb.out); have d0 := (hb.out.cell (cell_lt d0)).trans d0; have d1 := (hb.out.cell (cell_lt d1)).trans d1; have HV := hid (HV.out.keep hb.out))
    | (go_at_call 13; with_reducible (refine (is4 _ kb ib n5 val5 HV.out (by omega) _ _ zm RM.out.t _ RM.out.l 14 (by omega) (by omega) pro4).mono ?_); rintro e wx ⟨rfl, hb⟩; have S := hid (S.out.below hb.out); have RA := hid (Rd.below RA.out hb.out))
    | (go_at_call 10; with_reducible (refine (mul_bad _ gb n5 S.out.h.vq (by omega) n0 _ none 4 0 c1 0 xs [] RA.out.t.row (row_none _) (al_len (by omega))).mono ?_); rintro e wx ⟨rfl, hb⟩; have S := hid (S.out.below hb.out)))
  go_ret
  exact ⟨rfl, hid ((F.out.trans S.out.f).be rfl (Below.refl _ _))⟩

end Go.Proofs.Ytplhlfmibeennaa
