/-
  What the chapter itself names, and others: awake.
-/
import Derived.Test.YtifecnnkkbpglaaMc
import Derived.Test.YtifecnnkkbpglaaMv
namespace Go.Proofs.Ytifecnnkkbpglaa
open Go.RowKit
set_option linter.unusedVariables false

theorem con6 {B : BT} {gb n : Nat} {cs : List (List Int)} {val : Nat → Bool} {is : List Int} (w : World) (g : Good n cs val is) (h : Gt B gb w n cs) (hn : n ≤ 1000) (x : Int) (x0 : 0 ≤ x) (x1 : x < 18446744073709551616) :
    Calls Try.prog 8 #[.pointer (some ⟨gb, 0, none⟩), .int .i64 6, .int .u64 x, .int .u64 0] w fun e w' => ∃ ao c1 ho l2 c2, e = .returned (.tuple #[.slice ao 6 c1, .slice ho l2 c2]) ∧ Hid (QEnd B gb is n val 6 w w' ao 6 c1 (fun j => Wd.bitB x j)) :=
  row_con w g h hn 6 (by omega) x 0 x0 x1 (by omega) (by omega) bit_zero

theorem is6 (w : World) (kb ib n : Nat) (val : Nat → Bool) (hv : Vs w kb ib n (fun _ => true) val) (hn : n ≤ 10000) (ao : Option Addr) (c : Nat) (xs : List Int) (rx : TR w ao 6 c xs) (A : Nat → Bool) (X : Lits n val xs 6 A) (x : Int) (x0 : 0 ≤ x) (x1 : x < 18446744073709551616) (hx : nvF A 6 = Wd.cutF 6 x) :
    Calls Try.prog 12 #[.agg #[.slice (some ⟨kb, 0, none⟩) n n, .slice (some ⟨ib, 0, none⟩) n n], .slice ao 6 c, .int .i64 6, .int .u64 x] w fun e w' => e = .returned (.int .i64 1) ∧ Hid (Below w.heap.size w w') :=
  is_any w kb ib n val hv hn ao 6 c xs rx A X (by omega) x x0 x1 hx

theorem up6 : nvF (mvF ((9 : Int) == 9) (cmF 9 (fun j => Wd.bitB 1 j) 6) (fun j => Wd.bitB 1 j) 6 (nbN (fun j => Wd.bitB 3 j) 6)) 6 = Wd.cutF 6 8 := by decide +kernel
theorem sar6 : nvF (mvF ((11 : Int) == 9) (cmF 11 (fun j => Wd.bitB 32 j) 6) (fun j => Wd.bitB 32 j) 6 (nbN (fun j => Wd.bitB 3 j) 6)) 6 = Wd.cutF 6 60 := by decide +kernel
theorem shr6 : nvF (mvF ((10 : Int) == 9) (cmF 10 (fun j => Wd.bitB 32 j) 6) (fun j => Wd.bitB 32 j) 6 (nbN (fun j => Wd.bitB 32 j) 6)) 6 = Wd.cutF 6 0 := by decide +kernel

set_option maxHeartbeats 8000000 in
theorem awake_any (w : World) : Calls Try.prog 6 #[] w fun e w' => e = .returned (.bool true) ∧ Hid (Below w.heap.size w w') := by
  go_enter Try.func6, Try.ntmps6
  go_upto_region 11 with (first
    | (go_at_call 7; with_reducible (refine (new_any _).mono ?_); rintro e w1 ⟨gb, rfl, G, F⟩; have S := hid ((Sx.start Good.start G.out).mono (k' := 0) (by omega)))
    | (go_at_call 8; with_reducible (refine (con6 _ S.out.g S.out.h (by have := S.out.hi; omega) 1 (by omega) (by omega)).mono ?_); rintro e w2 ⟨ao, c1, h1, l1, d1, rfl, hr⟩; obtain ⟨n2, cs2, val2, xs, lo2, S, ag2, F2, TA, LA⟩ := hr.out.go S.out; have RA := hid (Rd.mk TA.out LA.out); clear hr TA LA F2)
    | (go_at_call 8; with_reducible (refine (con6 _ S.out.g S.out.h (by have := S.out.hi; omega) 3 (by omega) (by omega)).mono ?_); rintro e w3 ⟨bo, c2, h2, l2, d2, rfl, hr⟩; obtain ⟨n2, cs2, val2, ys, lo2, S, ag2, F2, TA, LA⟩ := hr.out.go S.out; have RA := hid (Rd.step RA.out F2.out lo2 ag2.out); have RB := hid (Rd.mk TA.out LA.out); clear hr TA LA F2)
    | (go_at_call 8; with_reducible (refine (con6 _ S.out.g S.out.h (by have := S.out.hi; omega) 32 (by omega) (by omega)).mono ?_); rintro e w4 ⟨co, c3, h3, l3, d3, rfl, hr⟩; obtain ⟨n2, cs2, val2, ts, lo2, S, ag2, F2, TA, LA⟩ := hr.out.go S.out; have RA := hid (Rd.step RA.out F2.out lo2 ag2.out); have RB := hid (Rd.step RB.out F2.out lo2 ag2.out); have RC := hid (Rd.mk TA.out LA.out); clear hr TA LA F2)
    | (go_at_call 9; with_reducible (refine (move_any _ S.out.g S.out.h (by have := S.out.hi; omega) 9 rfl _ _ 6 c1 c2 xs ys RA.out.t RB.out.t _ _ RA.out.l RB.out.l (by omega) (by omega)).mono ?_); rintro e w5 ⟨rw5, rfl, hr⟩; obtain ⟨n2, cs2, val2, zx, lo2, S, ag2, F2, TA, LA⟩ := hr.out.go S.out; have RA := hid (Rd.step RA.out F2.out lo2 ag2.out); have RB := hid (Rd.step RB.out F2.out lo2 ag2.out); have RC := hid (Rd.step RC.out F2.out lo2 ag2.out); have RX := hid (Rd.mk TA.out LA.out); clear hr TA LA F2)
    | (go_at_call 9; with_reducible (refine (move_any _ S.out.g S.out.h (by have := S.out.hi; omega) 11 rfl _ _ 6 c3 c2 ts ys RC.out.t RB.out.t _ _ RC.out.l RB.out.l (by omega) (by omega)).mono ?_); rintro e w6 ⟨rw6, rfl, hr⟩; obtain ⟨n2, cs2, val2, zy, lo2, S, ag2, F2, TA, LA⟩ := hr.out.go S.out; have RA := hid (Rd.step RA.out F2.out lo2 ag2.out); have RB := hid (Rd.step RB.out F2.out lo2 ag2.out); have RC := hid (Rd.step RC.out F2.out lo2 ag2.out); have RX := hid (Rd.step RX.out F2.out lo2 ag2.out); have RY := hid (Rd.mk TA.out LA.out); clear hr TA LA F2)
    | (go_at_call 9; with_reducible (refine (move_any _ S.out.g S.out.h (by have := S.out.hi; omega) 10 rfl _ _ 6 c3 c3 ts ts RC.out.t RC.out.t _ _ RC.out.l RC.out.l (by omega) (by omega)).mono ?_); rintro e w7 ⟨rw7, rfl, hr⟩; obtain ⟨n2, cs2, val2, zz, lo2, S, ag2, F2, TA, LA⟩ := hr.out.go S.out; have RA := hid (Rd.step RA.out F2.out lo2 ag2.out); have RB := hid (Rd.step RB.out F2.out lo2 ag2.out); have RC := hid (Rd.step RC.out F2.out lo2 ag2.out); have RX := hid (Rd.step RX.out F2.out lo2 ag2.out); have RY := hid (Rd.step RY.out F2.out lo2 ag2.out); have RZ := hid (Rd.mk TA.out LA.out); clear hr TA LA F2)
    | (go_at_call 10; with_reducible (refine (close_any _ S.out.g S.out.h (by have := S.out.hi; omega) none 0 0 [] (tr_nil _) (fun y hy => by simp at hy) (fun y hy => by simp at hy)).mono ?_); rintro e w8 ⟨kb, ib, rfl, hv, hb⟩; have S := hid (S.out.below hb.out); have RA := hid (Rd.below RA.out hb.out); have RB := hid (Rd.below RB.out hb.out); have RX := hid (Rd.below RX.out hb.out); have RY := hid (Rd.below RY.out hb.out); have RZ := hid (Rd.below RZ.out hb.out)))
  have nb : n2 ≤ 5000 := by have := S.out.hi; omega
  have bb : Below w8.heap.size w8 (w8.alloc (.cells #[.slice (some ⟨kb, 0, none⟩) n2 n2, .slice (some ⟨ib, 0, none⟩) n2 n2] 37)) := (Below.refl _ _).alloc (Nat.le_refl _) _
  obtain ⟨d0, d1⟩ := box_cells w8 (.slice (some ⟨kb, 0, none⟩) n2 n2) (.slice (some ⟨ib, 0, none⟩) n2 n2)
  have HV := hid (hv.out.keep bb)
  have S := hid (S.out.below bb)
  have RA := hid (Rd.below RA.out bb)
  have RB := hid (Rd.below RB.out bb)
  have RX := hid (Rd.below RX.out bb)
  have RY := hid (Rd.below RY.out bb)
  have RZ := hid (Rd.below RZ.out bb)
  generalize (w8.alloc (.cells #[.slice (some ⟨kb, 0, none⟩) n2 n2, .slice (some ⟨ib, 0, none⟩) n2 n2] 37)) = wz at d0 d1 HV S RA RB RX RY RZ ⊢
  generalize w8.heap.size = vb at d0 d1 ⊢
  clear bb hb hv
  go_wp2_with (first
    | (go_at_call 12; with_reducible (refine (is6 _ kb ib n2 val2 HV.out (by omega) _ _ zx RX.out.t _ RX.out.l 8 (by omega) (by omega) up6).mono ?_); rintro e wx ⟨rfl, hb⟩; have S := hid (S.out.below hb.out); have RY := hid (Rd.below RY.out hb.out); have RZ := hid (Rd.below RZ.out hb.out); have d0 := (hb.out.cell (cell_lt d0)).trans d0; have d1 := (hb.out.cell (cell_lt d1)).trans d1; have HV := hid (HV.out.keep hb.out))
    | (go_at_call 12; with_reducible (refine (is6 _ kb ib n2 val2 HV.out (by omega) _ _ zy RY.out.t _ RY.out.l 60 (by omega) (by omega) sar6).mono ?_); rintro e wx ⟨rfl, hb⟩; have S := hid (S.out.below hb.out); have RZ := hid (Rd.below RZ.out hb.out); have d0 := (hb.out.cell (cell_lt d0)).trans d0; have d1 := (hb.out.cell (cell_lt d1)).trans d1; have HV := hid (HV.out.keep hb.out))
    | (go_at_call 12; with_reducible (refine (is6 _ kb ib n2 val2 HV.out (by omega) _ _ zz RZ.out.t _ RZ.out.l 0 (by omega) (by omega) shr6).mono ?_); rintro e wx ⟨rfl, hb⟩; have S := hid (S.out.below hb.out); have d0 := (hb.out.cell (cell_lt d0)).trans d0; have d1 := (hb.out.cell (cell_lt d1)).trans d1; have HV := hid (HV.out.keep hb.out))
    | (go_at_call 9; with_reducible (refine (move_other _ 1 rfl _ _ _).mono ?_); rintro e wx ⟨rfl, hb⟩; have S := hid (S.out.below hb.out)))
  go_ret
  exact ⟨rfl, hid ((F.out.trans S.out.f).be rfl (Below.refl _ _))⟩

end Go.Proofs.Ytifecnnkkbpglaa
