/-
  What the chapter itself names, and others: awake.
-/
import Derived.Test.YtmjnepmgjolndaaLb
import Derived.Handy
namespace Go.Proofs.Ytmjnepmgjolndaa
open Go.RowKit
set_option linter.unusedVariables false

theorem REnd.go {B : BT} {gb : Nat} {is : List Int} {n0 : Nat} {v0 : Nat → Bool} {k k1 : Nat} {w w1 w' : World} {rb m : Nat} {S : Nat → Bool} {n : Nat} {cs : List (List Int)} {val : Nat → Bool} (e : REnd B gb is n val k1 w1 w' rb m S) (s : Sx B gb is n0 v0 k w w1 n cs val) :
    ∃ n' cs' val' zs, n ≤ n' ∧ Hid (Sx B gb is n0 v0 (k + k1) w w' n' cs' val') ∧ Hid (∀ i, i < n → val' i = val i) ∧ Hid (FG B w1 w') ∧ Hid (TR w' (some ⟨rb, 0, none⟩) m m zs) ∧ Hid (Lits n' val' zs m S) := by
  obtain ⟨n', cs', val', zs, t, h1, h2⟩ := e
  exact ⟨n', cs', val', zs, t.lo, s.on t, t.ag, t.f, h1, h2⟩
theorem YEnd.go {B : BT} {gb : Nat} {is : List Int} {n0 : Nat} {v0 : Nat → Bool} {k k1 : Nat} {w w1 w' : World} {y : Int} {r : Bool} {n : Nat} {cs : List (List Int)} {val : Nat → Bool} (e : YEnd B gb is n val k1 w1 w' y r) (s : Sx B gb is n0 v0 k w w1 n cs val) :
    ∃ n' cs' val', n ≤ n' ∧ Hid (Sx B gb is n0 v0 (k + k1) w w' n' cs' val') ∧ Hid (∀ i, i < n → val' i = val i) ∧ Hid (FG B w1 w') ∧ Hid (rng n' y) ∧ Hid (hd val' y = r) := by
  obtain ⟨n', cs', val', t, h1, h2⟩ := e
  exact ⟨n', cs', val', t.lo, s.on t, t.ag, t.f, h1, h2⟩

/-- A row that was made, and its literals: they stay. -/
def Rd (w : World) (ao : Option Addr) (m c : Nat) (n : Nat) (val : Nat → Bool) (xs : List Int) (A : Nat → Bool) : Prop := TR w ao m c xs ∧ Lits n val xs m A
theorem Rd.mk {w : World} {ao : Option Addr} {m c n : Nat} {val : Nat → Bool} {xs : List Int} {A : Nat → Bool} (h : TR w ao m c xs) (l : Lits n val xs m A) : Rd w ao m c n val xs A := ⟨h, l⟩
theorem Rd.t {w : World} {ao : Option Addr} {m c n : Nat} {val : Nat → Bool} {xs : List Int} {A : Nat → Bool} (h : Rd w ao m c n val xs A) : TR w ao m c xs := h.1
theorem Rd.l {w : World} {ao : Option Addr} {m c n : Nat} {val : Nat → Bool} {xs : List Int} {A : Nat → Bool} (h : Rd w ao m c n val xs A) : Lits n val xs m A := h.2
theorem Rd.step {B : BT} {w w' : World} {ao : Option Addr} {m c n n' : Nat} {val val' : Nat → Bool} {xs : List Int} {A : Nat → Bool} (h : Rd w ao m c n val xs A) (f : FG B w w') (hn : n ≤ n') (ha : ∀ i, i < n → val' i = val i) : Rd w' ao m c n' val' xs A := ⟨h.1.fg f, h.2.more hn ha⟩
theorem Rd.below {w w' : World} {ao : Option Addr} {m c n : Nat} {val : Nat → Bool} {xs : List Int} {A : Nat → Bool} (h : Rd w ao m c n val xs A) (b : Below w.heap.size w w') : Rd w' ao m c n val xs A := ⟨h.1.below b, h.2⟩
/-- A literal, and whether it holds. -/
def Yd (n : Nat) (val : Nat → Bool) (y : Int) (r : Bool) : Prop := rng n y ∧ hd val y = r
theorem Yd.mk {n : Nat} {val : Nat → Bool} {y : Int} {r : Bool} (h : rng n y) (l : hd val y = r) : Yd n val y r := ⟨h, l⟩
theorem Yd.r {n : Nat} {val : Nat → Bool} {y : Int} {r : Bool} (h : Yd n val y r) : rng n y := h.1
theorem Yd.h {n : Nat} {val : Nat → Bool} {y : Int} {r : Bool} (h : Yd n val y r) : hd val y = r := h.2
theorem Yd.step {n n' : Nat} {val val' : Nat → Bool} {y : Int} {r : Bool} (h : Yd n val y r) (hn : n ≤ n') (ha : ∀ i, i < n → val' i = val i) : Yd n' val' y r := ⟨rng_more h.1 hn, by rw [hd_agree ha h.1]; exact h.2⟩

theorem const8 {B : BT} {gb n : Nat} {cs : List (List Int)} {val : Nat → Bool} {is : List Int} (w : World) (g : Good n cs val is) (h : Gt B gb w n cs) (hn : n ≤ 5000) (x : Int) (x0 : 0 ≤ x) (x1 : x < 18446744073709551616) :
    Calls Try.prog 16 #[.pointer (some ⟨gb, 0, none⟩), .int .i64 8, .int .u64 x] w fun e w' => ∃ rb, e = .returned (.slice (some ⟨rb, 0, none⟩) 8 8) ∧ Hid (REnd B gb is n val 0 w w' rb 8 (fun j => Wd.bitB x j)) :=
  const_any w g h hn 8 (by omega) (by omega) x x0 x1

def a1 (j : Nat) : Bool := Wd.bitB 1 j
def a255 (j : Nat) : Bool := Wd.bitB 255 j
theorem sum8 : nvF (smF false (fun j => Wd.bitB 1 j) (fun j => Wd.bitB 255 j)) 8 = 0 := by decide +kernel
theorem less8 : lsF (fun j => Wd.bitB 1 j) (fun j => Wd.bitB 255 j) 8 = true := by decide +kernel
theorem sless8 : slF (fun j => Wd.bitB 1 j) (fun j => Wd.bitB 255 j) 8 = false := by decide +kernel

theorem run_nil {n : Nat} {cs : List (List Int)} {val : Nat → Bool} (w : World) (g : Good n cs val []) (hn : n ≤ 10000) (go_ : Option Addr) (k : Nat) (hg : Grid w go_ k k cs) :
    Calls Try.prog 22 #[.int .i64 n, .slice none 0 0, .slice go_ k k] w fun e w' => ∃ kb ib, e = .returned (.tuple #[.agg #[.slice (some ⟨kb, 0, none⟩) n n, .slice (some ⟨ib, 0, none⟩) n n], .bool true]) ∧ Hid (Vs w' kb ib n (fun _ => true) val) ∧ Hid (Below w.heap.size w w') :=
  run_any w n hn none 0 0 [] (row_none w) go_ k k cs hg val [] g (fun h hh => by simp at hh) (fun x hx => by simp at hx)

theorem neg_one (w : World) (gb n : Nat) (hp : Vq w (.pointer (some ⟨gb, 0, none⟩)) n) (hn : n ≤ 5000) :
    Calls Try.prog 11 #[.pointer (some ⟨gb, 0, none⟩), .slice (some ⟨w.heap.size, 0, none⟩) 1 1] (w.alloc (.cells #[.int .i64 (-1)] 3)) fun e w' => e = .returned (.slice none 0 0) ∧ Hid (Below w.heap.size w w') := by
  have b1 : Below w.heap.size w (w.alloc (.cells #[.int .i64 (-1)] 3)) := (Below.refl _ _).alloc (Nat.le_refl _) _
  refine (neg_bad _ gb n (hp.keep b1) hn _ 1 1 [-1] (row_one w (-1) (by omega) (by omega)) (by omega) (al_right (x := -1) (by simp) (by unfold rng; omega))).mono ?_
  rintro e w' ⟨he, hb⟩
  exact ⟨he, hid (Below.next b1 hb.out)⟩

set_option maxHeartbeats 8000000 in
theorem awake_any (w : World) : Calls Try.prog 6 #[] w fun e w' => e = .returned (.bool true) ∧ Hid (Below w.heap.size w w') := by
  have z8 : (0 : Int) ≤ 7 := by omega
  go_enter Try.func6, Try.ntmps6
  go_upto_region 9 with (first
    | (go_at_call 7; with_reducible (refine (new_any _).mono ?_); rintro e w1 ⟨gb, rfl, G, F⟩; have S := hid ((Sx.start Good.start G.out).mono (k' := 0) (by omega)))
    | (go_at_call 16; with_reducible (refine (const8 _ S.out.g S.out.h (by have := S.out.hi; omega) 1 (by omega) (by omega)).mono ?_); rintro e w2 ⟨ab, rfl, hr⟩; obtain ⟨n2, cs2, val2, xs, lo2, S, ag2, F2, TA, LA⟩ := hr.out.go S.out; have RA := hid (Rd.mk TA.out LA.out); clear hr TA LA F2)
    | (go_at_call 16; with_reducible (refine (const8 _ S.out.g S.out.h (by have := S.out.hi; omega) 255 (by omega) (by omega)).mono ?_); rintro e w3 ⟨bb, rfl, hr⟩; obtain ⟨n3, cs3, val3, ys, lo3, S, ag3, F3, TB, LB⟩ := hr.out.go S.out; have RA := hid (Rd.step RA.out F3.out lo3 ag3.out); have RB := hid (Rd.mk TB.out LB.out); clear hr TB LB F3)
    | (go_at_call 9; with_reducible (refine (radd_any _ S.out.g S.out.h (by have := S.out.hi; omega) _ _ 8 8 8 xs ys RA.out.t RB.out.t _ _ RA.out.l RB.out.l (by omega) (by omega)).mono ?_); rintro e w4 ⟨sb, rfl, hr⟩; obtain ⟨n4, cs4, val4, zs, lo4, S, ag4, F4, TS, LS⟩ := hr.out.go S.out; have RA := hid (Rd.step RA.out F4.out lo4 ag4.out); have RB := hid (Rd.step RB.out F4.out lo4 ag4.out); have RS := hid (Rd.mk TS.out LS.out); clear hr TS LS F4)
    | (go_at_call 13; with_reducible (refine (lessr_any _ S.out.g S.out.h (by have := S.out.hi; omega) _ _ 8 8 8 xs ys RA.out.t RB.out.t _ _ RA.out.l RB.out.l (by omega) (by omega)).mono ?_); rintro e w5 ⟨y5, rfl, hr⟩; obtain ⟨n5, cs5, val5, lo5, S, ag5, F5, RY5, HY5⟩ := hr.out.go S.out; have RA := hid (Rd.step RA.out F5.out lo5 ag5.out); have RB := hid (Rd.step RB.out F5.out lo5 ag5.out); have RS := hid (Rd.step RS.out F5.out lo5 ag5.out); have Y5 := hid (Yd.mk RY5.out HY5.out); clear hr RY5 HY5 F5)
    | (go_at_call 14; with_reducible (refine (sless_any _ S.out.g S.out.h (by have := S.out.hi; omega) _ _ 8 8 8 xs ys RA.out.t RB.out.t _ _ RA.out.l RB.out.l (by omega) (by omega)).mono ?_); rintro e w6 ⟨y6, rfl, hr⟩; obtain ⟨n6, cs6, val6, lo6, S, ag6, F6, RY6, HY6⟩ := hr.out.go S.out; have RA := hid (Rd.step RA.out F6.out lo6 ag6.out); have RB := hid (Rd.step RB.out F6.out lo6 ag6.out); have RS := hid (Rd.step RS.out F6.out lo6 ag6.out); have Y5 := hid (Yd.step Y5.out lo6 ag6.out); have Y6 := hid (Yd.mk RY6.out HY6.out); clear hr RY6 HY6 F6)
    | (go_at_call 23; with_reducible (refine (vars_gt _ S.out.h).mono ?_); rintro e w7 ⟨rfl, rfl⟩)
    | (go_at_call 24; with_reducible (refine (clauses_gt _ S.out.h S.out.g (by have := S.out.hi; omega)).mono ?_); rintro e w8 ⟨ao, k, rfl, hk, hg, rfl⟩)
    | (go_at_call 22; with_reducible (refine (run_nil _ S.out.g (by have := S.out.hi; omega) ao k hg.out).mono ?_); rintro e w9 ⟨kb, ib, rfl, hv, hb⟩; have S := hid (S.out.below hb.out); have RA := hid (Rd.below RA.out hb.out); have RB := hid (Rd.below RB.out hb.out); have RS := hid (Rd.below RS.out hb.out)))
  have hn6 : n6 ≤ 5000 := by have := S.out.hi; omega
  have bb : Below w9.heap.size w9 (w9.alloc (.cells #[.slice (some ⟨kb, 0, none⟩) n6 n6, .slice (some ⟨ib, 0, none⟩) n6 n6] 40)) := (Below.refl _ _).alloc (Nat.le_refl _) _
  obtain ⟨d0, d1⟩ := box_cells w9 (.slice (some ⟨kb, 0, none⟩) n6 n6) (.slice (some ⟨ib, 0, none⟩) n6 n6)
  have HV := hid (hv.out.keep bb)
  have S := hid (S.out.below bb)
  have RA := hid (Rd.below RA.out bb)
  have RB := hid (Rd.below RB.out bb)
  have RS := hid (Rd.below RS.out bb)
  have y50 : ¬ y5 < 0 := by have := Y5.out.r.1; omega
  have y60 : ¬ y6 < 0 := by have := Y6.out.r.1; omega
  have e8 : ((8 : Int) != 8) = false := by decide
  generalize (w9.alloc (.cells #[.slice (some ⟨kb, 0, none⟩) n6 n6, .slice (some ⟨ib, 0, none⟩) n6 n6] 40)) = wz at d0 d1 HV S RA RB RS ⊢
  generalize w9.heap.size = vb at d0 d1 ⊢
  clear bb hb hv
  go_wp2_with (first
    | (go_at_call 25; with_reducible (refine (word_any _ kb ib n6 val6 HV.out (by omega) _ 8 8 zs RS.out.t _ RS.out.l (by omega)).mono ?_); rintro e wx ⟨rfl, hb⟩; rw [sum8]; have d0 := (hb.out.cell (cell_lt d0)).trans d0; have d1 := (hb.out.cell (cell_lt d1)).trans d1; have HV := hid (HV.out.keep hb.out); have S := hid (S.out.below hb.out); have RA := hid (Rd.below RA.out hb.out); have RB := hid (Rd.below RB.out hb.out))
    | (go_at_call 26; with_reducible (refine (holds_full HV.out (by omega) Y5.out.r (Y5.out.h.trans less8)).mono ?_); rintro e wx ⟨rfl, hb⟩; have d0 := (hb.out.cell (cell_lt d0)).trans d0; have d1 := (hb.out.cell (cell_lt d1)).trans d1; have HV := hid (HV.out.keep hb.out); have S := hid (S.out.below hb.out); have RA := hid (Rd.below RA.out hb.out); have RB := hid (Rd.below RB.out hb.out))
    | (go_at_call 26; with_reducible (refine (holds_full HV.out (by omega) Y6.out.r (Y6.out.h.trans sless8)).mono ?_); rintro e wx ⟨rfl, hb⟩; have S := hid (S.out.below hb.out); have RA := hid (Rd.below RA.out hb.out); have RB := hid (Rd.below RB.out hb.out))
    | (go_at_call 9; with_reducible (refine (add_bad _ _ n6 S.out.h.vq (by omega) _ _ 8 7 8 8 xs (ys.take 7) RA.out.t.row (RB.out.t.take (by omega)).row (al_len (by omega))).mono ?_); rintro e wx ⟨rfl, hb⟩; have S := hid (S.out.below hb.out))
    | (go_at_call 16; with_reducible (refine (const_bad _ gb 1).mono ?_); rintro e wx ⟨rfl, rfl⟩)
    | (go_at_call 12; with_reducible (refine (equal_bad _ _ n6 S.out.h.vq (by omega) none none 0 0 0 0 [] [] (row_none _) (row_none _) (al_zero rfl)).mono ?_); rintro e wx ⟨rfl, hb⟩; have S := hid (S.out.below hb.out))
    | (go_at_call 11; with_reducible (refine (neg_one _ gb n6 S.out.h.vq (by omega)).mono ?_); rintro e wx ⟨rfl, hb⟩; have S := hid (S.out.below hb.out)))
  go_ret
  exact ⟨rfl, hid ((F.out.trans S.out.f).be rfl (Below.refl _ _))⟩

end Go.Proofs.Ytmjnepmgjolndaa
