/-
  Add, Sub, Neg, Equal, Less, Sless, Ite, Const.
-/
import Derived.Test.YtmjnepmgjolndaaAs
namespace Go.Proofs.Ytmjnepmgjolndaa
open Go.RowKit
set_option linter.unusedVariables false

theorem REnd.ahead {B : BT} {gb : Nat} {is : List Int} {n0 : Nat} {v0 : Nat → Bool} {k : Nat} {w w1 w' : World} {rb m : Nat} {S : Nat → Bool} (h : REnd B gb is n0 v0 k w1 w' rb m S) (f : FG B w w1) : REnd B gb is n0 v0 k w w' rb m S := by
  obtain ⟨n, cs, val, zs, s, r, l⟩ := h
  exact ⟨n, cs, val, zs, s.ahead f, r, l⟩
theorem YEnd.ahead {B : BT} {gb : Nat} {is : List Int} {n0 : Nat} {v0 : Nat → Bool} {k : Nat} {w w1 w' : World} {y : Int} {r : Bool} (h : YEnd B gb is n0 v0 k w1 w' y r) (f : FG B w w1) : YEnd B gb is n0 v0 k w w' y r := by
  obtain ⟨n, cs, val, s, r, l⟩ := h
  exact ⟨n, cs, val, s.ahead f, r, l⟩
theorem YEnd.on {B : BT} {gb : Nat} {is : List Int} {n0 : Nat} {v0 : Nat → Bool} {k k1 : Nat} {w w1 w' : World} {y : Int} {r : Bool} {n : Nat} {cs : List (List Int)} {val : Nat → Bool} (e : YEnd B gb is n val k1 w1 w' y r) (s : Sx B gb is n0 v0 k w w1 n cs val) :
    ∃ n' cs' val', n ≤ n' ∧ Hid (Sx B gb is n0 v0 (k + k1) w w' n' cs' val') ∧ Hid (∀ i, i < n → val' i = val i) ∧ Hid (rng n' y) ∧ Hid (hd val' y = r) := by
  obtain ⟨n', cs', val', t, h1, h2⟩ := e
  exact ⟨n', cs', val', t.lo, s.on t, t.ag, h1, h2⟩

theorem lits_no {n : Nat} {cs : List (List Int)} {val : Nat → Bool} {is : List Int} (g : Good n cs val is) (m : Nat) : Lits n val (List.replicate m 1) m (fun _ => false) := by
  refine ⟨by simp, fun x hx => ?_, fun j x hx => ?_⟩
  · rw [(List.mem_replicate.1 hx).2]; exact rng_one g.pos
  · rw [(List.mem_replicate.1 (List.mem_of_getElem? hx)).2]; exact hd_one g

/-! ### rows that are none -/
theorem add_bad (w : World) (p : Value) (n : Nat) (hp : Vq w p n) (hn : n ≤ 10000) (ao bo : Option Addr) (m m2 c1 c2 : Nat) (xs ys : List Int) (rx : Row w ao m c1 xs) (ry : Row w bo m2 c2 ys) (hh : al2 n m m2 xs ys = false) :
    Calls Try.prog 9 #[p, .slice ao m c1, .slice bo m2 c2] w fun e w' => e = .returned (.slice none 0 0) ∧ Hid (Below w.heap.size w w') := by
  have HP := hid hp
  have HH := hid hh
  have RX := hid rx
  have RY := hid ry
  clear hp hh rx ry
  go_enter Try.func9, Try.ntmps9
  go_wp2_with (go_at_call 30; with_reducible (refine (alike_any _ _ n HP.out hn ao bo m m2 c1 c2 xs ys RX.out RY.out).mono ?_); rintro e w1 ⟨rfl, hb1⟩; rw [HH.out])
  go_ret
  exact ⟨rfl, hb1⟩

theorem sub_bad (w : World) (p : Value) (n : Nat) (hp : Vq w p n) (hn : n ≤ 10000) (ao bo : Option Addr) (m m2 c1 c2 : Nat) (xs ys : List Int) (rx : Row w ao m c1 xs) (ry : Row w bo m2 c2 ys) (hh : al2 n m m2 xs ys = false) :
    Calls Try.prog 10 #[p, .slice ao m c1, .slice bo m2 c2] w fun e w' => e = .returned (.slice none 0 0) ∧ Hid (Below w.heap.size w w') := by
  have HP := hid hp
  have HH := hid hh
  have RX := hid rx
  have RY := hid ry
  clear hp hh rx ry
  go_enter Try.func10, Try.ntmps10
  go_wp2_with (go_at_call 30; with_reducible (refine (alike_any _ _ n HP.out hn ao bo m m2 c1 c2 xs ys RX.out RY.out).mono ?_); rintro e w1 ⟨rfl, hb1⟩; rw [HH.out])
  go_ret
  exact ⟨rfl, hb1⟩

theorem equal_bad (w : World) (p : Value) (n : Nat) (hp : Vq w p n) (hn : n ≤ 10000) (ao bo : Option Addr) (m m2 c1 c2 : Nat) (xs ys : List Int) (rx : Row w ao m c1 xs) (ry : Row w bo m2 c2 ys) (hh : al2 n m m2 xs ys = false) :
    Calls Try.prog 12 #[p, .slice ao m c1, .slice bo m2 c2] w fun e w' => e = .returned (.int .i64 (-1)) ∧ Hid (Below w.heap.size w w') := by
  have HP := hid hp
  have HH := hid hh
  have RX := hid rx
  have RY := hid ry
  clear hp hh rx ry
  go_enter Try.func12, Try.ntmps12
  go_wp2_with (go_at_call 30; with_reducible (refine (alike_any _ _ n HP.out hn ao bo m m2 c1 c2 xs ys RX.out RY.out).mono ?_); rintro e w1 ⟨rfl, hb1⟩; rw [HH.out])
  go_ret
  exact ⟨rfl, hb1⟩

theorem lessr_bad (w : World) (p : Value) (n : Nat) (hp : Vq w p n) (hn : n ≤ 10000) (ao bo : Option Addr) (m m2 c1 c2 : Nat) (xs ys : List Int) (rx : Row w ao m c1 xs) (ry : Row w bo m2 c2 ys) (hh : al2 n m m2 xs ys = false) :
    Calls Try.prog 13 #[p, .slice ao m c1, .slice bo m2 c2] w fun e w' => e = .returned (.int .i64 (-1)) ∧ Hid (Below w.heap.size w w') := by
  have HP := hid hp
  have HH := hid hh
  have RX := hid rx
  have RY := hid ry
  clear hp hh rx ry
  go_enter Try.func13, Try.ntmps13
  go_wp2_with (go_at_call 30; with_reducible (refine (alike_any _ _ n HP.out hn ao bo m m2 c1 c2 xs ys RX.out RY.out).mono ?_); rintro e w1 ⟨rfl, hb1⟩; rw [HH.out])
  go_ret
  exact ⟨rfl, hb1⟩

theorem sless_bad (w : World) (p : Value) (n : Nat) (hp : Vq w p n) (hn : n ≤ 10000) (ao bo : Option Addr) (m m2 c1 c2 : Nat) (xs ys : List Int) (rx : Row w ao m c1 xs) (ry : Row w bo m2 c2 ys) (hh : al2 n m m2 xs ys = false) :
    Calls Try.prog 14 #[p, .slice ao m c1, .slice bo m2 c2] w fun e w' => e = .returned (.int .i64 (-1)) ∧ Hid (Below w.heap.size w w') := by
  have HP := hid hp
  have HH := hid hh
  have RX := hid rx
  have RY := hid ry
  clear hp hh rx ry
  go_enter Try.func14, Try.ntmps14
  go_wp2_with (go_at_call 30; with_reducible (refine (alike_any _ _ n HP.out hn ao bo m m2 c1 c2 xs ys RX.out RY.out).mono ?_); rintro e w1 ⟨rfl, hb1⟩; rw [HH.out])
  go_ret
  exact ⟨rfl, hb1⟩

theorem aite_bad (w : World) (p : Value) (n : Nat) (hp : Vq w p n) (hn : n ≤ 10000) (ao bo : Option Addr) (m m2 c1 c2 : Nat) (xs ys : List Int) (rx : Row w ao m c1 xs) (ry : Row w bo m2 c2 ys) (hh : al2 n m m2 xs ys = false) (c : Int) (hc : rng n c) :
    Calls Try.prog 15 #[p, .int .i64 c, .slice ao m c1, .slice bo m2 c2] w fun e w' => e = .returned (.slice none 0 0) ∧ Hid (Below w.heap.size w w') := by
  have HP := hid hp
  have HH := hid hh
  have RX := hid rx
  have RY := hid ry
  have HC := hid (have_yes (n := n) (xs := [c]) (by simp [hc]))
  have fc := hid (rng_fit hc hn)
  clear hp hh rx ry hc
  go_enter Try.func15, Try.ntmps15
  go_wp2_with (first
    | (go_at_call 40; with_reducible (refine (ahave_one _ _ n HP.out hn c fc.out).mono ?_); rintro e w1 ⟨rfl, hb1⟩; rw [HC.out]; have HC := trivial)
    | (go_at_call 30; with_reducible (refine (alike_any _ _ n (HP.out.keep hb1.out) hn ao bo m m2 c1 c2 xs ys (RX.out.keep hb1.out) (RY.out.keep hb1.out)).mono ?_); rintro e w2 ⟨rfl, hb2⟩; rw [HH.out]))
  go_ret
  exact ⟨rfl, hid (Below.next hb1.out hb2.out)⟩

theorem aite_none (w : World) (p : Value) (n : Nat) (hp : Vq w p n) (hn : n ≤ 10000) (u v : Value) (c : Int) (fc : -9223372036854775808 ≤ c ∧ c ≤ 9223372036854775807) (hc : ¬ rng n c) :
    Calls Try.prog 15 #[p, .int .i64 c, u, v] w fun e w' => e = .returned (.slice none 0 0) ∧ Hid (Below w.heap.size w w') := by
  have HP := hid hp
  have HC := hid (have_no (n := n) (xs := [c]) (x := c) (by simp) hc)
  have FC := hid fc
  clear hp hc fc
  go_enter Try.func15, Try.ntmps15
  go_wp2_with (go_at_call 40; with_reducible (refine (ahave_one _ _ n HP.out hn c FC.out).mono ?_); rintro e w1 ⟨rfl, hb1⟩; rw [HC.out])
  go_ret
  exact ⟨rfl, hb1⟩

theorem const_bad (w : World) (gb : Nat) (x : Int) : Calls Try.prog 16 #[.pointer (some ⟨gb, 0, none⟩), .int .i64 65, .int .u64 x] w fun e w' => e = .returned (.slice none 0 0) ∧ w' = w := by
  go_enter Try.func16, Try.ntmps16
  go_wp2
  go_ret
  exact ⟨rfl, rfl⟩

/-! ### sums -/
set_option maxHeartbeats 2000000 in
theorem radd_any {B : BT} {gb n : Nat} {cs : List (List Int)} {val : Nat → Bool} {is : List Int} (w : World) (g : Good n cs val is) (h : Gt B gb w n cs) (hn : n ≤ 5000) (ao bo : Option Addr) (m c1 c2 : Nat) (xs ys : List Int) (rx : TR w ao m c1 xs) (ry : TR w bo m c2 ys) (A Bf : Nat → Bool) (X : Lits n val xs m A) (Y : Lits n val ys m Bf) (hm : m ≤ 1000) (hm0 : 0 < m) :
    Calls Try.prog 9 #[.pointer (some ⟨gb, 0, none⟩), .slice ao m c1, .slice bo m c2] w fun e w' => ∃ rb, e = .returned (.slice (some ⟨rb, 0, none⟩) m m) ∧ Hid (REnd B gb is n val (3 * m) w w' rb m (smF false A Bf)) := by
  have HG := hid g
  have G := hid h
  have RX := hid rx
  have RY := hid ry
  have HX := hid X
  have HY := hid Y
  have mx := rx.row.max
  have my := ry.row.max
  have HP := hid h.vq
  have HH := hid (al_yes hm0 X.rg Y.rg)
  clear g h rx ry X Y
  go_enter Try.func9, Try.ntmps9
  go_wp2_with (first
    | (go_at_call 30; with_reducible (refine (alike_any _ _ n HP.out (by omega) _ _ m m c1 c2 xs ys RX.out.row RY.out.row).mono ?_); rintro e w1 ⟨rfl, hb1⟩; rw [HH.out]; have S1 := hid ((Sx.start HG.out G.out).below hb1.out); have HH := trivial)
    | (go_at_call 32; with_reducible (refine (no_any gb _).mono ?_); rintro e w2 ⟨rfl, hb2⟩; have S2 := hid (S1.out.below hb2.out))
    | (go_at_call 31; with_reducible (refine (sum_any _ S2.out.g S2.out.h hn 1 (rng_one S2.out.g.pos) false (hd_one S2.out.g) ao bo m c1 c2 xs ys (RX.out.fg S2.out.f) (RY.out.fg S2.out.f) A Bf HX.out HY.out hm).mono ?_); rintro e w3 ⟨rb, rfl, hr⟩))
  go_ret
  exact ⟨_, rfl, hid (hr.out.ahead S2.out.f)⟩

set_option maxHeartbeats 2000000 in
theorem sub_any {B : BT} {gb n : Nat} {cs : List (List Int)} {val : Nat → Bool} {is : List Int} (w : World) (g : Good n cs val is) (h : Gt B gb w n cs) (hn : n ≤ 5000) (ao bo : Option Addr) (m c1 c2 : Nat) (xs ys : List Int) (rx : TR w ao m c1 xs) (ry : TR w bo m c2 ys) (A Bf : Nat → Bool) (X : Lits n val xs m A) (Y : Lits n val ys m Bf) (hm : m ≤ 1000) (hm0 : 0 < m) :
    Calls Try.prog 10 #[.pointer (some ⟨gb, 0, none⟩), .slice ao m c1, .slice bo m c2] w fun e w' => ∃ rb, e = .returned (.slice (some ⟨rb, 0, none⟩) m m) ∧ Hid (REnd B gb is n val (3 * m) w w' rb m (smF true A (noF Bf))) := by
  have HG := hid g
  have G := hid h
  have RX := hid rx
  have RY := hid ry
  have HX := hid X
  have HY := hid Y
  have mx := rx.row.max
  have my := ry.row.max
  have HP := hid h.vq
  have HH := hid (al_yes hm0 X.rg Y.rg)
  clear g h rx ry X Y
  go_enter Try.func10, Try.ntmps10
  go_wp2_with (first
    | (go_at_call 30; with_reducible (refine (alike_any _ _ n HP.out (by omega) _ _ m m c1 c2 xs ys RX.out.row RY.out.row).mono ?_); rintro e w1 ⟨rfl, hb1⟩; rw [HH.out]; have S1 := hid ((Sx.start HG.out G.out).below hb1.out); have HH := trivial)
    | (go_at_call 21; with_reducible (refine (true_any gb _).mono ?_); rintro e w2 ⟨rfl, rfl⟩)
    | (go_at_call 33; with_reducible (refine (turned_any _ bo m c2 ys (RY.out.fg S1.out.f).row hm).mono ?_); rintro e w2 ⟨tb, rfl, ht, hb2⟩; have S2 := hid (S1.out.below hb2.out))
    | (go_at_call 31; with_reducible (refine (sum_any _ S2.out.g S2.out.h hn 0 (rng_zero S2.out.g.pos) true (hd_zero S2.out.g) ao _ m c1 m xs _ (RX.out.fg S2.out.f) ht.out A (noF Bf) HX.out HY.out.not hm).mono ?_); rintro e w3 ⟨rb, rfl, hr⟩))
  go_ret
  exact ⟨_, rfl, hid (hr.out.ahead S2.out.f)⟩

set_option maxHeartbeats 2000000 in
theorem neg_any {B : BT} {gb n : Nat} {cs : List (List Int)} {val : Nat → Bool} {is : List Int} (w : World) (g : Good n cs val is) (h : Gt B gb w n cs) (hn : n ≤ 5000) (ao : Option Addr) (m c1 : Nat) (xs : List Int) (rx : TR w ao m c1 xs) (A : Nat → Bool) (X : Lits n val xs m A) (hm : m ≤ 1000) (hm0 : 0 < m) :
    Calls Try.prog 11 #[.pointer (some ⟨gb, 0, none⟩), .slice ao m c1] w fun e w' => ∃ rb, e = .returned (.slice (some ⟨rb, 0, none⟩) m m) ∧ Hid (REnd B gb is n val (3 * m) w w' rb m (smF true (fun _ => false) (noF A))) := by
  have HG := hid g
  have G := hid h
  have RX := hid rx
  have HX := hid X
  have mx := rx.row.max
  clear g h rx X
  go_enter Try.func11, Try.ntmps11
  go_wp2_with (first
    | (go_at_call 32; with_reducible (refine (no_any gb _).mono ?_); rintro e w2 ⟨rfl, hb2⟩; have S2 := hid ((Sx.start HG.out G.out).below hb2.out))
    | (go_at_call 34; with_reducible (refine (repeat_any _ 1 (by omega) m hm).mono ?_); rintro e w3 ⟨tb, rfl, ht, hb3⟩; have S3 := hid (S2.out.below hb3.out))
    | (go_at_call 10; with_reducible (refine (sub_any _ S3.out.g S3.out.h hn _ ao m m c1 _ xs ht.out (RX.out.fg S3.out.f) (fun _ => false) A (lits_no HG.out m) HX.out hm hm0).mono ?_); rintro e w4 ⟨rb, rfl, hr⟩))
  go_ret
  exact ⟨_, rfl, hid (hr.out.ahead S3.out.f)⟩

set_option maxHeartbeats 2000000 in
theorem neg_bad (w : World) (gb n : Nat) (hp : Vq w (.pointer (some ⟨gb, 0, none⟩)) n) (hn : n ≤ 5000) (ao : Option Addr) (m c1 : Nat) (xs : List Int) (rx : Row w ao m c1 xs) (hm : m ≤ 1000) (hh : al2 n m m (List.replicate m 1) xs = false) :
    Calls Try.prog 11 #[.pointer (some ⟨gb, 0, none⟩), .slice ao m c1] w fun e w' => e = .returned (.slice none 0 0) ∧ Hid (Below w.heap.size w w') := by
  have HP := hid hp
  have RX := hid rx
  have HH := hid hh
  have mx := rx.max
  clear hp rx hh
  go_enter Try.func11, Try.ntmps11
  go_wp2_with (first
    | (go_at_call 32; with_reducible (refine (no_any gb _).mono ?_); rintro e w2 ⟨rfl, hb2⟩)
    | (go_at_call 34; with_reducible (refine (repeat_any _ 1 (by omega) m hm).mono ?_); rintro e w3 ⟨tb, rfl, ht, hb3⟩; have hb3 := hid (Below.next hb2.out hb3.out))
    | (go_at_call 10; with_reducible (refine (sub_bad _ _ n (HP.out.keep hb3.out) (by omega) _ ao m m m c1 _ xs ht.out.row (RX.out.keep hb3.out) HH.out).mono ?_); rintro e w4 ⟨rfl, hb4⟩))
  go_ret
  exact ⟨rfl, hid (Below.next hb3.out hb4.out)⟩

/-! ### comparisons -/
set_option maxHeartbeats 8000000 in
theorem equal_any {B : BT} {gb n : Nat} {cs : List (List Int)} {val : Nat → Bool} {is : List Int} (w : World) (g : Good n cs val is) (h : Gt B gb w n cs) (hn : n ≤ 5000) (ao bo : Option Addr) (m c1 c2 : Nat) (xs ys : List Int) (rx : TR w ao m c1 xs) (ry : TR w bo m c2 ys) (A Bf : Nat → Bool) (X : Lits n val xs m A) (Y : Lits n val ys m Bf) (hm : m ≤ 1000) (hm0 : 0 < m) :
    Calls Try.prog 12 #[.pointer (some ⟨gb, 0, none⟩), .slice ao m c1, .slice bo m c2] w fun e w' => ∃ y, e = .returned (.int .i64 y) ∧ Hid (YEnd B gb is n val (2 * m) w w' y (eqF A Bf m)) := by
  have HG := hid g
  have G := hid h
  have RX := hid rx
  have RY := hid ry
  have HX := hid X
  have HY := hid Y
  have mx := rx.row.max
  have my := ry.row.max
  have HP := hid h.vq
  have HH := hid (al_yes hm0 X.rg Y.rg)
  clear g h rx ry X Y
  go_enter Try.func12, Try.ntmps12
  go_upto_region 5 with (first
    | (go_at_call 30; with_reducible (refine (alike_any _ _ n HP.out (by omega) _ _ m m c1 c2 xs ys RX.out.row RY.out.row).mono ?_); rintro e w1 ⟨rfl, hb1⟩; rw [HH.out]; have S1 := hid ((Sx.start HG.out G.out).below hb1.out); have HH := trivial)
    | (go_at_call 21; with_reducible (refine (true_any gb _).mono ?_); rintro e w2 ⟨rfl, rfl⟩))
  have L0 : Hid (∃ n2 cs2 val2, Sx B gb is n val (2 * 0) w w2 n2 cs2 val2 ∧ rng n2 0 ∧ hd val2 0 = eqF A Bf 0) := hid ⟨_, _, _, S1.out, rng_zero HG.out.pos, hd_zero HG.out⟩
  go_loopw [7, 8, 19] (fun tv _ i wr => ∃ q : Nat, q ≤ m ∧ i = .int .i64 q ∧ ∃ u : Int, tv = .int .i64 u ∧ Hid (∃ n2 cs2 val2, Sx B gb is n val (2 * q) w wr n2 cs2 val2 ∧ rng n2 u ∧ hd val2 u = eqF A Bf q)) (fun _ _ i _ => m - (intOf i).toNat)
  case atStart => exact ⟨0, Nat.zero_le _, rfl, 0, rfl, L0⟩
  case round =>
    clear L0 S1 hb1
    obtain ⟨q, hq, rfl, u, rfl, hst⟩ := hrel
    obtain ⟨n2, cs2, val2, lp, ru, hu⟩ := hst.out
    have LP := hid lp
    have RU := hid ru
    have HU := hid hu
    clear lp ru hu hst
    by_cases hlt : q < m
    · have hlt' : (q : Int) < m := by omega
      obtain ⟨b1, o1, rfl, cx⟩ := RX.out.cells (by omega)
      obtain ⟨b2, o2, rfl, cy⟩ := RY.out.cells (by omega)
      have CX := hid cx
      have CY := hid cy
      clear cx cy
      obtain ⟨xq, hxq, rxq, vxq⟩ := HX.out.at (j := q) (by omega)
      have Hxq := hid hxq
      have Rxq := hid rxq
      have Vxq := hid vxq
      obtain ⟨yq, hyq, ryq, vyq⟩ := HY.out.at (j := q) (by omega)
      have Hyq := hid hyq
      have Ryq := hid ryq
      have Vyq := hid vyq
      have SKq : Hid (∀ W, FG (B) w W → W.cell? ⟨b1, o1 + q, none⟩ = some (.int .i64 xq) ∧ W.cell? ⟨b2, o2 + q, none⟩ = some (.int .i64 yq)) := hid (fun W f => ⟨CX.out _ W f _ _ Hxq.out, CY.out _ W f _ _ Hyq.out⟩)
      clear hxq rxq vxq hyq ryq vyq
      go_wp2
      go_region_held3 (fun W => W.cell? ⟨b1, o1 + q, none⟩ = some (.int .i64 xq) ∧ W.cell? ⟨b2, o2 + q, none⟩ = some (.int .i64 yq)) (first | exact SKq.out _ LP.out.f.drew | exact SKq.out _ LP4.out.f | exact SKq.out _ LP5.out.f | exact SKq.out _ LP6.out.f) (first
        | (go_at_call 37; with_reducible (refine (xor_any _ LP.out.g (LP.out.h.below (below_drew _)) (by have := LP.out.hi; omega) xq yq (rng_more Rxq.out LP.out.lo) (rng_more Ryq.out LP.out.lo)).mono ?_); rintro e w4 ⟨y4, rfl, hend⟩; obtain ⟨n4, cs4, val4, lo4, hi4, LP4, ag4, RU4, HU4⟩ := hend.out.on LP.out (below_drew _); clear hend; have x4 := (rng_fit RU4.out (by have := LP4.out.hi; omega)).2)
        | (go_at_call 36; with_reducible (refine (not_any _ _ x4).mono ?_); rintro e w5 ⟨rfl, hb5⟩; have LP5 := hid (LP4.out.below hb5))
        | (go_at_call 35; with_reducible (refine (and_any _ LP5.out.g LP5.out.h (by have := LP5.out.hi; omega) u _ (rng_more RU.out lo4) (rng_not RU4.out)).mono ?_); rintro e w6 ⟨y6, rfl, hend⟩; obtain ⟨n6, cs6, val6, lo6, hi6, LP6, ag6, RU6, HU6⟩ := hend.out.on LP5.out (Below.refl _ _); clear hend))
      have HV : Hid (hd val6 y6 = eqF A Bf (q + 1)) := hid (by rw [HU6.out, hd_not _ RU4.out.1, HU4.out, hd_agree LP.out.ag Rxq.out, hd_agree LP.out.ag Ryq.out, Vxq.out, Vyq.out, hd_agree ag4.out RU.out, HU.out]; rfl)
      go_wp2
      go_roundw
      case rel => exact ⟨q + 1, by omega, by go_num, _, rfl, hid ⟨_, _, _, LP6.out.mono (by omega), RU6.out, HV.out⟩⟩
      case measure => simp only [intOf]; omega
    · have hqm : q = m := by omega
      subst hqm
      have RE := hid (YEnd.of LP.out RU.out HU.out)
      go_wp2
      go_ret
      exact ⟨_, rfl, RE⟩

set_option maxHeartbeats 2000000 in
theorem lessr_any {B : BT} {gb n : Nat} {cs : List (List Int)} {val : Nat → Bool} {is : List Int} (w : World) (g : Good n cs val is) (h : Gt B gb w n cs) (hn : n ≤ 5000) (ao bo : Option Addr) (m c1 c2 : Nat) (xs ys : List Int) (rx : TR w ao m c1 xs) (ry : TR w bo m c2 ys) (A Bf : Nat → Bool) (X : Lits n val xs m A) (Y : Lits n val ys m Bf) (hm : m ≤ 1000) (hm0 : 0 < m) :
    Calls Try.prog 13 #[.pointer (some ⟨gb, 0, none⟩), .slice ao m c1, .slice bo m c2] w fun e w' => ∃ y, e = .returned (.int .i64 y) ∧ Hid (YEnd B gb is n val m w w' y (lsF A Bf m)) := by
  have HG := hid g
  have G := hid h
  have RX := hid rx
  have RY := hid ry
  have HX := hid X
  have HY := hid Y
  have mx := rx.row.max
  have my := ry.row.max
  have HP := hid h.vq
  have HH := hid (al_yes hm0 X.rg Y.rg)
  clear g h rx ry X Y
  go_enter Try.func13, Try.ntmps13
  go_wp2_with (first
    | (go_at_call 30; with_reducible (refine (alike_any _ _ n HP.out (by omega) _ _ m m c1 c2 xs ys RX.out.row RY.out.row).mono ?_); rintro e w1 ⟨rfl, hb1⟩; rw [HH.out]; have S1 := hid ((Sx.start HG.out G.out).below hb1.out); have HH := trivial)
    | (go_at_call 38; with_reducible (refine (less_any _ S1.out.g S1.out.h hn ao bo m c1 c2 xs ys (RX.out.fg S1.out.f) (RY.out.fg S1.out.f) A Bf HX.out HY.out hm).mono ?_); rintro e w3 ⟨y, rfl, hr⟩))
  go_ret
  exact ⟨_, rfl, hid (hr.out.ahead S1.out.f)⟩

set_option maxHeartbeats 8000000 in
theorem sless_any {B : BT} {gb n : Nat} {cs : List (List Int)} {val : Nat → Bool} {is : List Int} (w : World) (g : Good n cs val is) (h : Gt B gb w n cs) (hn : n ≤ 5000) (ao bo : Option Addr) (m c1 c2 : Nat) (xs ys : List Int) (rx : TR w ao m c1 xs) (ry : TR w bo m c2 ys) (A Bf : Nat → Bool) (X : Lits n val xs m A) (Y : Lits n val ys m Bf) (hm : m ≤ 1000) (hm0 : 0 < m) :
    Calls Try.prog 14 #[.pointer (some ⟨gb, 0, none⟩), .slice ao m c1, .slice bo m c2] w fun e w' => ∃ y, e = .returned (.int .i64 y) ∧ Hid (YEnd B gb is n val (m + 1) w w' y (slF A Bf m)) := by
  have HG := hid g
  have G := hid h
  have RX := hid rx
  have RY := hid ry
  have HX := hid X
  have HY := hid Y
  have mx := rx.row.max
  have my := ry.row.max
  have HP := hid h.vq
  have HH := hid (al_yes hm0 X.rg Y.rg)
  have hc1 : m ≤ c1 := rx.row.2.1
  have hc2 : m ≤ c2 := ry.row.2.1
  have mc1 := rx.row.2.2.1
  have mc2 := ry.row.2.2.1
  obtain ⟨p, hpm⟩ : ∃ p, m = p + 1 := ⟨m - 1, by omega⟩
  have HPM := hid hpm
  obtain ⟨b1, o1, rfl, cx⟩ := RX.out.cells (by omega)
  obtain ⟨b2, o2, rfl, cy⟩ := RY.out.cells (by omega)
  have CX := hid cx
  have CY := hid cy
  obtain ⟨xp, hxp, rxp, vxp⟩ := HX.out.at (j := p) (by omega)
  have Hxp := hid hxp
  have Rxp := hid rxp
  have Vxp := hid vxp
  obtain ⟨yp, hyp, ryp, vyp⟩ := HY.out.at (j := p) (by omega)
  have Hyp := hid hyp
  have Ryp := hid ryp
  have Vyp := hid vyp
  have SKp : Hid (∀ W, FG (B) w W → W.cell? ⟨b1, o1 + p, none⟩ = some (.int .i64 xp) ∧ W.cell? ⟨b2, o2 + p, none⟩ = some (.int .i64 yp)) := hid (fun W f => ⟨CX.out _ W f _ _ Hxp.out, CY.out _ W f _ _ Hyp.out⟩)
  clear hxp rxp vxp hyp ryp vyp
  have e1 : (m : Int) - 1 = (p : Int) := by omega
  have e2 : IntKind.i64.wrap (p : Int) = (p : Int) := IntWalk.i64_in _ (by omega)
  have p0 : (0 : Int) ≤ p := by omega
  have p1 : (p : Int) < m := by omega
  have p2 : (p : Int) ≤ c1 := by omega
  have p3 : (p : Int) ≤ c2 := by omega
  have p4 : (p : Int) ≤ m := by omega
  have TX : Hid (TR w (some ⟨b1, o1, none⟩) p c1 (xs.take p)) := hid (RX.out.take (by omega))
  have TY : Hid (TR w (some ⟨b2, o2, none⟩) p c2 (ys.take p)) := hid (RY.out.take (by omega))
  have LX := hid (HX.out.take (j := p) (by omega))
  have LY := hid (HY.out.take (j := p) (by omega))
  have yu := (rng_fit Ryp.out (by omega)).2
  have hp1 : p ≤ 1000 := by omega
  unfold maxLen at mc1 mc2
  clear g h rx ry X Y cx cy hpm
  go_enter Try.func14, Try.ntmps14
  go_upto_region 4 with (first
    | (go_at_call 30; with_reducible (refine (alike_any _ _ n HP.out (by omega) _ _ m m c1 c2 xs ys RX.out.row RY.out.row).mono ?_); rintro e w1 ⟨rfl, hb1⟩; rw [HH.out]; have S1 := hid ((Sx.start HG.out G.out).below hb1.out); have HH := trivial))
  have LP := hid (S1.out.below (below_drew _))
  go_region_held3 (fun W => W.cell? ⟨b1, o1 + p, none⟩ = some (.int .i64 xp) ∧ W.cell? ⟨b2, o2 + p, none⟩ = some (.int .i64 yp)) (first | exact SKp.out _ LP.out.f) (first
    | (go_at_call 36; with_reducible (refine (not_any _ _ yu).mono ?_); rintro e w5 ⟨rfl, hb5⟩; have LP := hid (LP.out.below hb5))
    | (go_at_call 38; with_reducible (refine (less_any _ LP.out.g LP.out.h hn _ _ p c1 c2 _ _ (TX.out.fg LP.out.f) (TY.out.fg LP.out.f) A Bf LX.out LY.out hp1).mono ?_); rintro e w6 ⟨y6, rfl, hend⟩; obtain ⟨n6, cs6, val6, lo6, LP, ag6, RU6, HU6⟩ := hend.out.on LP.out; clear hend)
    | (go_at_call 39; with_reducible (refine (maj_any _ LP.out.g LP.out.h (by have := LP.out.hi; omega) xp _ y6 (rng_more Rxp.out LP.out.lo) (rng_not (rng_more Ryp.out LP.out.lo)) RU6.out).mono ?_); rintro e w7 ⟨y7, rfl, hend⟩; obtain ⟨n7, cs7, val7, lo7, hi7, LP, ag7, RU7, HU7⟩ := hend.out.on LP.out (Below.refl _ _); clear hend))
  have HV : Hid (hd val7 y7 = slF A Bf m) := hid (by rw [HU7.out, hd_not _ (rng_more Ryp.out lo6).1, HU6.out, hd_agree ag6.out Rxp.out, hd_agree ag6.out Ryp.out, Vxp.out, Vyp.out, HPM.out]; rfl)
  have RE := hid (YEnd.of (LP.out.mono (k' := m + 1) (by omega)) RU7.out HV.out)
  go_wp2
  go_ret
  exact ⟨_, rfl, RE⟩

/-! ### choices -/
def itF (c : Bool) (A B : Nat → Bool) (j : Nat) : Bool := iteB c (A j) (B j)

set_option maxHeartbeats 8000000 in
theorem aite_any {B : BT} {gb n : Nat} {cs : List (List Int)} {val : Nat → Bool} {is : List Int} (w : World) (g : Good n cs val is) (h : Gt B gb w n cs) (hn : n ≤ 5000) (t : Int) (ht : rng n t) (c : Bool) (hc : hd val t = c) (ao bo : Option Addr) (m c1 c2 : Nat) (xs ys : List Int) (rx : TR w ao m c1 xs) (ry : TR w bo m c2 ys) (A Bf : Nat → Bool) (X : Lits n val xs m A) (Y : Lits n val ys m Bf) (hm : m ≤ 1000) (hm0 : 0 < m) :
    Calls Try.prog 15 #[.pointer (some ⟨gb, 0, none⟩), .int .i64 t, .slice ao m c1, .slice bo m c2] w fun e w' => ∃ rb, e = .returned (.slice (some ⟨rb, 0, none⟩) m m) ∧ Hid (REnd B gb is n val m w w' rb m (itF c A Bf)) := by
  have HG := hid g
  have G := hid h
  have RX := hid rx
  have RY := hid ry
  have HX := hid X
  have HY := hid Y
  have mx := rx.row.max
  have my := ry.row.max
  have HP := hid h.vq
  have HH := hid (al_yes hm0 X.rg Y.rg)
  have HC := hid (have_yes (n := n) (xs := [t]) (by simp [ht]))
  have fc := hid (rng_fit ht (by omega))
  have RT := hid ht
  have VT := hid hc
  have hmk := fun w => makeR m (by omega) w
  clear g h rx ry X Y ht hc
  go_enter Try.func15, Try.ntmps15
  go_upto_region 5 with (first
    | (go_at_call 40; with_reducible (refine (ahave_one _ _ n HP.out (by omega) t fc.out).mono ?_); rintro e w2 ⟨rfl, hb2⟩; rw [HC.out]; have HC := trivial; have S2 := hid ((Sx.start HG.out G.out).below hb2.out))
    | (go_at_call 30; with_reducible (refine (alike_any _ _ n (HP.out.keep hb2.out) (by omega) ao bo m m c1 c2 xs ys (RX.out.fg S2.out.f).row (RY.out.fg S2.out.f).row).mono ?_); rintro e w1 ⟨rfl, hb1⟩; rw [HH.out]; have S1 := hid (S2.out.below hb1.out); have HH := trivial))
  have L0 : Hid (∃ n2 cs2 val2 zs, Lp B gb is n val 0 w1 (w1.alloc (.cells (rC m) 3)) n2 cs2 val2 w1.heap.size m zs 0 (itF c A Bf)) := hid ⟨_, _, _, _, Lp.start HG.out S1.out.h⟩
  have RX := hid (RX.out.fg S1.out.f)
  have RY := hid (RY.out.fg S1.out.f)
  go_loopw [10, 29] (fun _ i wr => ∃ q : Nat, q ≤ m ∧ i = .int .i64 q ∧ Hid (∃ n2 cs2 val2 zs, Lp B gb is n val q w1 wr n2 cs2 val2 w1.heap.size m zs q (itF c A Bf))) (fun _ i _ => m - (intOf i).toNat)
  case atStart => exact ⟨0, Nat.zero_le _, rfl, L0⟩
  case round =>
    clear L0 hmk
    obtain ⟨q, hq, rfl, hst⟩ := hrel
    obtain ⟨n2, cs2, val2, zs, lp⟩ := hst.out
    have LP := hid lp
    clear lp hst
    by_cases hlt : q < m
    · have hlt' : (q : Int) < m := by omega
      obtain ⟨b1, o1, rfl, cx⟩ := RX.out.cells (by omega)
      obtain ⟨b2, o2, rfl, cy⟩ := RY.out.cells (by omega)
      have CX := hid cx
      have CY := hid cy
      clear cx cy
      obtain ⟨xq, hxq, rxq, vxq⟩ := HX.out.at (j := q) (by omega)
      have Hxq := hid hxq
      have Rxq := hid rxq
      have Vxq := hid vxq
      obtain ⟨yq, hyq, ryq, vyq⟩ := HY.out.at (j := q) (by omega)
      have Hyq := hid hyq
      have Ryq := hid ryq
      have Vyq := hid vyq
      have SKq : Hid (∀ W, FG (B.and w1.heap.size) w1 W → W.cell? ⟨b1, o1 + q, none⟩ = some (.int .i64 xq) ∧ W.cell? ⟨b2, o2 + q, none⟩ = some (.int .i64 yq)) := hid (fun W f => ⟨CX.out _ W f _ _ Hxq.out, CY.out _ W f _ _ Hyq.out⟩)
      clear hxq rxq vxq hyq ryq vyq
      go_wp2
      go_region_held3 (fun W => W.cell? ⟨b1, o1 + q, none⟩ = some (.int .i64 xq) ∧ W.cell? ⟨b2, o2 + q, none⟩ = some (.int .i64 yq)) (first | exact SKq.out _ LP.out.s.f.drew | exact SKq.out _ LP6.out.s.f | exact SKq.out _ (LP6.out.s.f.put (Nat.le_refl _) _ _)) (first
        | (go_at_call 41; with_reducible (refine (ite_any _ LP.out.s.g (LP.out.s.h.below (below_drew _)) (by have := LP.out.s.hi; omega) t xq yq (rng_more RT.out LP.out.s.lo) (rng_more Rxq.out LP.out.s.lo) (rng_more Ryq.out LP.out.s.lo)).mono ?_); rintro e w6 ⟨y6, rfl, hend⟩; obtain ⟨n6, cs6, val6, lo6, hi6, LP6, ag6, RU6, HU6⟩ := LP.out.gate (below_drew _) hend.out; clear hend; obtain ⟨zc, cz⟩ := LP6.out.r.cell hlt; have fz := LP6.out.r.frozen q))
      have HV : Hid (hd val6 y6 = itF c A Bf q) := hid (by rw [HU6.out, hd_agree LP.out.s.ag RT.out, hd_agree LP.out.s.ag Rxq.out, hd_agree LP.out.s.ag Ryq.out, VT.out, Vxq.out, Vyq.out]; rfl)
      have LP7 := hid (LP6.out.put hlt RU6.out HV.out)
      go_wp2
      go_roundw
      case rel => exact ⟨q + 1, by omega, by go_num, hid ⟨_, _, _, _, LP7.out⟩⟩
      case measure => simp only [intOf]; omega
    · have hqm : q = m := by omega
      subst hqm
      have RE := hid ((LP.out.end (by omega) (by have := LP.out.s.hi; omega)).ahead S1.out.f)
      go_wp2
      go_ret
      exact ⟨_, rfl, RE⟩

/-! ### constants -/
theorem and_one (x : Int) (x0 : 0 ≤ x) (x1 : x < 18446744073709551616) (q : Nat) : bits .and .u64 (x / 2 ^ q) 1 = Wd.b01 (Wd.bitB x q) := by
  have p := Wd.pos2 q
  have d0 := Int.ediv_nonneg x0 (Int.le_of_lt p)
  have d1 := Int.ediv_le_self (2 ^ q) x0
  rw [u64_and _ _ d0 (by omega) (by omega) (by omega), Wd.bitB_eq x q x0]
  generalize x / 2 ^ q = y at *
  obtain ⟨Y, rfl⟩ := Int.eq_ofNat_of_zero_le d0
  rw [Int.toNat_natCast, show (1 : Int).toNat = 1 by rfl, Nat.and_one_is_mod]
  omega

theorem Lp.put0 {B : BT} {gb : Nat} {is : List Int} {n0 : Nat} {v0 : Nat → Bool} {k : Nat} {w wr : World} {n : Nat} {cs : List (List Int)} {val : Nat → Bool} {rb m q : Nat} {zs : List Int} {S : Nat → Bool} (l : Lp B gb is n0 v0 k w wr n cs val rb m zs q S) (y : Int) :
    Lp B gb is n0 v0 k w (wr.setCell ⟨rb, q, none⟩ (.int .i64 y)) n cs val rb m (zs.set q y) q S := by
  refine ⟨⟨l.s.lo, l.s.hi, l.s.g, l.s.ag, l.s.h.put l.r, l.s.f.put l.nb _ _⟩, l.r.set q y, l.nb, fun j x hj hx => ?_⟩
  rw [List.getElem?_set_ne (by omega)] at hx
  exact l.fin j x hj hx

set_option maxHeartbeats 4000000 in
theorem const_any {B : BT} {gb n : Nat} {cs : List (List Int)} {val : Nat → Bool} {is : List Int} (w : World) (g : Good n cs val is) (h : Gt B gb w n cs) (hn : n ≤ 5000) (m : Nat) (m1 : 1 ≤ m) (m2 : m ≤ 64) (x : Int) (x0 : 0 ≤ x) (x1 : x < 18446744073709551616) :
    Calls Try.prog 16 #[.pointer (some ⟨gb, 0, none⟩), .int .i64 m, .int .u64 x] w fun e w' => ∃ rb, e = .returned (.slice (some ⟨rb, 0, none⟩) m m) ∧ Hid (REnd B gb is n val 0 w w' rb m (fun j => Wd.bitB x j)) := by
  have HG := hid g
  have G := hid h
  have hmk := makeR m (by omega) w
  have a1 : ¬ (m : Int) < 1 := by omega
  have a2 : ¬ (64 : Int) < m := by omega
  have L0 : Hid (∃ n2 cs2 val2 zs, Lp B gb is n val 0 w (w.alloc (.cells (rC m) 3)) n2 cs2 val2 w.heap.size m zs 0 (fun j => Wd.bitB x j)) := hid ⟨_, _, _, _, Lp.start g h⟩
  clear g h
  go_enter Try.func16, Try.ntmps16
  go_wp2
  go_loopw [8, 23] (fun _ i wr => ∃ q : Nat, q ≤ m ∧ i = .int .i64 q ∧ Hid (∃ n2 cs2 val2 zs, Lp B gb is n val 0 w wr n2 cs2 val2 w.heap.size m zs q (fun j => Wd.bitB x j))) (fun _ i _ => m - (intOf i).toNat)
  case atStart => exact ⟨0, Nat.zero_le _, rfl, L0⟩
  case round =>
    clear L0 hmk a1 a2
    obtain ⟨q, hq, rfl, hst⟩ := hrel
    obtain ⟨n2, cs2, val2, zs, lp⟩ := hst.out
    have LP := hid lp
    clear lp hst
    by_cases hlt : q < m
    · have hlt' : (q : Int) < m := by omega
      have hba := and_one x x0 x1 q
      cases hb : Wd.bitB x q
      · have h01 : bits .and .u64 (x / 2 ^ q) 1 = 0 := by rw [hba, hb]; rfl
        have HB := hid hb
        clear hba hb
        go_wp2_with (go_at_call 32; with_reducible (refine (no_any gb _).mono ?_); rintro e w5 ⟨rfl, hb5⟩; have LP := hid (LP.out.below hb5.out); obtain ⟨zc, cz⟩ := LP.out.r.cell hlt; have fz := LP.out.r.frozen q)
        have LP7 := hid (LP.out.put (y := 1) hlt (rng_one LP.out.s.g.pos) (by rw [hd_one LP.out.s.g, HB.out]))
        go_roundw
        case rel => exact ⟨q + 1, by omega, by go_num, hid ⟨_, _, _, _, LP7.out⟩⟩
        case measure => simp only [intOf]; omega
      · have h01 : bits .and .u64 (x / 2 ^ q) 1 = 1 := by rw [hba, hb]; rfl
        have HB := hid hb
        clear hba hb
        go_wp2_with (first
          | (go_at_call 32; with_reducible (refine (no_any gb _).mono ?_); rintro e w5 ⟨rfl, hb5⟩; have LP := hid (LP.out.below hb5.out); obtain ⟨zc, cz⟩ := LP.out.r.cell hlt; have fz := LP.out.r.frozen q)
          | (go_at_call 21; with_reducible (refine (true_any gb _).mono ?_); rintro e w6 ⟨rfl, rfl⟩; have LP := hid (LP.out.put0 1); obtain ⟨zc2, cz2⟩ := LP.out.r.cell hlt; have fz2 := LP.out.r.frozen q))
        have LP7 := hid (LP.out.put (y := 0) hlt (rng_zero LP.out.s.g.pos) (by rw [hd_zero LP.out.s.g, HB.out]))
        go_roundw
        case rel => exact ⟨q + 1, by omega, by go_num, hid ⟨_, _, _, _, LP7.out⟩⟩
        case measure => simp only [intOf]; omega
    · have hqm : q = m := by omega
      subst hqm
      have RE := hid (LP.out.end (by omega) (by have := LP.out.s.hi; omega))
      go_wp2
      go_ret
      exact ⟨_, rfl, RE⟩

end Go.Proofs.Ytmjnepmgjolndaa
