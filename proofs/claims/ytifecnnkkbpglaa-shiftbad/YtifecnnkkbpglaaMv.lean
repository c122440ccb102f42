/-
  Move.
-/
import Derived.Test.YtifecnnkkbpglaaSh
namespace Go.Proofs.Ytifecnnkkbpglaa
open Go.RowKit
set_option linter.unusedVariables false

/-- What comes in. -/
def cmF (op : Int) (A : Nat → Bool) (m : Nat) : Bool := (op == 11) && A (m - 1)

theorem lits_rep {n : Nat} {val : Nat → Bool} {y : Int} {c : Bool} (h : rng n y) (hc : hd val y = c) (m : Nat) : Lits n val (List.replicate m y) m (fun _ => c) := by
  refine ⟨by simp, fun x hx => ?_, fun j x hx => ?_⟩
  · rw [(List.mem_replicate.1 hx).2]; exact h
  · rw [(List.mem_replicate.1 (List.mem_of_getElem? hx)).2]; exact hc

theorem coming_any {n : Nat} {cs : List (List Int)} {val : Nat → Bool} {is : List Int} (g : Good n cs val is) (gb : Nat) (op : Int) (w : World) (ao : Option Addr) (m c1 : Nat) (xs : List Int) (rx : TR w ao m c1 xs) (A : Nat → Bool) (X : Lits n val xs m A) (hm : m ≤ 1000) (hm0 : 0 < m) :
    Calls Try.prog 20 #[.pointer (some ⟨gb, 0, none⟩), .int .i64 op, .slice ao m c1] w fun e w' => ∃ y, e = .returned (.int .i64 y) ∧ Hid (rng n y) ∧ Hid (hd val y = cmF op A m) ∧ Hid (Below w.heap.size w w') := by
  by_cases h : op = 11
  · subst h
    obtain ⟨y, hy, ry, vy⟩ := X.at (j := m - 1) (by omega)
    refine (coming_top _ w ao m c1 xs rx y hy hm hm0).mono ?_
    rintro e w' ⟨rfl, rfl⟩
    exact ⟨_, rfl, hid ry, hid (by rw [vy]; simp [cmF]), hid (Below.refl _ _)⟩
  · refine (coming_no gb op h _ w).mono ?_
    rintro e w' ⟨rfl, hb⟩
    exact ⟨_, rfl, hid (rng_one g.pos), hid (by rw [hd_one g]; simp [cmF, h]), hb⟩

theorem moved_any (op : Int) (w : World) (ao bo : Option Addr) (m t c1 c2 : Nat) (xs ys : List Int) (rx : TR w ao m c1 xs) (ry : TR w bo t c2 ys) (n : Nat) (val : Nat → Bool) (S : Nat → Bool) (X : Lits n val xs m S) (c : Bool) (Y : Lits n val ys t (fun _ => c)) (hm : m ≤ 1000) (ht : t < m) :
    Calls Try.prog 23 #[.int .i64 op, .slice ao m c1, .slice bo t c2] w fun e w' => ∃ ro rc zs, e = .returned (.slice ro m rc) ∧ Hid (TR w' ro m rc zs) ∧ Hid (Lits n val zs m (mvF (op == 9) c S m t)) ∧ Hid (Below w.heap.size w w') := by
  by_cases h : op = 9
  · subst h
    refine (moved_left w ao bo m t c1 c2 xs ys rx ry hm (by omega) (by omega)).mono ?_
    rintro e w' ⟨ro, rc, rfl, hr, hb⟩
    refine ⟨_, _, _, rfl, hr, hid ?_, hb⟩
    have := Y.app (X.take (j := m - t) (by omega))
    rw [show t + (m - t) = m by omega] at this
    exact this.as (fun j hj => by simp [mvF])
  · refine (moved_right op h w ao bo m t c1 c2 xs ys rx ry hm ht).mono ?_
    rintro e w' ⟨ro, rc, rfl, hr, hb⟩
    refine ⟨_, _, _, rfl, hr, hid ?_, hb⟩
    have := (X.drop (i := t) (by omega)).app Y
    rw [show m - t + t = m by omega] at this
    refine this.as (fun j hj => ?_)
    have e : (op == 9) = false := by simp [h]
    unfold mvF
    rw [e]
    simp only [Bool.false_eq_true, if_false]
    by_cases h2 : j + t < m
    · rw [if_pos h2, if_pos (by omega), Nat.add_comm]
    · rw [if_neg h2, if_neg (by omega)]

set_option maxHeartbeats 16000000 in
theorem move_uc {B : BT} {gb n : Nat} {cs : List (List Int)} {val : Nat → Bool} {is : List Int} (w : World) (g : Good n cs val is) (h : Gt B gb w n cs) (hn : n ≤ 3000) (op : Int) (hop : mvB op = true) (u c : Bool) (A Bf : Nat → Bool) (m : Nat) (hu : (op == 9) = u) (hc : cmF op A m = c) (ao bo : Option Addr) (c1 c2 : Nat) (xs ys : List Int) (rx : TR w ao m c1 xs) (ry : TR w bo m c2 ys) (X : Lits n val xs m A) (Y : Lits n val ys m Bf) (hm : m ≤ 40) (hm0 : 0 < m) :
    Calls Try.prog 9 #[.pointer (some ⟨gb, 0, none⟩), .int .i64 op, .slice ao m c1, .slice bo m c2] w fun e w' => ∃ rb, e = .returned (.slice (some ⟨rb, 0, none⟩) m m) ∧ Hid (REnd B gb is n val (11 * m) w w' rb m (mvF u c A m (nbN Bf m))) := by
  have HG := hid g
  have G := hid h
  have RX := hid rx
  have RY := hid ry
  have HX := hid X
  have HY := hid Y
  have HOP := hid hop
  have HU := hid hu
  have HC := hid hc
  have hc1 : m ≤ c1 := rx.row.2.1
  have hc2 : m ≤ c2 := ry.row.2.1
  have mc1 := rx.row.2.2.1
  have mc2 := ry.row.2.2.1
  have mx := rx.row.max
  have my := ry.row.max
  obtain ⟨b1, o1, rfl, _⟩ := rx.cells (by omega)
  obtain ⟨b2, o2, rfl, _⟩ := ry.cells (by omega)
  unfold maxLen at mc1 mc2
  obtain ⟨p, hp⟩ : ∃ p, p = m - 1 := ⟨_, rfl⟩
  obtain ⟨f, hf⟩ : ∃ f, f = farF m := ⟨_, rfl⟩
  have HF : Hid (Lib.bitLen p = f) := hid (by rw [hf, hp]; rfl)
  have f8 : f ≤ 8 := by rw [hf]; exact far_8 m (by omega) hm0
  have fm : f < m := by rw [hf]; exact far_lt m (by omega) hm0
  have FHI : Hid (m ≤ 2 ^ f) := hid (by rw [hf]; exact far_hi m (by omega) hm0)
  have FLO : Hid (∀ i, i < f → 2 ^ i < m) := hid (by rw [hf]; exact far_lo m (by omega) hm0)
  have e1 : (m : Int) - 1 = (p : Int) := by omega
  have e2 : IntKind.i64.wrap (p : Int) = (p : Int) := IntWalk.i64_in _ (by omega)
  have e3 : IntKind.u64.wrap (p : Int) = (p : Int) := Wd.wrap_id _ (by omega) (by omega)
  have p40 : p < 200 := by omega
  clear g h rx ry X Y hop hp hf hu hc
  go_enter Try.func9, Try.ntmps9
  go_upto_region 8 with (first
    | (go_at_call 17; with_reducible (refine (isMove_any op _).mono ?_); rintro e w0 ⟨rfl, hw0⟩; subst w0; rw [HOP.out]; have HOP := trivial)
    | (go_at_call 18; with_reducible (refine (rows_yes _ HG.out G.out (by omega) _ _ m c1 c2 xs ys RX.out RY.out A Bf HX.out HY.out (by omega) hm0).mono ?_); rintro e w1 ⟨rfl, hs1⟩; obtain ⟨n1, cs1, val1, s1⟩ := hs1.out; have S1 := hid s1; clear s1 hs1)
    | (go_at_call 20; with_reducible (refine (coming_any S1.out.g gb op _ _ m c1 xs (RX.out.fg S1.out.f) A (HX.out.more S1.out.lo S1.out.ag) (by omega) hm0).mono ?_); rintro e w2 ⟨cy, rfl, rcy, hcy, hb2⟩; have cfit := rng_fit rcy.out (by have := S1.out.hi; omega))
    | (go_at_call 19; with_reducible (refine (repeat_any _ cy cfit m (by omega)).mono ?_); rintro e w3 ⟨tb, rfl, ht, hb3, _⟩)
    | (go_at_call 21; with_reducible (refine (blen_any p p40 _).mono ?_); rintro e w4 ⟨rfl, hw4⟩; subst w4; rw [HF.out]))
  have S1 : Hid (Sx B gb is n val m w w3 n1 cs1 val1) := hid ((S1.out.below hb2.out).below hb3.out)
  have RX := hid (RX.out.fg S1.out.f)
  have RY := hid (RY.out.fg S1.out.f)
  have HX := hid (HX.out.more S1.out.lo S1.out.ag)
  have HY := hid (HY.out.more S1.out.lo S1.out.ag)
  have TG := hid ht.out
  have LG := hid (lits_rep rcy.out (hcy.out.trans HC.out) m)
  have N1 : n1 ≤ 3040 := by have := S1.out.hi; omega
  have L0 : Hid (QEnd B gb is n1 val1 (m * 0) w3 w3 (some ⟨b1, o1, none⟩) m c1 (mvF u c A m (nbN Bf 0))) := hid (QEnd.mk (Sx.start S1.out.g S1.out.h) RX.out (HX.out.as (fun j hj => (mv_zero u c A m j hj).symm)))
  clear hb2 hb3 ht rcy hcy cfit e1 e2 e3 p40 HF HOP
  go_loopw [12, 13, 39] (fun rv _ i wr => ∃ q : Nat, q ≤ f ∧ i = .int .i64 q ∧ ∃ ro rc, rv = .slice ro m rc ∧ Hid (QEnd B gb is n1 val1 (m * q) w3 wr ro m rc (mvF u c A m (nbN Bf q)))) (fun _ _ i _ => f - (intOf i).toNat)
  case atStart => exact ⟨0, Nat.zero_le _, rfl, _, c1, rfl, L0⟩
  case round =>
    clear L0
    obtain ⟨q, hq, rfl, ro, rc, rfl, hst⟩ := hrel
    obtain ⟨n2, cs2, val2, zs, sx, tz, lz⟩ := hst.out
    have S := hid sx
    have TZ := hid tz
    have LZ := hid lz
    clear sx tz lz hst
    by_cases hlt : q < f
    · have hlt' : (q : Int) < f := by omega
      obtain ⟨t, ht⟩ : ∃ t, t = 2 ^ q := ⟨_, rfl⟩
      have HT := hid ht
      have tm : t < m := by rw [ht]; exact FLO.out q hlt
      have t0 : 0 < t := by rw [ht]; exact Nat.two_pow_pos q
      have hsh : (2 : Int) ^ q = (t : Int) := by rw [ht]; simp
      have hsw : IntKind.i64.wrap (t : Int) = (t : Int) := IntWalk.i64_in _ (by omega)
      have p1 : (0 : Int) ≤ t := by omega
      have p2 : (t : Int) ≤ m := by omega
      have p3 : (q : Int) < m := by omega
      obtain ⟨b3, o3, e, cy2⟩ := RY.out.cells hm0
      cases e
      obtain ⟨yq, hyq, ryq, vyq⟩ := HY.out.at (j := q) (by omega)
      have Ryq := hid ryq
      have Vyq := hid vyq
      have SKq : Hid (∀ W, FG B w3 W → W.cell? ⟨b2, o2 + q, none⟩ = some (.int .i64 yq)) := hid (fun W f => cy2 B W f _ _ hyq)
      have TT : Hid (TR wr (some ⟨tb, 0, none⟩) t m ((List.replicate m cy).take t)) := hid ((TG.out.fg S.out.f).take (by omega))
      have LT : Hid (Lits n2 val2 ((List.replicate m cy).take t) t (fun _ => c)) := hid ((LG.out.more S.out.lo S.out.ag).take (by omega))
      have N2 : Hid (n2 ≤ 3400) := hid (by
        have := S.out.hi
        have : m * q ≤ 40 * 8 := Nat.mul_le_mul hm (by omega)
        omega)
      clear ht cy2 hyq ryq vyq
      go_wp2
      go_region_held3 (fun W => W.cell? ⟨b2, o2 + q, none⟩ = some (.int .i64 yq)) (first
        | exact SKq.out _ S.out.f.drew
        | exact SKq.out _ S5.out.f
        | exact SKq.out _ S6.out.f) (first
        | (go_at_call 23; with_reducible (refine (moved_any op _ _ _ m t rc m zs _ (TZ.out.below (below_drew _)) (TT.out.below (below_drew _)) n2 val2 _ LZ.out c LT.out (by omega) tm).mono ?_); rintro e w5 ⟨r5, c5, zs5, rfl, ht5, hl5, hb5⟩; have S5 := hid ((S.out.below (below_drew _)).below hb5.out); have T0 := hid ((TZ.out.below (below_drew _)).below hb5.out))
        | (go_at_call 22; with_reducible (refine (aite_any _ S5.out.g S5.out.h (by have := N2.out; omega) yq (rng_more Ryq.out S.out.lo) (Bf q) ((hd_agree S.out.ag Ryq.out).trans Vyq.out) _ _ m c5 rc _ _ ht5.out T0.out _ _ hl5.out LZ.out (by omega) hm0).mono ?_); rintro e w6 ⟨rb6, rfl, hr⟩; obtain ⟨n6, cs6, val6, zs6, lo6, S6, ag6, F6, T6, L6⟩ := hr.out.go S5.out; clear hr))
      have QE : Hid (QEnd B gb is n1 val1 (m * (q + 1)) w3 w6 (some ⟨rb6, 0, none⟩) m m (mvF u c A m (nbN Bf (q + 1)))) := hid (QEnd.mk (S6.out.mono (by rw [Nat.mul_succ]; omega)) T6.out (L6.out.as (fun j hj => by
        rw [HU.out, HT.out]
        exact mv_step u c A Bf m q j hj)))
      go_wp2
      go_roundw
      case rel => exact ⟨q + 1, by omega, by go_num, _, _, rfl, QE⟩
      case measure => simp only [intOf]; omega
    · have hqf : q = f := by omega
      subst hqf
      obtain ⟨k, hk⟩ : ∃ k, k = m - q := ⟨_, rfl⟩
      have HK : Hid (q + k = m) := hid (by omega)
      have hmq : m - q = k := by omega
      have k0 : 0 < k := by omega
      have km : k ≤ m := by omega
      have p1 : (0 : Int) ≤ q := by omega
      have p2 : (q : Int) ≤ m := by omega
      have p3 : (m : Int) ≤ c2 := by omega
      have hne : ¬ c2 = q := by omega
      have N2 : Hid (n2 ≤ 3400) := hid (by
        have := S.out.hi
        have : m * q ≤ 40 * 8 := Nat.mul_le_mul hm (by omega)
        omega)
      have TB : Hid (TR wr (some ⟨b2, o2 + q, none⟩) k (c2 - q) (ys.drop q)) := hid (by
        have := (RY.out.fg S.out.f).drop (i := q) (c' := c2 - q) (by omega) (by omega) (by omega)
        rwa [hmq] at this)
      have LB : Hid (Lits n2 val2 (ys.drop q) k (fun j => Bf (q + j))) := hid (by
        have := (HY.out.more S.out.lo S.out.ag).drop (i := q) (by omega)
        rwa [hmq] at this)
      have TT := hid (TG.out.fg S.out.f)
      have LT := hid (LG.out.more S.out.lo S.out.ag)
      clear hk
      go_wp2_with (first
        | (go_at_call 24; with_reducible (refine (any_any _ S.out.g S.out.h (by have := N2.out; omega) _ k (c2 - q) _ TB.out _ LB.out (by omega)).mono ?_); rintro e w5 ⟨y5, rfl, hr⟩; obtain ⟨n5, cs5, val5, lo5, S5, ag5, F5, RU5, HU5⟩ := hr.out.go S.out; clear hr)
        | (go_at_call 22; with_reducible (refine (aite_any _ S5.out.g S5.out.h (by have := S5.out.hi; have := N2.out; have : m * q ≤ 40 * 8 := Nat.mul_le_mul hm (by omega); omega) y5 RU5.out _ HU5.out _ _ m m rc _ _ (TT.out.fg F5.out) (TZ.out.fg F5.out) _ _ (LT.out.more lo5 ag5.out) (LZ.out.more lo5 ag5.out) (by omega) hm0).mono ?_); rintro e w6 ⟨rb6, rfl, hr⟩))
      have RE : Hid (REnd B gb is n val (11 * m) w w6 rb6 m (mvF u c A m (nbN Bf m))) := hid (by
        obtain ⟨n6, cs6, val6, zs6, lo6, S6, ag6, F6, T6, L6⟩ := hr.out.go (S1.out.on S5.out)
        refine ⟨n6, cs6, val6, zs6, S6.out.mono ?_, T6.out, L6.out.as (fun j hj => mv_end u c A Bf m q k j hj FHI.out HK.out), Nat.le_trans (S1.out.on S5.out).f.size hr.out.new⟩
        have : m * q ≤ m * 8 := Nat.mul_le_mul_left m (by omega)
        omega)
      go_ret
      exact ⟨_, rfl, RE⟩

theorem move_any {B : BT} {gb n : Nat} {cs : List (List Int)} {val : Nat → Bool} {is : List Int} (w : World) (g : Good n cs val is) (h : Gt B gb w n cs) (hn : n ≤ 3000) (op : Int) (hop : mvB op = true) (ao bo : Option Addr) (m c1 c2 : Nat) (xs ys : List Int) (rx : TR w ao m c1 xs) (ry : TR w bo m c2 ys) (A Bf : Nat → Bool) (X : Lits n val xs m A) (Y : Lits n val ys m Bf) (hm : m ≤ 40) (hm0 : 0 < m) :
    Calls Try.prog 9 #[.pointer (some ⟨gb, 0, none⟩), .int .i64 op, .slice ao m c1, .slice bo m c2] w fun e w' => ∃ rb, e = .returned (.slice (some ⟨rb, 0, none⟩) m m) ∧ Hid (REnd B gb is n val (11 * m) w w' rb m (mvF (op == 9) (cmF op A m) A m (nbN Bf m))) :=
  move_uc w g h hn op hop _ _ A Bf m rfl rfl ao bo c1 c2 xs ys rx ry X Y hm hm0

/-! ### none -/
theorem move_other (w : World) (op : Int) (hop : mvB op = false) (u v x : Value) :
    Calls Try.prog 9 #[u, .int .i64 op, v, x] w fun e w' => e = .returned (.slice none 0 0) ∧ Hid (Below w.heap.size w w') := by
  have HOP := hid hop
  clear hop
  go_enter Try.func9, Try.ntmps9
  go_wp2_with (go_at_call 17; with_reducible (refine (isMove_any op _).mono ?_); rintro e w0 ⟨rfl, hw0⟩; subst w0; rw [HOP.out])
  go_ret
  exact ⟨rfl, hid (Below.refl _ _)⟩

theorem move_bad (w : World) (op : Int) (hop : mvB op = true) (gb n : Nat) (hp : Vq w (.pointer (some ⟨gb, 0, none⟩)) n) (hn : n ≤ 10000) (h0 : 0 < n) (ao bo : Option Addr) (m m2 c1 c2 : Nat) (xs ys : List Int) (rx : Row w ao m c1 xs) (ry : Row w bo m2 c2 ys) (hh : al2 n m m2 xs ys = false) :
    Calls Try.prog 9 #[.pointer (some ⟨gb, 0, none⟩), .int .i64 op, .slice ao m c1, .slice bo m2 c2] w fun e w' => e = .returned (.slice none 0 0) ∧ Hid (Below w.heap.size w w') := by
  have HP := hid hp
  have RX := hid rx
  have RY := hid ry
  have HH := hid hh
  have HOP := hid hop
  clear hp rx ry hh hop
  go_enter Try.func9, Try.ntmps9
  go_wp2_with (first
    | (go_at_call 17; with_reducible (refine (isMove_any op _).mono ?_); rintro e w0 ⟨rfl, hw0⟩; subst w0; rw [HOP.out]; have HOP := trivial)
    | (go_at_call 18; with_reducible (refine (rows_no _ gb n HP.out hn h0 ao bo m m2 c1 c2 xs ys RX.out RY.out HH.out).mono ?_); rintro e w1 ⟨rfl, hb⟩))
  go_ret
  exact ⟨rfl, hb⟩

theorem move_nil (w : World) (op : Int) (hop : mvB op = true) (u v : Value) :
    Calls Try.prog 9 #[.pointer none, .int .i64 op, u, v] w fun e w' => e = .returned (.slice none 0 0) ∧ Hid (Below w.heap.size w w') := by
  have HOP := hid hop
  clear hop
  go_enter Try.func9, Try.ntmps9
  go_wp2_with (first
    | (go_at_call 17; with_reducible (refine (isMove_any op _).mono ?_); rintro e w0 ⟨rfl, hw0⟩; subst w0; rw [HOP.out]; have HOP := trivial)
    | (go_at_call 18; with_reducible (refine (rows_nil _ _ _).mono ?_); rintro e w1 ⟨rfl, hb⟩))
  go_ret
  exact ⟨rfl, hb⟩

end Go.Proofs.Ytifecnnkkbpglaa
