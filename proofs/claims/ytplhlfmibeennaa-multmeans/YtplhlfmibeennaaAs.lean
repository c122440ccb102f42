/-
  sum, less.
-/
import Derived.Test.YtplhlfmibeennaaRp
import Derived.Test.YtplhlfmibeennaaRu
namespace Go.Proofs.Ytplhlfmibeennaa
open Go.RowKit
set_option linter.unusedVariables false

theorem TR.cells {w : World} {ao : Option Addr} {m c : Nat} {xs : List Int} (h : TR w ao m c xs) (h0 : 0 < m) : ∃ b off, ao = some ⟨b, off, none⟩ ∧ ∀ (B : BT) (W : World), FG B w W → ∀ (j : Nat) (x : Int), xs[j]? = some x → W.cell? ⟨b, off + j, none⟩ = some (.int .i64 x) := by
  obtain ⟨r, t⟩ := h
  obtain ⟨b, off, e, ht, _⟩ := t h0
  obtain ⟨b2, off2, e2, hc⟩ := r.2.2.2.2.2 h0
  rw [e] at e2
  simp only [Option.some.injEq, Addr.mk.injEq, and_true] at e2
  obtain ⟨rfl, rfl⟩ := e2
  refine ⟨b, off, e, fun B W f j x hx => ?_⟩
  have hj : j < m := by rw [← r.1]; exact (List.getElem?_eq_some_iff.1 hx).1
  have q := hc j hj
  rw [List.getD_eq_getElem?_getD, hx] at q
  exact (World.cell?_of_block (f.block b 3 ht (by decide) (by decide))).trans q

theorem Lits.at {n : Nat} {val : Nat → Bool} {xs : List Int} {m : Nat} {A : Nat → Bool} (h : Lits n val xs m A) {j : Nat} (hj : j < m) : ∃ x, xs[j]? = some x ∧ rng n x ∧ hd val x = A j := by
  have hl : j < xs.length := by rw [h.len]; exact hj
  exact ⟨xs[j], List.getElem?_eq_getElem hl, h.rg _ (List.getElem_mem hl), h.is j _ (List.getElem?_eq_getElem hl)⟩

theorem TR.take {w : World} {ao : Option Addr} {m c : Nat} {xs : List Int} (h : TR w ao m c xs) {j : Nat} (hj : j ≤ m) : TR w ao j c (xs.take j) := ⟨h.1.take hj, fun h0 => h.2 (by omega)⟩
theorem Lits.take {n : Nat} {val : Nat → Bool} {xs : List Int} {m : Nat} {A : Nat → Bool} (h : Lits n val xs m A) {j : Nat} (hj : j ≤ m) : Lits n val (xs.take j) j A := by
  refine ⟨by rw [List.length_take, h.len]; omega, fun x hx => h.rg x (List.mem_of_mem_take hx), fun i x hx => h.is i x ?_⟩
  rw [List.getElem?_take] at hx
  split at hx
  · exact hx
  · cases hx

/-- A literal was made that holds just where r does. -/
def YEnd (B : BT) (gb : Nat) (is : List Int) (n0 : Nat) (v0 : Nat → Bool) (k : Nat) (w w' : World) (y : Int) (r : Bool) : Prop :=
  ∃ n cs val, Sx B gb is n0 v0 k w w' n cs val ∧ rng n y ∧ hd val y = r
theorem YEnd.of {B : BT} {gb : Nat} {is : List Int} {n0 : Nat} {v0 : Nat → Bool} {k : Nat} {w w' : World} {y : Int} {r : Bool} {n : Nat} {cs : List (List Int)} {val : Nat → Bool} (s : Sx B gb is n0 v0 k w w' n cs val) (hy : rng n y) (h : hd val y = r) : YEnd B gb is n0 v0 k w w' y r := ⟨n, cs, val, s, hy, h⟩

set_option maxHeartbeats 8000000 in
theorem sum_any {B : BT} {gb n : Nat} {cs : List (List Int)} {val : Nat → Bool} {is : List Int} (w : World) (g : Good n cs val is) (h : Gt B gb w n cs) (hn : n ≤ 5000) (t : Int) (ht : rng n t) (c : Bool) (hc : hd val t = c) (ao bo : Option Addr) (m c1 c2 : Nat) (xs ys : List Int) (rx : TR w ao m c1 xs) (ry : TR w bo m c2 ys) (A Bf : Nat → Bool) (X : Lits n val xs m A) (Y : Lits n val ys m Bf) (hm : m ≤ 1000) :
    Calls Try.prog 42 #[.pointer (some ⟨gb, 0, none⟩), .int .i64 t, .slice ao m c1, .slice bo m c2] w fun e w' => ∃ rb, e = .returned (.slice (some ⟨rb, 0, none⟩) m m) ∧ Hid (REnd B gb is n val (3 * m) w w' rb m (smF c A Bf)) := by
  have HG := hid g
  have G := hid h
  have RX := hid rx
  have RY := hid ry
  have HX := hid X
  have HY := hid Y
  have mx := rx.row.max
  have my := ry.row.max
  have hmk := makeR m (by omega) w
  have L0 : Hid (∃ n2 cs2 val2 zs, Lp B gb is n val (3 * 0) w (w.alloc (.cells (rC m) 3)) n2 cs2 val2 w.heap.size m zs 0 (smF c A Bf) ∧ rng n2 t ∧ hd val2 t = cyF c A Bf (0 - 1)) := hid ⟨_, _, _, _, Lp.start g h, ht, hc⟩
  clear g h rx ry X Y ht hc
  go_enter Try.func42, Try.ntmps42
  go_wp2
  go_loopw [1, 10, 16] (fun tv _ i wr => ∃ q : Nat, q ≤ m ∧ i = .int .i64 q ∧ ∃ u : Int, tv = .int .i64 u ∧ Hid (∃ n2 cs2 val2 zs, Lp B gb is n val (3 * q) w wr n2 cs2 val2 w.heap.size m zs q (smF c A Bf) ∧ rng n2 u ∧ hd val2 u = cyF c A Bf (q - 1))) (fun _ _ i _ => m - (intOf i).toNat)
  case atStart => exact ⟨0, Nat.zero_le _, rfl, t, rfl, L0⟩
  case round =>
    clear hmk L0
    obtain ⟨q, hq, rfl, u, rfl, hst⟩ := hrel
    obtain ⟨n2, cs2, val2, zs, lp, ru, hu⟩ := hst.out
    have LP := hid lp
    have RU := hid ru
    have HU := hid hu
    clear lp ru hu hst
    by_cases hlt : q < m
    · have hlt' : (q : Int) < m := by omega
      obtain ⟨b1, o1, rfl, cx⟩ := RX.out.cells (by omega)
      obtain ⟨b2, o2, rfl, cy⟩ := RY.out.cells (by omega)
      have CX := hid cx
      have CY := hid cy
      clear cx cy
      obtain ⟨xq, hxq, rxq, vxq⟩ := HX.out.at (j := q) (by omega)
      have Hxq := hid hxq
      have Rxq := hid rxq
      have Vxq := hid vxq
      obtain ⟨yq, hyq, ryq, vyq⟩ := HY.out.at (j := q) (by omega)
      have Hyq := hid hyq
      have Ryq := hid ryq
      have Vyq := hid vyq
      have SKq : Hid (∀ W, FG (B.and w.heap.size) w W → W.cell? ⟨b1, o1 + q, none⟩ = some (.int .i64 xq) ∧ W.cell? ⟨b2, o2 + q, none⟩ = some (.int .i64 yq)) := hid (fun W f => ⟨CX.out _ W f _ _ Hxq.out, CY.out _ W f _ _ Hyq.out⟩)
      clear hxq rxq vxq hyq ryq vyq
      rcases Nat.eq_zero_or_pos q with hz | hp
      · have hq0 : ¬ (0 : Int) < q := by omega
        have HU0 : Hid (hd val2 u = cyF c A Bf q) := hid (by rw [HU.out, hz])
        clear hz
        go_wp2
        go_region_held3 (fun W => W.cell? ⟨b1, o1 + q, none⟩ = some (.int .i64 xq) ∧ W.cell? ⟨b2, o2 + q, none⟩ = some (.int .i64 yq)) (first | exact SKq.out _ LP.out.s.f.drew | exact SKq.out _ LP5.out.s.f | exact SKq.out _ LP6.out.s.f | exact SKq.out _ (LP6.out.s.f.put (Nat.le_refl _) _ _)) (first
          | (go_at_call 61; with_reducible (refine (xor_any _ LP.out.s.g (LP.out.s.h.below (below_drew _)) (by have := LP.out.s.hi; omega) xq yq (rng_more Rxq.out LP.out.s.lo) (rng_more Ryq.out LP.out.s.lo)).mono ?_); rintro e w5 ⟨y5, rfl, hend⟩; obtain ⟨n5, cs5, val5, lo5, hi5, LP5, ag5, RU5, HU5⟩ := LP.out.gate (below_drew _) hend.out; clear hend)
          | (go_at_call 61; with_reducible (refine (xor_any _ LP5.out.s.g LP5.out.s.h (by have := LP5.out.s.hi; omega) y5 _ RU5.out (rng_more RU.out lo5)).mono ?_); rintro e w6 ⟨y6, rfl, hend⟩; obtain ⟨n6, cs6, val6, lo6, hi6, LP6, ag6, RU6, HU6⟩ := LP5.out.gate (Below.refl _ _) hend.out; clear hend; obtain ⟨zc, cz⟩ := LP6.out.r.cell hlt; have fz := LP6.out.r.frozen q))
        have HV : Hid (hd val6 y6 = smF c A Bf q) := hid (by rw [HU6.out, HU5.out, hd_agree LP.out.s.ag Rxq.out, hd_agree LP.out.s.ag Ryq.out, Vxq.out, Vyq.out, hd_agree ag5.out RU.out, HU0.out]; rfl)
        have LP7 := hid (LP6.out.put hlt RU6.out HV.out)
        have RU7 := hid (rng_more RU.out (Nat.le_trans lo5 lo6))
        have HU7 : Hid (hd val6 u = cyF c A Bf q) := hid (by rw [hd_agree ag6.out (rng_more RU.out lo5), hd_agree ag5.out RU.out, HU0.out])
        go_wp2
        go_roundw
        case rel => exact ⟨q + 1, by omega, by go_num, _, rfl, hid ⟨_, _, _, _, LP7.out.mono (by omega), RU7.out, by rw [HU7.out, show q + 1 - 1 = q by omega]⟩⟩
        case measure => simp only [intOf]; omega
      · obtain ⟨p, hpq⟩ : ∃ p, q = p + 1 := ⟨q - 1, by omega⟩
        have hq0 : (0 : Int) < q := by omega
        have e1 : (q : Int) - 1 = (p : Int) := by omega
        have e2 : IntKind.i64.wrap (p : Int) = (p : Int) := IntWalk.i64_in _ (by omega)
        have hpm : p < m := by omega
        have hpm' : (p : Int) < m := by omega
        have p0 : (0 : Int) ≤ p := by omega
        have HPQ := hid hpq
        obtain ⟨xp, hxp, rxp, vxp⟩ := HX.out.at (j := p) (by omega)
        have Hxp := hid hxp
        have Rxp := hid rxp
        have Vxp := hid vxp
        obtain ⟨yp, hyp, ryp, vyp⟩ := HY.out.at (j := p) (by omega)
        have Hyp := hid hyp
        have Ryp := hid ryp
        have Vyp := hid vyp
        have SKp : Hid (∀ W, FG (B.and w.heap.size) w W → W.cell? ⟨b1, o1 + p, none⟩ = some (.int .i64 xp) ∧ W.cell? ⟨b2, o2 + p, none⟩ = some (.int .i64 yp)) := hid (fun W f => ⟨CX.out _ W f _ _ Hxp.out, CY.out _ W f _ _ Hyp.out⟩)
        clear hxp rxp vxp hyp ryp vyp
        have HUp : Hid (hd val2 u = cyF c A Bf p) := hid (by rw [HU.out, hpq, show p + 1 - 1 = p by omega])
        clear hpq hp
        go_wp2
        go_region_held3 (fun W => W.cell? ⟨b1, o1 + p, none⟩ = some (.int .i64 xp) ∧ W.cell? ⟨b2, o2 + p, none⟩ = some (.int .i64 yp)) (first | exact SKp.out _ LP.out.s.f.drew | exact SKp.out _ LP4.out.s.f) (first
          | (go_at_call 60; with_reducible (refine (maj_any _ LP.out.s.g (LP.out.s.h.below (below_drew _)) (by have := LP.out.s.hi; omega) xp yp u (rng_more Rxp.out LP.out.s.lo) (rng_more Ryp.out LP.out.s.lo) RU.out).mono ?_); rintro e w4 ⟨y4, rfl, hend⟩; obtain ⟨n4, cs4, val4, lo4, hi4, LP4, ag4, RU4, HU4⟩ := LP.out.gate (below_drew _) hend.out; clear hend))
        have HW4 : Hid (hd val4 y4 = cyF c A Bf q) := hid (by rw [HU4.out, hd_agree LP.out.s.ag Rxp.out, hd_agree LP.out.s.ag Ryp.out, Vxp.out, Vyp.out, HUp.out, HPQ.out]; rfl)
        go_wp2
        go_region_held3 (fun W => W.cell? ⟨b1, o1 + q, none⟩ = some (.int .i64 xq) ∧ W.cell? ⟨b2, o2 + q, none⟩ = some (.int .i64 yq)) (first | exact SKq.out _ LP4.out.s.f.drew | exact SKq.out _ LP5.out.s.f | exact SKq.out _ LP6.out.s.f | exact SKq.out _ (LP6.out.s.f.put (Nat.le_refl _) _ _)) (first
          | (go_at_call 61; with_reducible (refine (xor_any _ LP4.out.s.g (LP4.out.s.h.below (below_drew _)) (by have := LP4.out.s.hi; omega) xq yq (rng_more Rxq.out LP4.out.s.lo) (rng_more Ryq.out LP4.out.s.lo)).mono ?_); rintro e w5 ⟨y5, rfl, hend⟩; obtain ⟨n5, cs5, val5, lo5, hi5, LP5, ag5, RU5, HU5⟩ := LP4.out.gate (below_drew _) hend.out; clear hend)
          | (go_at_call 61; with_reducible (refine (xor_any _ LP5.out.s.g LP5.out.s.h (by have := LP5.out.s.hi; omega) y5 _ RU5.out (rng_more RU4.out lo5)).mono ?_); rintro e w6 ⟨y6, rfl, hend⟩; obtain ⟨n6, cs6, val6, lo6, hi6, LP6, ag6, RU6, HU6⟩ := LP5.out.gate (Below.refl _ _) hend.out; clear hend; obtain ⟨zc, cz⟩ := LP6.out.r.cell hlt; have fz := LP6.out.r.frozen q))
        have HV : Hid (hd val6 y6 = smF c A Bf q) := hid (by rw [HU6.out, HU5.out, hd_agree LP4.out.s.ag Rxq.out, hd_agree LP4.out.s.ag Ryq.out, Vxq.out, Vyq.out, hd_agree ag5.out RU4.out, HW4.out]; rfl)
        have LP7 := hid (LP6.out.put hlt RU6.out HV.out)
        have RU7 := hid (rng_more RU4.out (Nat.le_trans lo5 lo6))
        have HU7 : Hid (hd val6 y4 = cyF c A Bf q) := hid (by rw [hd_agree ag6.out (rng_more RU4.out lo5), hd_agree ag5.out RU4.out, HW4.out])
        go_wp2
        go_roundw
        case rel => exact ⟨q + 1, by omega, by go_num, _, rfl, hid ⟨_, _, _, _, LP7.out.mono (by omega), RU7.out, by rw [HU7.out, show q + 1 - 1 = q by omega]⟩⟩
        case measure => simp only [intOf]; omega
    · have hqm : q = m := by omega
      subst hqm
      have RE := hid (LP.out.end (by omega) (by have := LP.out.s.hi; omega))
      go_wp2
      go_ret
      exact ⟨_, rfl, RE⟩


end Go.Proofs.Ytplhlfmibeennaa
