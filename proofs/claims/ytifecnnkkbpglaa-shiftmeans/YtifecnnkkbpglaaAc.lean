/-
  Add, Sub, Neg, Equal, Less, Sless, Ite, Const.
-/
import Derived.Test.YtifecnnkkbpglaaAs
namespace Go.Proofs.Ytifecnnkkbpglaa
open Go.RowKit
set_option linter.unusedVariables false

theorem REnd.ahead {B : BT} {gb : Nat} {is : List Int} {n0 : Nat} {v0 : Nat → Bool} {k : Nat} {w w1 w' : World} {rb m : Nat} {S : Nat → Bool} (h : REnd B gb is n0 v0 k w1 w' rb m S) (f : FG B w w1) : REnd B gb is n0 v0 k w w' rb m S := by
  obtain ⟨n, cs, val, zs, s, r, l, e⟩ := h
  exact ⟨n, cs, val, zs, s.ahead f, r, l, Nat.le_trans f.size e⟩
theorem YEnd.ahead {B : BT} {gb : Nat} {is : List Int} {n0 : Nat} {v0 : Nat → Bool} {k : Nat} {w w1 w' : World} {y : Int} {r : Bool} (h : YEnd B gb is n0 v0 k w1 w' y r) (f : FG B w w1) : YEnd B gb is n0 v0 k w w' y r := by
  obtain ⟨n, cs, val, s, r, l⟩ := h
  exact ⟨n, cs, val, s.ahead f, r, l⟩
theorem YEnd.on {B : BT} {gb : Nat} {is : List Int} {n0 : Nat} {v0 : Nat → Bool} {k k1 : Nat} {w w1 w' : World} {y : Int} {r : Bool} {n : Nat} {cs : List (List Int)} {val : Nat → Bool} (e : YEnd B gb is n val k1 w1 w' y r) (s : Sx B gb is n0 v0 k w w1 n cs val) :
    ∃ n' cs' val', n ≤ n' ∧ Hid (Sx B gb is n0 v0 (k + k1) w w' n' cs' val') ∧ Hid (∀ i, i < n → val' i = val i) ∧ Hid (rng n' y) ∧ Hid (hd val' y = r) := by
  obtain ⟨n', cs', val', t, h1, h2⟩ := e
  exact ⟨n', cs', val', t.lo, s.on t, t.ag, h1, h2⟩

theorem lits_no {n : Nat} {cs : List (List Int)} {val : Nat → Bool} {is : List Int} (g : Good n cs val is) (m : Nat) : Lits n val (List.replicate m 1) m (fun _ => false) := by
  refine ⟨by simp, fun x hx => ?_, fun j x hx => ?_⟩
  · rw [(List.mem_replicate.1 hx).2]; exact rng_one g.pos
  · rw [(List.mem_replicate.1 (List.mem_of_getElem? hx)).2]; exact hd_one g

/-! ### rows that are none -/
theorem aite_bad (w : World) (p : Value) (n : Nat) (hp : Vq w p n) (hn : n ≤ 10000) (ao bo : Option Addr) (m m2 c1 c2 : Nat) (xs ys : List Int) (rx : Row w ao m c1 xs) (ry : Row w bo m2 c2 ys) (hh : al2 n m m2 xs ys = false) (c : Int) (hc : rng n c) :
    Calls Try.prog 22 #[p, .int .i64 c, .slice ao m c1, .slice bo m2 c2] w fun e w' => e = .returned (.slice none 0 0) ∧ Hid (Below w.heap.size w w') := by
  have HP := hid hp
  have HH := hid hh
  have RX := hid rx
  have RY := hid ry
  have HC := hid (have_yes (n := n) (xs := [c]) (by simp [hc]))
  have fc := hid (rng_fit hc hn)
  clear hp hh rx ry hc
  go_enter Try.func22, Try.ntmps22
  go_wp2_with (first
    | (go_at_call 40; with_reducible (refine (ahave_one _ _ n HP.out hn c fc.out).mono ?_); rintro e w1 ⟨rfl, hb1⟩; rw [HC.out]; have HC := trivial)
    | (go_at_call 41; with_reducible (refine (alike_any _ _ n (HP.out.keep hb1.out) hn ao bo m m2 c1 c2 xs ys (RX.out.keep hb1.out) (RY.out.keep hb1.out)).mono ?_); rintro e w2 ⟨rfl, hb2⟩; rw [HH.out]))
  go_ret
  exact ⟨rfl, hid (Below.next hb1.out hb2.out)⟩

theorem aite_none (w : World) (p : Value) (n : Nat) (hp : Vq w p n) (hn : n ≤ 10000) (u v : Value) (c : Int) (fc : -9223372036854775808 ≤ c ∧ c ≤ 9223372036854775807) (hc : ¬ rng n c) :
    Calls Try.prog 22 #[p, .int .i64 c, u, v] w fun e w' => e = .returned (.slice none 0 0) ∧ Hid (Below w.heap.size w w') := by
  have HP := hid hp
  have HC := hid (have_no (n := n) (xs := [c]) (x := c) (by simp) hc)
  have FC := hid fc
  clear hp hc fc
  go_enter Try.func22, Try.ntmps22
  go_wp2_with (go_at_call 40; with_reducible (refine (ahave_one _ _ n HP.out hn c FC.out).mono ?_); rintro e w1 ⟨rfl, hb1⟩; rw [HC.out])
  go_ret
  exact ⟨rfl, hb1⟩

/-! ### sums -/


/-! ### comparisons -/



/-! ### choices -/
def itF (c : Bool) (A B : Nat → Bool) (j : Nat) : Bool := iteB c (A j) (B j)

set_option maxHeartbeats 8000000 in
theorem aite_any {B : BT} {gb n : Nat} {cs : List (List Int)} {val : Nat → Bool} {is : List Int} (w : World) (g : Good n cs val is) (h : Gt B gb w n cs) (hn : n ≤ 5000) (t : Int) (ht : rng n t) (c : Bool) (hc : hd val t = c) (ao bo : Option Addr) (m c1 c2 : Nat) (xs ys : List Int) (rx : TR w ao m c1 xs) (ry : TR w bo m c2 ys) (A Bf : Nat → Bool) (X : Lits n val xs m A) (Y : Lits n val ys m Bf) (hm : m ≤ 1000) (hm0 : 0 < m) :
    Calls Try.prog 22 #[.pointer (some ⟨gb, 0, none⟩), .int .i64 t, .slice ao m c1, .slice bo m c2] w fun e w' => ∃ rb, e = .returned (.slice (some ⟨rb, 0, none⟩) m m) ∧ Hid (REnd B gb is n val m w w' rb m (itF c A Bf)) := by
  have HG := hid g
  have G := hid h
  have RX := hid rx
  have RY := hid ry
  have HX := hid X
  have HY := hid Y
  have mx := rx.row.max
  have my := ry.row.max
  have HP := hid h.vq
  have HH := hid (al_yes hm0 X.rg Y.rg)
  have HC := hid (have_yes (n := n) (xs := [t]) (by simp [ht]))
  have fc := hid (rng_fit ht (by omega))
  have RT := hid ht
  have VT := hid hc
  have hmk := fun w => makeR m (by omega) w
  clear g h rx ry X Y ht hc
  go_enter Try.func22, Try.ntmps22
  go_upto_region 5 with (first
    | (go_at_call 40; with_reducible (refine (ahave_one _ _ n HP.out (by omega) t fc.out).mono ?_); rintro e w2 ⟨rfl, hb2⟩; rw [HC.out]; have HC := trivial; have S2 := hid ((Sx.start HG.out G.out).below hb2.out))
    | (go_at_call 41; with_reducible (refine (alike_any _ _ n (HP.out.keep hb2.out) (by omega) ao bo m m c1 c2 xs ys (RX.out.fg S2.out.f).row (RY.out.fg S2.out.f).row).mono ?_); rintro e w1 ⟨rfl, hb1⟩; rw [HH.out]; have S1 := hid (S2.out.below hb1.out); have HH := trivial))
  have L0 : Hid (∃ n2 cs2 val2 zs, Lp B gb is n val 0 w1 (w1.alloc (.cells (rC m) 3)) n2 cs2 val2 w1.heap.size m zs 0 (itF c A Bf)) := hid ⟨_, _, _, _, Lp.start HG.out S1.out.h⟩
  have RX := hid (RX.out.fg S1.out.f)
  have RY := hid (RY.out.fg S1.out.f)
  go_loopw [10, 29] (fun _ i wr => ∃ q : Nat, q ≤ m ∧ i = .int .i64 q ∧ Hid (∃ n2 cs2 val2 zs, Lp B gb is n val q w1 wr n2 cs2 val2 w1.heap.size m zs q (itF c A Bf))) (fun _ i _ => m - (intOf i).toNat)
  case atStart => exact ⟨0, Nat.zero_le _, rfl, L0⟩
  case round =>
    clear L0 hmk
    obtain ⟨q, hq, rfl, hst⟩ := hrel
    obtain ⟨n2, cs2, val2, zs, lp⟩ := hst.out
    have LP := hid lp
    clear lp hst
    by_cases hlt : q < m
    · have hlt' : (q : Int) < m := by omega
      obtain ⟨b1, o1, rfl, cx⟩ := RX.out.cells (by omega)
      obtain ⟨b2, o2, rfl, cy⟩ := RY.out.cells (by omega)
      have CX := hid cx
      have CY := hid cy
      clear cx cy
      obtain ⟨xq, hxq, rxq, vxq⟩ := HX.out.at (j := q) (by omega)
      have Hxq := hid hxq
      have Rxq := hid rxq
      have Vxq := hid vxq
      obtain ⟨yq, hyq, ryq, vyq⟩ := HY.out.at (j := q) (by omega)
      have Hyq := hid hyq
      have Ryq := hid ryq
      have Vyq := hid vyq
      have SKq : Hid (∀ W, FG (B.and w1.heap.size) w1 W → W.cell? ⟨b1, o1 + q, none⟩ = some (.int .i64 xq) ∧ W.cell? ⟨b2, o2 + q, none⟩ = some (.int .i64 yq)) := hid (fun W f => ⟨CX.out _ W f _ _ Hxq.out, CY.out _ W f _ _ Hyq.out⟩)
      clear hxq rxq vxq hyq ryq vyq
      go_wp2
      go_region_held3 (fun W => W.cell? ⟨b1, o1 + q, none⟩ = some (.int .i64 xq) ∧ W.cell? ⟨b2, o2 + q, none⟩ = some (.int .i64 yq)) (first | exact SKq.out _ LP.out.s.f.drew | exact SKq.out _ LP6.out.s.f | exact SKq.out _ (LP6.out.s.f.put (Nat.le_refl _) _ _)) (first
        | (go_at_call 42; with_reducible (refine (ite_any _ LP.out.s.g (LP.out.s.h.below (below_drew _)) (by have := LP.out.s.hi; omega) t xq yq (rng_more RT.out LP.out.s.lo) (rng_more Rxq.out LP.out.s.lo) (rng_more Ryq.out LP.out.s.lo)).mono ?_); rintro e w6 ⟨y6, rfl, hend⟩; obtain ⟨n6, cs6, val6, lo6, hi6, LP6, ag6, RU6, HU6⟩ := LP.out.gate (below_drew _) hend.out; clear hend; obtain ⟨zc, cz⟩ := LP6.out.r.cell hlt; have fz := LP6.out.r.frozen q))
      have HV : Hid (hd val6 y6 = itF c A Bf q) := hid (by rw [HU6.out, hd_agree LP.out.s.ag RT.out, hd_agree LP.out.s.ag Rxq.out, hd_agree LP.out.s.ag Ryq.out, VT.out, Vxq.out, Vyq.out]; rfl)
      have LP7 := hid (LP6.out.put hlt RU6.out HV.out)
      go_wp2
      go_roundw
      case rel => exact ⟨q + 1, by omega, by go_num, hid ⟨_, _, _, _, LP7.out⟩⟩
      case measure => simp only [intOf]; omega
    · have hqm : q = m := by omega
      subst hqm
      have RE := hid ((LP.out.end (by omega) (by have := LP.out.s.hi; omega)).ahead S1.out.f)
      go_wp2
      go_ret
      exact ⟨_, rfl, RE⟩

/-! ### constants -/

end Go.Proofs.Ytifecnnkkbpglaa
