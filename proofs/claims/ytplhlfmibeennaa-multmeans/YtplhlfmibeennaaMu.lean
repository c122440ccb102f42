/-
  Mul.
-/
import Derived.Test.YtplhlfmibeennaaTe
namespace Go.Proofs.Ytplhlfmibeennaa
open Go.RowKit
set_option linter.unusedVariables false

/-- A row was made, wherever it lies. -/
def QEnd (B : BT) (gb : Nat) (is : List Int) (n0 : Nat) (v0 : Nat → Bool) (k : Nat) (w w' : World) (ao : Option Addr) (m c : Nat) (S : Nat → Bool) : Prop :=
  ∃ n cs val zs, Sx B gb is n0 v0 k w w' n cs val ∧ TR w' ao m c zs ∧ Lits n val zs m S
theorem QEnd.mk {B : BT} {gb : Nat} {is : List Int} {n0 : Nat} {v0 : Nat → Bool} {k : Nat} {w w' : World} {ao : Option Addr} {m c : Nat} {S : Nat → Bool} {n : Nat} {cs : List (List Int)} {val : Nat → Bool} {zs : List Int} (h1 : Sx B gb is n0 v0 k w w' n cs val) (h2 : TR w' ao m c zs) (h3 : Lits n val zs m S) : QEnd B gb is n0 v0 k w w' ao m c S := ⟨n, cs, val, zs, h1, h2, h3⟩
theorem QEnd.go {B : BT} {gb : Nat} {is : List Int} {n0 : Nat} {v0 : Nat → Bool} {k k1 : Nat} {w w1 w' : World} {ao : Option Addr} {m c : Nat} {S : Nat → Bool} {n : Nat} {cs : List (List Int)} {val : Nat → Bool} (e : QEnd B gb is n val k1 w1 w' ao m c S) (s : Sx B gb is n0 v0 k w w1 n cs val) :
    ∃ n' cs' val' zs, n ≤ n' ∧ Hid (Sx B gb is n0 v0 (k + k1) w w' n' cs' val') ∧ Hid (∀ i, i < n → val' i = val i) ∧ Hid (FG B w1 w') ∧ Hid (TR w' ao m c zs) ∧ Hid (Lits n' val' zs m S) := by
  obtain ⟨n', cs', val', zs, t, h1, h2⟩ := e
  exact ⟨n', cs', val', zs, t.lo, s.on t, t.ag, t.f, h1, h2⟩

theorem TR.drop0 {w : World} {b m c q k : Nat} {xs : List Int} (h : TR w (some ⟨b, 0, none⟩) m c xs) (hk : q + k = m) (hc : k ≤ c) : TR w (some ⟨b, q, none⟩) k k (xs.drop q) := by
  have e : m - q = k := by omega
  have := h.drop (i := q) (c' := k) (by omega) (by omega) hc
  rwa [Nat.zero_add, e] at this

set_option maxHeartbeats 16000000 in
theorem mul_any {B : BT} {gb n : Nat} {cs : List (List Int)} {val : Nat → Bool} {is : List Int} (w : World) (g : Good n cs val is) (h : Gt B gb w n cs) (hn : n ≤ 1000) (ao bo : Option Addr) (m c1 c2 : Nat) (xs ys : List Int) (rx : TR w ao m c1 xs) (ry : TR w bo m c2 ys) (A Bf : Nat → Bool) (X : Lits n val xs m A) (Y : Lits n val ys m Bf) (hm : m ≤ 30) (hm0 : 0 < m) :
    Calls Try.prog 10 #[.pointer (some ⟨gb, 0, none⟩), .slice ao m c1, .slice bo m c2] w fun e w' => ∃ rb c, e = .returned (.slice (some ⟨rb, 0, none⟩) m c) ∧ Hid (QEnd B gb is n val (m + 120 * m) w w' (some ⟨rb, 0, none⟩) m c (mpF A Bf m m)) := by
  have HG := hid g
  have G := hid h
  have RX := hid rx
  have RY := hid ry
  have HX := hid X
  have HY := hid Y
  have hc1 : m ≤ c1 := rx.row.2.1
  have hc2 : m ≤ c2 := ry.row.2.1
  have mc1 := rx.row.2.2.1
  have mc2 := ry.row.2.2.1
  have mx := rx.row.max
  have my := ry.row.max
  obtain ⟨b1, o1, rfl, _⟩ := rx.cells (by omega)
  obtain ⟨b2, o2, rfl, _⟩ := ry.cells (by omega)
  unfold maxLen at mc1 mc2
  clear g h rx ry X Y
  go_enter Try.func10, Try.ntmps10
  go_upto_region 7 with (first
    | (go_at_call 19; with_reducible (refine (rows_yes _ HG.out G.out (by omega) _ _ m c1 c2 xs ys RX.out RY.out A Bf HX.out HY.out (by omega) hm0).mono ?_); rintro e w1 ⟨rfl, hs1⟩; have HS1 := hid hs1.out; clear hs1)
    | (go_at_call 21; with_reducible (refine (mno_any gb _).mono ?_); rintro e w2 ⟨rfl, hb2⟩)
    | (go_at_call 20; with_reducible (refine (repeat_any _ 1 (by omega) m (by omega)).mono ?_); rintro e w3 ⟨tb, rfl, ht, hb3, _⟩))
  obtain ⟨n1, cs1, val1, s1⟩ := HS1.out
  have S1 : Hid (Sx B gb is n val m w w3 n1 cs1 val1) := hid ((s1.below hb2.out).below hb3.out)
  have RX := hid (RX.out.fg S1.out.f)
  have RY := hid (RY.out.fg S1.out.f)
  have HX := hid (HX.out.more S1.out.lo S1.out.ag)
  have HY := hid (HY.out.more S1.out.lo S1.out.ag)
  have TN := hid ht.out
  have N1 : n1 ≤ 1030 := by have := S1.out.hi; omega
  have L0 : Hid (QEnd B gb is n1 val1 (120 * 0) w3 w3 (some ⟨tb, 0, none⟩) m m (mpF A Bf m 0)) := hid (QEnd.mk (Sx.start S1.out.g S1.out.h) ht.out ((lits_no S1.out.g m).as (fun j hj => (mp_zero A Bf m j).symm)))
  clear s1 HS1 hb2 hb3 ht
  go_loopw [8, 10, 11, 12, 13, 29] (fun rv _ _ _ _ i wr => ∃ q : Nat, q ≤ m ∧ i = .int .i64 q ∧ ∃ rb c, rv = .slice (some ⟨rb, 0, none⟩) m c ∧ Hid (QEnd B gb is n1 val1 (120 * q) w3 wr (some ⟨rb, 0, none⟩) m c (mpF A Bf m q))) (fun _ _ _ _ _ i _ => m - (intOf i).toNat)
  case atStart => exact ⟨0, Nat.zero_le _, rfl, tb, m, rfl, L0⟩
  case round =>
    clear L0
    obtain ⟨q, hq, rfl, rb, c, rfl, hst⟩ := hrel
    obtain ⟨n2, cs2, val2, zs, sx, tz, lz⟩ := hst.out
    have S := hid sx
    have TZ := hid tz
    have LZ := hid lz
    have hcz : m ≤ c := tz.row.2.1
    have mcz := tz.row.2.2.1
    unfold maxLen at mcz
    clear sx tz lz hst
    by_cases hlt : q < m
    · have hlt' : (q : Int) < m := by omega
      obtain ⟨bz, oz, e, cy⟩ := RY.out.cells (by omega)
      cases e
      obtain ⟨yq, hyq, ryq, vyq⟩ := HY.out.at (j := q) (by omega)
      have Ryq := hid ryq
      have Vyq := hid vyq
      have cq := cy B wr S.out.f _ _ hyq
      obtain ⟨k, hk⟩ : ∃ k, k = m - q := ⟨_, rfl⟩
      have e1 : (m : Int) - q = (k : Int) := by omega
      have e2 : IntKind.i64.wrap (k : Int) = (k : Int) := IntWalk.i64_in _ (by omega)
      have p1 : (0 : Int) ≤ k := by omega
      have p2 : (k : Int) ≤ c1 := by omega
      have p3 : (k : Int) ≤ m := by omega
      have p4 : (0 : Int) ≤ q := by omega
      have p5 : (q : Int) ≤ m := by omega
      have p6 : (q : Int) ≤ c := by omega
      have p7 : (m : Int) ≤ c := by omega
      have k0 : 0 < k := by omega
      have km : k ≤ m := by omega
      have HK : Hid (q + k = m) := hid (by omega)
      have TA : Hid (TR w3 (some ⟨b1, o1, none⟩) k k (xs.take k)) := hid ((RX.out.take km).full (Nat.le_refl _) (by omega) (fun e => by simp at e))
      have TB : Hid (TR w3 (some ⟨tb, 0, none⟩) k k ((List.replicate m 1).take k)) := hid ((TN.out.take km).full (Nat.le_refl _) (by omega) (fun e => by simp at e))
      have LA := hid (HX.out.take km)
      have LB := hid ((lits_no S1.out.g m).take km)
      have hne : ¬ m = q := by omega
      have hmq : m - q = k := by omega
      have TQ := hid (TZ.out.drop0 HK.out (by omega))
      have TL : Hid (TR wr (some ⟨rb, 0, none⟩) q q (zs.take q)) := hid ((TZ.out.take hq).full (Nat.le_refl _) (by omega) (fun e => by simp at e))
      have LQ : Hid (Lits n2 val2 (zs.drop q) k (fun j => mpF A Bf m q (q + j))) := hid (by
        have := LZ.out.drop hq
        rwa [hmq] at this)
      have LL := hid (LZ.out.take hq)
      clear hyq ryq vyq cy hk
      go_wp2
      go_region_held3 (fun W => True) (exact trivial) (first
        | (go_at_call 22; with_reducible (refine (aite_any _ S.out.g (S.out.h.below (below_drew _)) (by have := S.out.hi; omega) yq (rng_more Ryq.out S.out.lo) (Bf q) ((hd_agree S.out.ag Ryq.out).trans Vyq.out) _ _ k k k _ _ ((TA.out.fg S.out.f).below (below_drew _)) ((TB.out.fg S.out.f).below (below_drew _)) A (fun _ => false) (LA.out.more S.out.lo S.out.ag) (LB.out.more S.out.lo S.out.ag) (by omega) k0).mono ?_); rintro e w5 ⟨pb, rfl, hr⟩; obtain ⟨n5, cs5, val5, zs5, lo5, S5, ag5, F5, T5, L5⟩ := hr.out.go (S.out.below (below_drew _)); clear hr))
      go_wp2
      go_region_held3 (fun W => True) (exact trivial) (first
        | (go_at_call 23; with_reducible (refine (radd_any _ S5.out.g (S5.out.h.below (below_drew _)) (by have := S5.out.hi; omega) _ _ k k k _ _ (((TQ.out.below (below_drew _)).fg F5.out).below (below_drew _)) (T5.out.below (below_drew _)) (fun j => mpF A Bf m q (q + j)) (itF (Bf q) A (fun _ => false)) (LQ.out.more lo5 ag5.out) L5.out (by omega) k0).mono ?_); rintro e w6 ⟨sb, rfl, hr⟩; obtain ⟨n6, cs6, val6, zs6, lo6, S6, ag6, F6, T6, L6⟩ := hr.out.go (S5.out.below (below_drew _)); clear hr)
        | (refine step_full rfl (.tmp 51) (.tmp 59) rfl ⟨rb, 0, none⟩ q (zs.take q) (by first | rfl | (simp; done) | (simp [go_sem]; done)) ((((TL.out.below (below_drew _)).fg F5.out).below (below_drew _)).fg F6.out).row ⟨sb, 0, none⟩ k k zs6 (by first | rfl | (simp; done) | (simp [go_sem]; done)) T6.out.row k0 (by omega) ?_; intro g7 c7 w7 tr7 hb7; have T7 := hid tr7.out; have S7 := hid (S6.out.below hb7.out)))
      have LN : Hid (Lits n6 val6 (zs.take q ++ zs6) (q + k) (mpF A Bf m (q + 1))) := hid ((((LL.out.more lo5 ag5.out).more lo6 ag6.out).app L6.out).as (fun j hj => mp_step A Bf m q hlt j (by have := HK.out; omega)))
      have QE : Hid (QEnd B gb is n1 val1 (120 * (q + 1)) w3 w7 (some ⟨g7, 0, none⟩) m c7 (mpF A Bf m (q + 1))) := hid (by
        have t7 := T7.out
        have l7 := LN.out
        rw [HK.out] at t7 l7
        exact QEnd.mk (S7.out.mono (by omega)) t7 l7)
      go_wp2
      go_roundw
      case rel => exact ⟨q + 1, by omega, by go_num, _, _, by rw [HK.out], QE⟩
      case measure => simp only [intOf]; omega
    · have hqm : q = m := by omega
      subst hqm
      have RE := hid (QEnd.mk (S1.out.on S.out) TZ.out LZ.out)
      go_wp2
      go_ret
      exact ⟨_, _, rfl, RE⟩

end Go.Proofs.Ytplhlfmibeennaa
