/-
  Divide.
-/
import Derived.Test.YtplhlfmibeennaaMu
namespace Go.Proofs.Ytplhlfmibeennaa
open Go.RowKit
set_option linter.unusedVariables false

theorem own_one (w : World) (y : Int) (hy : -9223372036854775808 ≤ y ∧ y ≤ 9223372036854775807) : Own (w.alloc (.cells #[.int .i64 y] 3)) w.heap.size (.slice (some ⟨w.heap.size, 0, none⟩) 1 1) [y] := by
  refine ⟨⟨rfl, .inr ⟨w.heap.size, 1, #[.int .i64 y], rfl, Nat.le_refl _, new_same w _, Nat.le_refl _, by unfold maxLen; omega, rfl, ?_⟩⟩, fun x hx => by rw [List.mem_singleton] at hx; subst hx; exact hy⟩
  rfl
theorem lits_yes {n : Nat} {cs : List (List Int)} {val : Nat → Bool} {is : List Int} (g : Good n cs val is) (m : Nat) : Lits n val (List.replicate m 0) m (fun _ => true) := by
  refine ⟨by simp, fun x hx => ?_, fun j x hx => ?_⟩
  · rw [(List.mem_replicate.1 hx).2]; exact rng_zero g.pos
  · rw [(List.mem_replicate.1 (List.mem_of_getElem? hx)).2]; exact hd_zero g
theorem Ms.zero {B : BT} {gb : Nat} {is : List Int} {w : World} {n : Nat} {cs : List (List Int)} {val : Nat → Bool} {m : Nat} (g : Good n cs val is) (h : Gt B gb w n cs) : Ms B gb is n val 0 w (w.alloc (.cells (rC m) 3)) n cs val w.heap.size m (List.replicate m 0) (fun _ => true) :=
  ⟨⟨Nat.le_refl _, Nat.le_refl _, g, fun _ _ => rfl, h.take _, FG.below ((Below.refl _ _).alloc (Nat.le_refl _) _)⟩, Mr.new w m, Nat.le_refl _, lits_yes g m⟩
theorem Lits.con {n : Nat} {val : Nat → Bool} {x : Int} {zs : List Int} {s : Nat} {b : Bool} {R : Nat → Bool} (hx : rng n x) (hb : hd val x = b) (l : Lits n val zs s R) : Lits n val ([x] ++ zs) (1 + s) (conF b R) := by
  have l1 : Lits n val [x] 1 (fun _ => b) := ⟨rfl, fun y hy => by rw [List.mem_singleton] at hy; subst hy; exact hx, fun j y hy => by
    have := List.mem_of_getElem? hy
    rw [List.mem_singleton] at this; subst this; exact hb⟩
  refine (l1.app l).as (fun j hj => ?_)
  cases j with
  | zero => rfl
  | succ j => simp [conF]
theorem TR.aside {w : World} {rb c m qb i : Nat} {zs : List Int} (h : TR w (some ⟨rb, 0, none⟩) m c zs) (ne : rb ≠ qb) (v : Value) : TR (w.setCell ⟨qb, i, none⟩ v) (some ⟨rb, 0, none⟩) m c zs := by
  obtain ⟨r, t⟩ := h
  have e : (w.setCell ⟨qb, i, none⟩ v).heap[rb]? = w.heap[rb]? := Below.heap_setCell w ⟨qb, i, none⟩ v rb ne
  refine ⟨⟨r.1, r.2.1, r.2.2.1, r.2.2.2.1, r.2.2.2.2.1, fun h0 => ?_⟩, fun h0 => ?_⟩
  · obtain ⟨b2, o2, e2, hc⟩ := r.2.2.2.2.2 h0
    simp only [Option.some.injEq, Addr.mk.injEq, and_true] at e2
    obtain ⟨rfl, rfl⟩ := e2
    exact ⟨_, _, rfl, fun j hj => (World.cell?_of_block e).trans (hc j hj)⟩
  · obtain ⟨b2, o2, e2, ht, hn⟩ := t h0
    simp only [Option.some.injEq, Addr.mk.injEq, and_true] at e2
    obtain ⟨rfl, rfl⟩ := e2
    exact ⟨_, _, rfl, ht.same e, hn⟩

/-- The quotient's bits that are known behind so many steps. -/
def qsF (A Bf : Nat → Bool) (m s j : Nat) : Bool := decide (j < m - s) || quF A Bf m j

/-- What holds between the steps. -/
def DSt (B : BT) (gb : Nat) (is : List Int) (n0 : Nat) (v0 : Nat → Bool) (w wr : World) (qb m s : Nat) (ro : Option Addr) (rc : Nat) (A Bf : Nat → Bool) : Prop :=
  ∃ n cs val zq zr, Ms B gb is n0 v0 (120 * s) w wr n cs val qb m zq (qsF A Bf m s) ∧ TR wr ro s rc zr ∧ Lits n val zr s (reF A Bf m s)

/-- A quotient and a rest were made. -/
def DEnd (B : BT) (gb : Nat) (is : List Int) (n0 : Nat) (v0 : Nat → Bool) (k : Nat) (w w' : World) (qb m : Nat) (ro : Option Addr) (rc : Nat) (Q R : Nat → Bool) : Prop :=
  ∃ n cs val zq zr, Sx B gb is n0 v0 k w w' n cs val ∧ TR w' (some ⟨qb, 0, none⟩) m m zq ∧ Lits n val zq m Q ∧ TR w' ro m rc zr ∧ Lits n val zr m R
theorem DEnd.go {B : BT} {gb : Nat} {is : List Int} {n0 : Nat} {v0 : Nat → Bool} {k k1 : Nat} {w w1 w' : World} {qb m : Nat} {ro : Option Addr} {rc : Nat} {Q R : Nat → Bool} {n : Nat} {cs : List (List Int)} {val : Nat → Bool} (e : DEnd B gb is n val k1 w1 w' qb m ro rc Q R) (s : Sx B gb is n0 v0 k w w1 n cs val) :
    ∃ n' cs' val' zq zr, n ≤ n' ∧ Hid (Sx B gb is n0 v0 (k + k1) w w' n' cs' val') ∧ Hid (∀ i, i < n → val' i = val i) ∧ Hid (FG B w1 w') ∧ Hid (TR w' (some ⟨qb, 0, none⟩) m m zq) ∧ Hid (Lits n' val' zq m Q) ∧ Hid (TR w' ro m rc zr) ∧ Hid (Lits n' val' zr m R) := by
  obtain ⟨n', cs', val', zq, zr, t, h1, h2, h3, h4⟩ := e
  exact ⟨n', cs', val', zq, zr, t.lo, s.on t, t.ag, t.f, h1, h2, h3, h4⟩

theorem tk_is (A Bf : Nat → Bool) (m s : Nat) (hs : s < m) : tkB (rnF A Bf m s) Bf (s + 1) (abF Bf m (s + 1)) = quF A Bf m (m - (s + 1)) := by
  rw [qu_step A Bf m s hs, tk_eq]
  exact step_is (rnF A Bf m s) Bf m (s + 1) (by omega) _ (df_eq _ _ _)
theorem lf_is (A Bf : Nat → Bool) (m s : Nat) (hs : s < m) (j : Nat) (hj : j < s + 1) : lfF (rnF A Bf m s) Bf (s + 1) (abF Bf m (s + 1)) j = reF A Bf m (s + 1) j := by
  have h1 := step_is (rnF A Bf m s) Bf m (s + 1) (by omega) _ (df_eq _ _ _)
  have h2 := step_left (rnF A Bf m s) Bf m (s + 1) (by omega) _ (df_eq _ _ _) _ (re_step A Bf m s hs) j hj
  have h3 : tkB (rnF A Bf m s) Bf (s + 1) (abF Bf m (s + 1)) = decide (nvF Bf m ≤ nvF (rnF A Bf m s) (s + 1)) := h1
  show iteB (tkB (rnF A Bf m s) Bf (s + 1) (abF Bf m (s + 1))) (dfF (rnF A Bf m s) Bf (s + 1) j) (rnF A Bf m s j) = reF A Bf m (s + 1) j
  rw [h3]
  exact h2

set_option maxHeartbeats 16000000 in
theorem divide_any {B : BT} {gb n : Nat} {cs : List (List Int)} {val : Nat → Bool} {is : List Int} (w : World) (g : Good n cs val is) (h : Gt B gb w n cs) (hn : n ≤ 1000) (ao bo : Option Addr) (m c1 c2 : Nat) (xs ys : List Int) (rx : TR w ao m c1 xs) (ry : TR w bo m c2 ys) (A Bf : Nat → Bool) (X : Lits n val xs m A) (Y : Lits n val ys m Bf) (hm : m ≤ 20) (hm0 : 0 < m) :
    Calls Try.prog 14 #[.pointer (some ⟨gb, 0, none⟩), .slice ao m c1, .slice bo m c2] w fun e w' => ∃ qb ro rc, e = .returned (.tuple #[.slice (some ⟨qb, 0, none⟩) m m, .slice ro m rc]) ∧ Hid (DEnd B gb is n val (m + m + 120 * m) w w' qb m ro rc (quF A Bf m) (reF A Bf m m)) := by
  have HG := hid g
  have G := hid h
  have RX := hid rx
  have RY := hid ry
  have HX := hid X
  have HY := hid Y
  have hc1 : m ≤ c1 := rx.row.2.1
  have hc2 : m ≤ c2 := ry.row.2.1
  have mc1 := rx.row.2.2.1
  have mc2 := ry.row.2.2.1
  have mx := rx.row.max
  have my := ry.row.max
  obtain ⟨b1, o1, rfl, _⟩ := rx.cells (by omega)
  obtain ⟨b2, o2, rfl, _⟩ := ry.cells (by omega)
  unfold maxLen at mc1 mc2
  obtain ⟨M, hM⟩ : ∃ M, M = m + 1 := ⟨_, rfl⟩
  have HM := hid hM
  obtain ⟨p0, hp0⟩ : ∃ p, p = m - 1 := ⟨_, rfl⟩
  have e1 : (m : Int) - 1 = (p0 : Int) := by omega
  have e2 : IntKind.i64.wrap (p0 : Int) = (p0 : Int) := IntWalk.i64_in _ (by omega)
  have k1 : p0 < m := by omega
  have k2 : m ≤ p0 + 1 := by omega
  have k3 : m < M := by omega
  have k4 : M ≤ m + 1 := by omega
  have hmk := fun w => makeR m (by omega) w
  clear g h rx ry X Y hM hp0
  go_enter Try.func14, Try.ntmps14
  go_upto_region 5 with (first
    | (go_at_call 19; with_reducible (refine (rows_yes _ HG.out G.out (by omega) _ _ m c1 c2 xs ys RX.out RY.out A Bf HX.out HY.out (by omega) hm0).mono ?_); rintro e w1 ⟨rfl, hs1⟩; have HS1 := hid hs1.out; clear hs1; obtain ⟨n1, cs1, val1, s1⟩ := HS1.out; have S1 : Hid (Sx B gb is n val m w w1 n1 cs1 val1) := hid s1; clear s1 HS1)
    | (go_at_call 34; with_reducible (refine (above_any _ S1.out.g S1.out.h (by have := S1.out.hi; omega) _ m c2 ys (RY.out.fg S1.out.f) Bf (HY.out.more S1.out.lo S1.out.ag) (by omega) hm0 M HM.out).mono ?_); rintro e w2 ⟨pb, rfl, hr⟩; obtain ⟨n2, cs2, val2, zp, lo2, S2, ag2, F2, TP, LP0⟩ := hr.out.go S1.out; clear hr))
  have RX := hid (RX.out.fg S2.out.f)
  have RY := hid (RY.out.fg S2.out.f)
  have HX := hid (HX.out.more S2.out.lo S2.out.ag)
  have HY := hid (HY.out.more S2.out.lo S2.out.ag)
  have N2 : n2 ≤ 1060 := by have := S2.out.hi; omega
  have L0 : Hid (DSt B gb is n2 val2 w2 (w2.alloc (.cells (rC m) 3)) w2.heap.size m 0 none 0 A Bf) := hid ⟨_, _, _, _, [], ((Ms.zero S2.out.g S2.out.h).mono (by omega)).as (fun j hj => by
    simp [qsF, hj]), ⟨row_none _, fun h0 => by omega⟩, ⟨rfl, fun x hx => by simp at hx, fun j x hx => by simp at hx⟩⟩
  go_wp2
  go_loopw [11, 12, 13] (fun rv iv _ wr => ∃ (i : Int) (s : Nat), iv = .int .i64 i ∧ -1 ≤ i ∧ i + s < m ∧ m ≤ i + s + 1 ∧ ∃ ro rc, rv = .slice ro s rc ∧ Hid (DSt B gb is n2 val2 w2 wr w2.heap.size m s ro rc A Bf)) (fun _ iv _ _ => (intOf iv + 1).toNat)
  case atStart => exact ⟨p0, 0, rfl, by omega, by omega, by omega, none, 0, rfl, L0⟩
  case round =>
    clear L0 hmk e1 e2 k1 k2
    obtain ⟨iv, s, rfl, i0, i1, i2, ro, rc, rfl, hst⟩ := hrel
    obtain ⟨n3, cs3, val3, zq, zr, ms, tz, lz⟩ := hst.out
    have LP := hid ms
    have TZ := hid tz
    have LZ := hid lz
    clear ms tz lz hst
    by_cases hlt : 0 ≤ iv
    · obtain ⟨p, rfl⟩ : ∃ p : Nat, iv = p := ⟨iv.toNat, by omega⟩
      have hpm : p < m := by omega
      have hpm' : (p : Int) < m := by omega
      have hsm : s < m := by omega
      have HPS : Hid (p = m - (s + 1)) := hid (by omega)
      obtain ⟨bz, oz, e, cx⟩ := RX.out.cells (by omega)
      cases e
      obtain ⟨xp, hxp, rxp, vxp⟩ := HX.out.at (j := p) (by omega)
      have Rxp := hid (rng_more rxp LP.out.s.lo)
      have Vxp := hid ((hd_agree LP.out.s.ag rxp).trans vxp)
      have cp := cx _ wr LP.out.s.f _ _ hxp
      have fxp := rng_fit Rxp.out (by have := LP.out.s.hi; omega)
      clear hxp rxp vxp cx
      obtain ⟨N, hN⟩ : ∃ N, N = ([xp] ++ zr).length := ⟨_, rfl⟩
      have HN := hid hN
      have hNs : N = s + 1 := by rw [hN]; simp [LZ.out.len]
      have HNs := hid hNs
      have n0 : 0 < N := by omega
      have nm : N ≤ m := by omega
      have n1 : s < N := by omega
      clear hN hNs
      go_upto_region 11 with (at_builtin; refine append_ints rfl (.tmp 36) (.tmp 37) rfl wr.heap.size _ [xp] zr rfl (own_one wr xp fxp) ro s rc rfl ((TZ.out.below (new_a wr _)).row) (by simp; omega) (new_a wr _).size ?_; intro v5 w5 own5 hb5; obtain ⟨h5, c5, ev5, t5⟩ := own5.out.trow (T := fun _ => False) (fun b hb => hb.elim); rw [← HN.out] at ev5 t5; subst ev5; have T5 : Hid (TR w5 h5 N c5 ([xp] ++ zr)) := hid t5; have B5 := hid ((new_a wr _).trans hb5.out); clear own5 hb5 t5)
      have LP5 := hid (LP.out.below B5.out)
      obtain ⟨tN, htN, rtN, vtN⟩ := LP0.out.at (j := N) (by omega)
      have RT := hid (rng_more rtN LP5.out.s.lo)
      have VT : Hid (hd val3 tN = abF Bf m N) := hid (by rw [hd_agree LP5.out.s.ag rtN, vtN]; simp [upF, n0])
      have SKt : Hid (∀ W, FG (B.and w2.heap.size) w2 W → W.cell? ⟨pb, N, none⟩ = some (.int .i64 tN)) := hid (fun W f => (TP.out.fg f).get htN)
      have LR : Hid (Lits n3 val3 ([xp] ++ zr) N (rnF A Bf m s)) := hid (by
        rw [HNs.out, Nat.add_comm s 1]; unfold rnF; rw [← HPS.out]; exact Lits.con Rxp.out Vxp.out LZ.out)
      have RYN := hid ((RY.out.fg LP5.out.s.f).take nm)
      have LYN := hid ((HY.out.more LP5.out.s.lo LP5.out.s.ag).take nm)
      have q1 : (0 : Int) ≤ N := by omega
      have q2 : (N : Int) ≤ c2 := by omega
      have q3 : (N : Int) < M := by omega
      have q4 : (0 : Int) ≤ p := by omega
      have f8 : IntKind.i64.wrap ((p : Int) - 1) = (p : Int) - 1 := IntWalk.i64_in _ (by omega)
      clear htN rtN vtN cp
      go_wp2
      go_region_held3 (fun W => W.cell? ⟨pb, N, none⟩ = some (.int .i64 tN)) (first | exact SKt.out _ LP5.out.s.f.drew | exact SKt.out _ LP7.out.s.f | exact SKt.out _ (LP7.out.s.f.put (Nat.le_refl _) _ _)) (first
        | (go_at_call 35; with_reducible (refine (take_any _ LP5.out.s.g (LP5.out.s.h.below (below_drew _)) (by have := LP5.out.s.hi; omega) h5 _ N c5 c2 _ _ (T5.out.below (below_drew _)) (RYN.out.below (below_drew _)) (rnF A Bf m s) Bf LR.out LYN.out tN RT.out (abF Bf m N) VT.out (by omega) n0).mono ?_); rintro e w7 ⟨y7, r7, rfl, hend⟩; obtain ⟨n7, cs7, val7, zs7, S7, RY7, VY7, T7, L7, NB7⟩ := hend.out.go; clear hend; have LP7 := hid ((LP5.out.below (below_drew _)).on S7.out); obtain ⟨zc, cz⟩ := LP7.out.r.cell hpm; have fz := LP7.out.r.frozen p))
      have HV : Hid (hd val7 y7 = qsF A Bf m (s + 1) p) := hid (by
        rw [VY7.out, HNs.out, tk_is A Bf m s hsm, ← HPS.out]
        have : ¬ p < m - (s + 1) := by have := HPS.out; omega
        simp [qsF, this])
      have LP8 := hid (LP7.out.put (S' := qsF A Bf m (s + 1)) hpm RY7.out HV.out (fun j hj hne => by
        have := HPS.out
        unfold qsF
        by_cases hj2 : j < m - (s + 1)
        · have h3 : j < m - s := by omega
          simp [hj2, h3]
        · have h3 : ¬ j < m - s := by omega
          simp [hj2, h3]))
      have T8 := hid (T7.out.aside (qb := w2.heap.size) (i := p) (by
        have h1 := LP5.out.r.lt
        have h2 : w5.heap.size ≤ r7 := NB7
        omega) (.int .i64 y7))
      have QS : Hid (DSt B gb is n2 val2 w2 (w7.setCell ⟨w2.heap.size, p, none⟩ (.int .i64 y7)) w2.heap.size m (s + 1) (some ⟨r7, 0, none⟩) N A Bf) := hid (by
        have t8 := T8.out
        have l8 := L7.out
        have m8 := LP8.out.mono (k' := 120 * (s + 1)) (by have := HNs.out; omega)
        rw [HNs.out] at t8 l8 ⊢
        exact ⟨_, _, _, _, zs7, m8, t8, l8.as (fun j hj => lf_is A Bf m s hsm j hj)⟩)
      go_wp2
      go_roundw
      case rel => exact ⟨(p : Int) - 1, s + 1, by go_num, by omega, by omega, by omega, _, _, by rw [HNs.out], QS⟩
      case measure => simp only [intOf]; omega
    · have hqm : s = m := by omega
      subst hqm
      have RE : Hid (DEnd B gb is n val (s + s + 120 * s) w wr w2.heap.size s ro rc (quF A Bf s) (reF A Bf s s)) := hid (by
        obtain ⟨h1, h2, h3⟩ := LP.out.end (by omega) (by have := LP.out.s.hi; omega)
        exact ⟨n3, cs3, val3, zq, zr, S2.out.on h1, h2, h3.as (fun j hj => by simp [qsF]), TZ.out, LZ.out⟩)
      go_wp2
      go_ret2
      exact ⟨_, _, _, rfl, RE⟩

end Go.Proofs.Ytplhlfmibeennaa
