/-
  The walk of ArithMeans.
-/
import Derived.Test.YtmjnepmgjolndaaBd
namespace Go.Proofs.Ytmjnepmgjolndaa
open Go.RowKit
set_option linter.unusedVariables false

/-! ### the words of rows -/
section
variable (m : Nat) (h1 : 1 ≤ m) (h2 : m ≤ 64) (a b : Int) (a0 : 0 ≤ a) (b0 : 0 ≤ b)
include h1 h2

theorem nv_of (a : Int) (a0 : 0 ≤ a) : nvF (fun j => Wd.bitB a j) m = Wd.cutF m a := by rw [nv_bits a a0, Wd.cut_yes m a h1 h2]

include a0 b0
theorem mean_add : nvF (smF false (fun j => Wd.bitB a j) (fun j => Wd.bitB b j)) m = Wd.cutF m (opF 1 m a b) := by
  rw [nv_add m h1 h2, nv_of m h1 h2 a a0, nv_of m h1 h2 b b0, opF, Wd.cut_cut]
theorem mean_sub : nvF (smF true (fun j => Wd.bitB a j) (noF (fun j => Wd.bitB b j))) m = Wd.cutF m (opF 2 m a b) := by
  rw [nv_sub m h1 h2, nv_of m h1 h2 a a0, nv_of m h1 h2 b b0, opF, Wd.cut_cut]
theorem mean_eq : opF 12 m a b = Wd.b01 (eqF (fun j => Wd.bitB a j) (fun j => Wd.bitB b j) m) := by
  rw [nv_eq m h1 h2, nv_of m h1 h2 a a0, nv_of m h1 h2 b b0, opF]
theorem mean_ult : opF 13 m a b = Wd.b01 (lsF (fun j => Wd.bitB a j) (fun j => Wd.bitB b j) m) := by
  rw [nv_ult m h1 h2, nv_of m h1 h2 a a0, nv_of m h1 h2 b b0, opF]
theorem mean_slt : opF 14 m a b = Wd.b01 (slF (fun j => Wd.bitB a j) (fun j => Wd.bitB b j) m) := by
  rw [nv_slt m h1 h2, nv_of m h1 h2 a a0, nv_of m h1 h2 b b0, opF]
theorem mean_ite (c : Bool) : nvF (itF c (fun j => Wd.bitB a j) (fun j => Wd.bitB b j)) m = Wd.cutF m (if c then a else b) := by
  cases c
  · show _ = Wd.cutF m b
    rw [← nv_of m h1 h2 _ b0]; exact nv_congr (fun j _ => by simp [itF, iteB])
  · show _ = Wd.cutF m a
    rw [← nv_of m h1 h2 _ a0]; exact nv_congr (fun j _ => by simp [itF, iteB])
end

theorem mean_neg (m : Nat) (h1 : 1 ≤ m) (h2 : m ≤ 64) (a : Int) (a0 : 0 ≤ a) : nvF (smF true (fun _ => false) (noF (fun j => Wd.bitB a j))) m = Wd.cutF m (IntKind.u64.wrap (-a)) := by
  rw [nv_sub m h1 h2, nv_zero, nv_of m h1 h2 a a0, Wd.cut_wrap]
  have r : Wd.rawF 2 m 0 (Wd.cutF m a) = 0 - Wd.cutF m a := by simp [Wd.rawF]
  rw [r, Wd.cut_yes m _ h1 h2, Wd.cut_yes m _ h1 h2, Wd.cut_yes m _ h1 h2, show -a = 0 - a by omega, Int.sub_emod 0 (a % 2 ^ m), Int.sub_emod 0 a, Int.emod_emod]

theorem RwEnd.get {B : BT} {gb : Nat} {wE w' : World} {x : Int} {is0 : List Int} {n0 : Nat} {v0 : Nat → Bool} {m : Nat} {ao ho : Option Addr} {c1 l2 c2 : Nat} (h : RwEnd B gb wE w' x is0 n0 v0 m ao ho c1 l2 c2) :
    ∃ (xs hs : List Int) (n : Nat) (cs : List (List Int)) (val : Nat → Bool) (is : List Int), n0 ≤ n ∧ n ≤ n0 + m ∧ Hid (Good n cs val is) ∧ Hid (∀ i, i < n0 → val i = v0 i) ∧ Hid (Gt B gb w' n cs) ∧ Hid (FG B wE w') ∧ Hid (TR w' ao m c1 xs) ∧ Hid (TR w' ho l2 c2 hs) ∧ l2 ≤ m ∧ Hid (Lits n val xs m (fun j => Wd.bitB x j)) ∧ Hid (∀ y ∈ hs, rng n y ∧ hd val y = true) ∧ Hid (∀ y ∈ is, y ∈ is0 ∨ ∃ z ∈ hs, (z / 2).toNat = (y / 2).toNat) := by
  obtain ⟨xs, hs, n, cs, val, is, h1, h2, h3, h4, h5, h6, h7, h8, h9, ha, hb, hc⟩ := h
  exact ⟨xs, hs, n, cs, val, is, h1, h2, h3, h4, h5, h6, h7, h8, h9, ha, hb, hc⟩

theorem op_bd (op m a b : Int) : 0 ≤ opF op m a b ∧ opF op m a b < 18446744073709551616 := Wd.cut_bd _ _

set_option maxRecDepth 20000 in
set_option maxHeartbeats 16000000 in
theorem means_walk (D0 : Cs) (a1 : Bool) (w : World) (w0 : CsFt D0) :
    Calls Try.prog 3 #[.agg #[.int .i64 D0.W, .int .u64 D0.A, .int .u64 D0.B, .int .u64 D0.I], .bool a1] w fun e w' => e = .returned (.bool true) ∧ Below w.heap.size w w' := by
  obtain ⟨cw, ca, cb, ci⟩ := D0
  obtain ⟨fw, fa, fb, fi⟩ := w0
  simp only [] at fw fa fb fi
  have bb := hid (new_a w (.cells #[.int .i64 cw, .int .u64 ca, .int .u64 cb, .int .u64 ci] 24))
  by_cases hW : 1 ≤ cw ∧ cw ≤ 64
  · obtain ⟨m, rfl⟩ : ∃ m : Nat, cw = m := ⟨cw.toNat, by omega⟩
    have m1 : 1 ≤ m := by omega
    have m2 : m ≤ 64 := by omega
    have m0n : 0 < m := by omega
    have BX : Hid ((w.alloc (.cells #[.int .i64 m, .int .u64 ca, .int .u64 cb, .int .u64 ci] 24)).heap[w.heap.size]? = some (.cells #[.int .i64 m, .int .u64 ca, .int .u64 cb, .int .u64 ci] 24 (0, 0))) := hid (new_same _ _)
    clear hW fw
    go_enter Try.func3, Try.ntmps3
    go_upto_region 6 with (first
      | (go_at_call 5; with_reducible (refine (case_yes _ ca cb ci _ (by omega) (by omega)).mono ?_); rintro e w3 ⟨rfl, hb3⟩; have BX := hid ((hb3.out.block _ (blk_lt BX.out)).trans BX.out); have b3 := hid (Below.next bb.out hb3.out))
      | (go_at_call 7; with_reducible (refine (new_any _).mono ?_); rintro e w4 ⟨gb, rfl, G, F⟩; have BX := hid ((F.out.block _ 24 (typ_of BX.out) (by decide) (by decide)).trans BX.out)))
    have KE : Hid (∀ W, FG ⟨w3.heap.size, fun _ => False⟩ w4 W → W.cell? ⟨w.heap.size, 0, none⟩ = some (.int .i64 m) ∧ W.cell? ⟨w.heap.size, 1, none⟩ = some (.int .u64 ca) ∧ W.cell? ⟨w.heap.size, 2, none⟩ = some (.int .u64 cb) ∧ W.cell? ⟨w.heap.size, 3, none⟩ = some (.int .u64 ci)) := hid (fun W f => by
      have h := (f.block _ 24 (typ_of BX.out) (by decide) (by decide)).trans BX.out
      exact ⟨by rw [cell_of h]; rfl, by rw [cell_of h]; rfl, by rw [cell_of h]; rfl, by rw [cell_of h]; rfl⟩)
    obtain ⟨e0, e1, e2, e3⟩ := KE.out _ (FG.refl _)
    go_upto_region 8 with (first
      | (go_at_call 8; with_reducible (refine (row_any _ Good.start G.out (by omega) m m2 ca ci fa.1 fa.2 fi.1 fi.2).mono ?_); rintro e w5 ⟨ao, c1, ho1, l1, d1, rfl, hr⟩; obtain ⟨xs, hs1, n1, cs1, val1, is1, lo1, hi1, g1, ag1, G1, F1, ta, th1, hl1, la, hh1, hcv1⟩ := hr.out.get; obtain ⟨e0, e1, e2, e3⟩ := KE.out _ F1.out; clear hr)
      | (go_at_call 8; with_reducible (refine (row_any _ g1.out G1.out (by omega) m m2 cb _ fb.1 fb.2 (Wd.bits_bd _ _ _).1 (Wd.bits_bd _ _ _).2).mono ?_); rintro e w6 ⟨bo, c2, ho2, l2, d2, rfl, hr⟩; obtain ⟨ys, hs2, n2, cs2, val2, is2, lo2, hi2, g2, ag2, G2, F2, tb, th2, hl2, lb, hh2, hcv2⟩ := hr.out.get; clear hr))
    have S0 := hid (Sx.start g2.out G2.out)
    have S := S0
    have TA := hid (ta.out.fg F2.out)
    have TB := hid tb.out
    have LA := hid (la.out.more lo2 ag2.out)
    have LB := hid lb.out
    have TH1 := hid (th1.out.fg F2.out)
    have TH2 := hid th2.out
    have HH : Hid (∀ y ∈ hs1 ++ hs2, rng n2 y ∧ hd val2 y = true) := hid (fun y hy => by
      rcases List.mem_append.1 hy with hy | hy
      · obtain ⟨r1, r2⟩ := hh1.out y hy
        exact ⟨rng_more r1 lo2, by rw [hd_agree ag2.out r1]; exact r2⟩
      · exact hh2.out y hy)
    have HI : Hid (∀ y ∈ is2, ∃ z ∈ hs1 ++ hs2, (z / 2).toNat = (y / 2).toNat) := hid (fun y hy => by
      rcases hcv2.out y hy with hy | ⟨z, hz, e⟩
      · rcases hcv1.out y hy with hy | ⟨z, hz, e⟩
        · simp at hy
        · exact ⟨z, by simp [hz], e⟩
      · exact ⟨z, by simp [hz], e⟩)
    have FW := hid (F1.out.trans F2.out)
    have nb2 : n2 ≤ 200 := by omega
    clear ta tb th1 th2 la lb hh1 hh2 hcv1 hcv2 g1 G1 F1 g2 G2 F2 ag1 ag2 lo1 lo2 hi1 hi2
    obtain ⟨e0, e1, e2, e3⟩ := KE.out _ FW.out
    go_upto_region 12 with (first
        | (go_at_call 9; with_reducible (refine (radd_any _ S.out.g S.out.h (by have := S.out.hi; omega) _ _ m c1 c2 xs ys (TA.out.fg S.out.f) (TB.out.fg S.out.f) _ _ (LA.out.more S.out.lo S.out.ag) (LB.out.more S.out.lo S.out.ag) (by omega) m0n).mono ?_); rintro e w10 ⟨b10, rfl, hr⟩; obtain ⟨n10, cs10, val10, zs10, lo10, S, ag10, F10, T10, L10⟩ := hr.out.go S.out; have RS := hid (Rd.mk T10.out L10.out); clear hr T10 L10 F10)
        | (go_at_call 10; with_reducible (refine (sub_any _ S.out.g S.out.h (by have := S.out.hi; omega) _ _ m c1 c2 xs ys (TA.out.fg S.out.f) (TB.out.fg S.out.f) _ _ (LA.out.more S.out.lo S.out.ag) (LB.out.more S.out.lo S.out.ag) (by omega) m0n).mono ?_); rintro e w11 ⟨b11, rfl, hr⟩; obtain ⟨n11, cs11, val11, zs11, lo11, S, ag11, F11, T11, L11⟩ := hr.out.go S.out; have RD := hid (Rd.mk T11.out L11.out); have RS := hid (Rd.step RS.out F11.out lo11 ag11.out); clear hr T11 L11 F11)
        | (go_at_call 11; with_reducible (refine (neg_any _ S.out.g S.out.h (by have := S.out.hi; omega) _ m c1 xs (TA.out.fg S.out.f) _ (LA.out.more S.out.lo S.out.ag) (by omega) m0n).mono ?_); rintro e w12 ⟨b12, rfl, hr⟩; obtain ⟨n12, cs12, val12, zs12, lo12, S, ag12, F12, T12, L12⟩ := hr.out.go S.out; have RN := hid (Rd.mk T12.out L12.out); have RS := hid (Rd.step RS.out F12.out lo12 ag12.out); have RD := hid (Rd.step RD.out F12.out lo12 ag12.out); clear hr T12 L12 F12)
        | (go_at_call 12; with_reducible (refine (equal_any _ S.out.g S.out.h (by have := S.out.hi; omega) _ _ m c1 c2 xs ys (TA.out.fg S.out.f) (TB.out.fg S.out.f) _ _ (LA.out.more S.out.lo S.out.ag) (LB.out.more S.out.lo S.out.ag) (by omega) m0n).mono ?_); rintro e w13 ⟨y13, rfl, hr⟩; obtain ⟨n13, cs13, val13, lo13, S, ag13, F13, T13, L13⟩ := hr.out.go S.out; have YE := hid (Yd.mk T13.out L13.out); have RS := hid (Rd.step RS.out F13.out lo13 ag13.out); have RD := hid (Rd.step RD.out F13.out lo13 ag13.out); have RN := hid (Rd.step RN.out F13.out lo13 ag13.out); clear hr T13 L13 F13)
        | (go_at_call 13; with_reducible (refine (lessr_any _ S.out.g S.out.h (by have := S.out.hi; omega) _ _ m c1 c2 xs ys (TA.out.fg S.out.f) (TB.out.fg S.out.f) _ _ (LA.out.more S.out.lo S.out.ag) (LB.out.more S.out.lo S.out.ag) (by omega) m0n).mono ?_); rintro e w14 ⟨y14, rfl, hr⟩; obtain ⟨n14, cs14, val14, lo14, S, ag14, F14, T14, L14⟩ := hr.out.go S.out; have YL := hid (Yd.mk T14.out L14.out); have RS := hid (Rd.step RS.out F14.out lo14 ag14.out); have RD := hid (Rd.step RD.out F14.out lo14 ag14.out); have RN := hid (Rd.step RN.out F14.out lo14 ag14.out); have YE := hid (Yd.step YE.out lo14 ag14.out); clear hr T14 L14 F14)
        | (go_at_call 14; with_reducible (refine (sless_any _ S.out.g S.out.h (by have := S.out.hi; omega) _ _ m c1 c2 xs ys (TA.out.fg S.out.f) (TB.out.fg S.out.f) _ _ (LA.out.more S.out.lo S.out.ag) (LB.out.more S.out.lo S.out.ag) (by omega) m0n).mono ?_); rintro e w15 ⟨y15, rfl, hr⟩; obtain ⟨n15, cs15, val15, lo15, S, ag15, F15, T15, L15⟩ := hr.out.go S.out; have YS := hid (Yd.mk T15.out L15.out); have RS := hid (Rd.step RS.out F15.out lo15 ag15.out); have RD := hid (Rd.step RD.out F15.out lo15 ag15.out); have RN := hid (Rd.step RN.out F15.out lo15 ag15.out); have YE := hid (Yd.step YE.out lo15 ag15.out); have YL := hid (Yd.step YL.out lo15 ag15.out); clear hr T15 L15 F15)
        | (go_at_call 15; with_reducible (refine (aite_any _ S.out.g S.out.h (by have := S.out.hi; omega) _ YL.out.r _ YL.out.h _ _ m c1 c2 xs ys (TA.out.fg S.out.f) (TB.out.fg S.out.f) _ _ (LA.out.more S.out.lo S.out.ag) (LB.out.more S.out.lo S.out.ag) (by omega) m0n).mono ?_); rintro e w16 ⟨b16, rfl, hr⟩; obtain ⟨n16, cs16, val16, zs16, lo16, S, ag16, F16, T16, L16⟩ := hr.out.go S.out; have RI := hid (Rd.mk T16.out L16.out); have RS := hid (Rd.step RS.out F16.out lo16 ag16.out); have RD := hid (Rd.step RD.out F16.out lo16 ag16.out); have RN := hid (Rd.step RN.out F16.out lo16 ag16.out); have YE := hid (Yd.step YE.out lo16 ag16.out); have YL := hid (Yd.step YL.out lo16 ag16.out); have YS := hid (Yd.step YS.out lo16 ag16.out); clear hr T16 L16 F16; obtain ⟨e0, e1, e2, e3⟩ := KE.out _ (FW.out.trans S.out.f))
        | (go_at_call 16; with_reducible (refine (const_any _ S.out.g S.out.h (by have := S.out.hi; omega) m m1 m2 cb fb.1 fb.2).mono ?_); rintro e w17 ⟨b17, rfl, hr⟩; obtain ⟨n17, cs17, val17, zs17, lo17, S, ag17, F17, T17, L17⟩ := hr.out.go S.out; have RC := hid (Rd.mk T17.out L17.out); have RS := hid (Rd.step RS.out F17.out lo17 ag17.out); have RD := hid (Rd.step RD.out F17.out lo17 ag17.out); have RN := hid (Rd.step RN.out F17.out lo17 ag17.out); have YE := hid (Yd.step YE.out lo17 ag17.out); have YL := hid (Yd.step YL.out lo17 ag17.out); have YS := hid (Yd.step YS.out lo17 ag17.out); have RI := hid (Rd.step RI.out F17.out lo17 ag17.out); clear hr T17 L17 F17))
    have n17b : n17 ≤ 5000 := by have := S.out.hi; omega
    have RH1 := hid (TH1.out.fg S.out.f)
    have RH2 := hid (TH2.out.fg S.out.f)
    have HL1 : Hid (hs1.length = l1) := hid TH1.out.row.1
    have HHn : Hid (∀ y ∈ hs1 ++ hs2, rng n17 y ∧ hd val17 y = true) := hid (fun y hy => by
      obtain ⟨r1, r2⟩ := HH.out y hy
      exact ⟨rng_more r1 S.out.lo, by rw [hd_agree S.out.ag r1]; exact r2⟩)
    have FE := hid (FW.out.trans S.out.f)
    obtain ⟨lh, hlh⟩ : ∃ lh, lh = (hs1 ++ hs2).length := ⟨_, rfl⟩
    have HLH := hid hlh
    clear hlh
    go_upto_region 14 with (first
      | (at_builtin; refine append_ints rfl (.tmp 90) (.tmp 91) rfl w17.heap.size _ [] hs1 rfl (own_empty (new_same w17 _) (Nat.le_refl _)) _ l1 d1 rfl ((RH1.out.below (new_a w17 _)).row) (by simp; omega) (new_a w17 _).size ?_; intro v8 w8 own8 hb8; have O8 : Hid (Own w8 w17.heap.size v8 hs1) := hid own8.out; have B8 := hid ((new_a w17 _).trans hb8.out); clear own8 hb8)
      | (at_builtin; refine append_ints rfl (.tmp 92) (.tmp 93) rfl w17.heap.size _ hs1 hs2 rfl O8.out _ l2 d2 rfl ((RH2.out.below B8.out).row) (by rw [HL1.out]; omega) B8.out.size ?_; intro v9 w9 own9 hb9; obtain ⟨h9, c9, ev9, t9⟩ := own9.out.trow (T := fun _ => False) (fun b hb => hb.elim); rw [← HLH.out] at ev9 t9; subst ev9; have T9 : Hid (TR w9 h9 lh c9 (hs1 ++ hs2)) := hid t9; have B9 := hid (B8.out.trans hb9.out); clear own9 hb9 t9)
      | (go_at_call 17; with_reducible (refine (close_any _ S.out.g (S.out.h.below B9.out) (by omega) h9 lh c9 (hs1 ++ hs2) T9.out HHn.out HI.out).mono ?_); rintro e w10 ⟨kb, ib, rfl, hv, hb⟩; have B10 := hid (Below.next B9.out hb.out)))
    have b11 := new_a w10 (.cells #[.slice (some ⟨kb, 0, none⟩) n17 n17, .slice (some ⟨ib, 0, none⟩) n17 n17] 40)
    obtain ⟨d0, d1⟩ := box_cells w10 (.slice (some ⟨kb, 0, none⟩) n17 n17) (.slice (some ⟨ib, 0, none⟩) n17 n17)
    have HV := hid (hv.out.keep b11)
    have B11 := hid (Below.next B10.out b11)
    generalize (w10.alloc (.cells #[.slice (some ⟨kb, 0, none⟩) n17 n17, .slice (some ⟨ib, 0, none⟩) n17 n17] 40)) = wz at d0 d1 HV B11 ⊢
    generalize w10.heap.size = vb at d0 d1 ⊢
    have EE := KE.out _ (FE.out.trans (FG.below B11.out))
    have EV : Hid (∀ W, Below wz.heap.size wz W → (W.cell? ⟨w.heap.size, 0, none⟩ = some (.int .i64 m) ∧ W.cell? ⟨w.heap.size, 1, none⟩ = some (.int .u64 ca) ∧ W.cell? ⟨w.heap.size, 2, none⟩ = some (.int .u64 cb) ∧ W.cell? ⟨w.heap.size, 3, none⟩ = some (.int .u64 ci)) ∧ W.cell? ⟨vb, 0, none⟩ = some (.slice (some ⟨kb, 0, none⟩) n17 n17) ∧ W.cell? ⟨vb, 1, none⟩ = some (.slice (some ⟨ib, 0, none⟩) n17 n17)) := hid (fun W b => by
      obtain ⟨q0, q1, q2, q3⟩ := EE
      exact ⟨⟨(b.cell (cell_lt q0)).trans q0, (b.cell (cell_lt q1)).trans q1, (b.cell (cell_lt q2)).trans q2, (b.cell (cell_lt q3)).trans q3⟩, (b.cell (cell_lt d0)).trans d0, (b.cell (cell_lt d1)).trans d1⟩)
    have XS := hid (Rd.below RS.out B11.out)
    have XD := hid (Rd.below RD.out B11.out)
    have XN := hid (Rd.below RN.out B11.out)
    have XI := hid (Rd.below RI.out B11.out)
    have XC := hid (Rd.below RC.out B11.out)
    have BE := hid (Below.refl wz.heap.size wz)
    have BZ : Hid (Below w.heap.size w wz) := hid (Below.next (b3.out.trans (((F.out.trans FE.out).be rfl (Below.refl _ _)).mono b3.out.size)) B11.out)
    have M1 := hid (mean_add m m1 m2 ca cb fa.1 fb.1)
    have M2 := hid (mean_sub m m1 m2 ca cb fa.1 fb.1)
    have M3 := hid (mean_neg m m1 m2 ca fa.1)
    have M4 := hid (mean_eq m m1 m2 ca cb fa.1 fb.1)
    have M5 := hid (mean_ult m m1 m2 ca cb fa.1 fb.1)
    have M6 := hid (mean_slt m m1 m2 ca cb fa.1 fb.1)
    have M7 := hid (mean_ite m m1 m2 ca cb fa.1 fb.1)
    have M8 := hid (nv_of m m1 m2 cb fb.1)
    obtain ⟨⟨e0, e1, e2, e3⟩, d0, d1⟩ := EV.out _ BE.out
    clear EE b11 hb hv B8 B9 B10 T9 O8 RH1 RH2 HHn
    generalize hcc : lsF (fun j => Wd.bitB ca j) (fun j => Wd.bitB cb j) m = cc at M5 YL XI
    cases cc
    · have V5 : Hid (opF 13 m ca cb = 0) := hid M5.out
      have M9 : Hid (nvF (itF false (fun j => Wd.bitB ca j) (fun j => Wd.bitB cb j)) m = Wd.cutF m cb) := hid (M7.out false)
      have nb : n17 ≤ 10000 := by omega
      go_upto_region 19 with (first
        | (go_at_call 18; with_reducible (refine (binary_any 13 (by omega) m ca cb ci _ m1 m2 fa.1 fa.2 fb.1 fb.2).mono ?_); rintro e wx ⟨rfl, hb⟩; rw [V5.out]; have BE := hid (Below.next BE.out hb.out); obtain ⟨⟨e0, e1, e2, e3⟩, d0, d1⟩ := EV.out _ BE.out))
      haveI : Inhabited (BW wx) := ⟨⟨wx, Below.refl _ _⟩⟩
      have X0 := BW.cell d0
      have X1 := BW.cell d1
      have Y0 := BW.cell e0
      have Y1 := BW.cell e1
      have Y2 := BW.cell e2
      have Y3 := BW.cell e3
      refine wp_region_below (by kernel_rfl) (by kernel_rfl) ?_
      simp only [List.append_eq, List.cons_append, List.nil_append]
      repeat (go_big_quiet_step (first
        | (go_at_call 18; with_reducible exact bw_of (binary_any 1 (by omega) m ca cb ci _ m1 m2 fa.1 fa.2 fb.1 fb.2))
        | (go_at_call 18; with_reducible exact bw_of (binary_any 2 (by omega) m ca cb ci _ m1 m2 fa.1 fa.2 fb.1 fb.2))
        | (go_at_call 18; with_reducible exact bw_of (binary_any 12 (by omega) m ca cb ci _ m1 m2 fa.1 fa.2 fb.1 fb.2))
        | (go_at_call 18; with_reducible exact bw_of (binary_any 13 (by omega) m ca cb ci _ m1 m2 fa.1 fa.2 fb.1 fb.2))
        | (go_at_call 18; with_reducible exact bw_of (binary_any 14 (by omega) m ca cb ci _ m1 m2 fa.1 fa.2 fb.1 fb.2))
        | (go_at_call 19; with_reducible exact bw_of (is_any _ kb ib n17 val17 (HV.out.keep (Below.next BE.out (BW.be _))) nb _ m _ _ (XS.out.t.below (Below.next BE.out (BW.be _))) _ XS.out.l m2 _ (op_bd _ _ _ _).1 (op_bd _ _ _ _).2 M1.out))
        | (go_at_call 19; with_reducible exact bw_of (is_any _ kb ib n17 val17 (HV.out.keep (Below.next BE.out (BW.be _))) nb _ m _ _ (XD.out.t.below (Below.next BE.out (BW.be _))) _ XD.out.l m2 _ (op_bd _ _ _ _).1 (op_bd _ _ _ _).2 M2.out))
        | (go_at_call 19; with_reducible exact bw_of (is_any _ kb ib n17 val17 (HV.out.keep (Below.next BE.out (BW.be _))) nb _ m _ _ (XN.out.t.below (Below.next BE.out (BW.be _))) _ XN.out.l m2 _ (Wd.u64_bd _).1 (Wd.u64_bd _).2 M3.out))
        | (go_at_call 20; with_reducible exact bw_of (bit_any _ kb ib n17 val17 (HV.out.keep (Below.next BE.out (BW.be _))) nb _ YE.out.r _ YE.out.h _ M4.out))
        | (go_at_call 20; with_reducible exact bw_of (bit_any _ kb ib n17 val17 (HV.out.keep (Below.next BE.out (BW.be _))) nb _ YL.out.r _ YL.out.h _ M5.out))
        | (go_at_call 20; with_reducible exact bw_of (bit_any _ kb ib n17 val17 (HV.out.keep (Below.next BE.out (BW.be _))) nb _ YS.out.r _ YS.out.h _ M6.out))
        | (go_at_call 19; with_reducible exact bw_of (is_any _ kb ib n17 val17 (HV.out.keep (Below.next BE.out (BW.be _))) nb _ m _ _ (XI.out.t.below (Below.next BE.out (BW.be _))) _ XI.out.l m2 _ fb.1 fb.2 M9.out))
        | (go_at_call 19; with_reducible exact bw_of (is_any _ kb ib n17 val17 (HV.out.keep (Below.next BE.out (BW.be _))) nb _ m _ _ (XC.out.t.below (Below.next BE.out (BW.be _))) _ XC.out.l m2 _ fb.1 fb.2 M8.out))
        | (go_at_call 6; with_reducible exact bw_of (awake_any _))
        | fail))
      refine wpQuiet_nil ?_
      intro _ hw
      obtain ⟨p, hw2⟩ := hw
      subst hw2
      go_wp2
      go_ret
      exact ⟨rfl, Below.next (Below.next BZ.out BE.out) p.be⟩
    · have V5 : Hid (opF 13 m ca cb = 1) := hid M5.out
      have M9 : Hid (nvF (itF true (fun j => Wd.bitB ca j) (fun j => Wd.bitB cb j)) m = Wd.cutF m ca) := hid (M7.out true)
      have nb : n17 ≤ 10000 := by omega
      go_upto_region 19 with (first
        | (go_at_call 18; with_reducible (refine (binary_any 13 (by omega) m ca cb ci _ m1 m2 fa.1 fa.2 fb.1 fb.2).mono ?_); rintro e wx ⟨rfl, hb⟩; rw [V5.out]; have BE := hid (Below.next BE.out hb.out); obtain ⟨⟨e0, e1, e2, e3⟩, d0, d1⟩ := EV.out _ BE.out))
      haveI : Inhabited (BW wx) := ⟨⟨wx, Below.refl _ _⟩⟩
      have X0 := BW.cell d0
      have X1 := BW.cell d1
      have Y0 := BW.cell e0
      have Y1 := BW.cell e1
      have Y2 := BW.cell e2
      have Y3 := BW.cell e3
      refine wp_region_below (by kernel_rfl) (by kernel_rfl) ?_
      simp only [List.append_eq, List.cons_append, List.nil_append]
      repeat (go_big_quiet_step (first
        | (go_at_call 18; with_reducible exact bw_of (binary_any 1 (by omega) m ca cb ci _ m1 m2 fa.1 fa.2 fb.1 fb.2))
        | (go_at_call 18; with_reducible exact bw_of (binary_any 2 (by omega) m ca cb ci _ m1 m2 fa.1 fa.2 fb.1 fb.2))
        | (go_at_call 18; with_reducible exact bw_of (binary_any 12 (by omega) m ca cb ci _ m1 m2 fa.1 fa.2 fb.1 fb.2))
        | (go_at_call 18; with_reducible exact bw_of (binary_any 13 (by omega) m ca cb ci _ m1 m2 fa.1 fa.2 fb.1 fb.2))
        | (go_at_call 18; with_reducible exact bw_of (binary_any 14 (by omega) m ca cb ci _ m1 m2 fa.1 fa.2 fb.1 fb.2))
        | (go_at_call 19; with_reducible exact bw_of (is_any _ kb ib n17 val17 (HV.out.keep (Below.next BE.out (BW.be _))) nb _ m _ _ (XS.out.t.below (Below.next BE.out (BW.be _))) _ XS.out.l m2 _ (op_bd _ _ _ _).1 (op_bd _ _ _ _).2 M1.out))
        | (go_at_call 19; with_reducible exact bw_of (is_any _ kb ib n17 val17 (HV.out.keep (Below.next BE.out (BW.be _))) nb _ m _ _ (XD.out.t.below (Below.next BE.out (BW.be _))) _ XD.out.l m2 _ (op_bd _ _ _ _).1 (op_bd _ _ _ _).2 M2.out))
        | (go_at_call 19; with_reducible exact bw_of (is_any _ kb ib n17 val17 (HV.out.keep (Below.next BE.out (BW.be _))) nb _ m _ _ (XN.out.t.below (Below.next BE.out (BW.be _))) _ XN.out.l m2 _ (Wd.u64_bd _).1 (Wd.u64_bd _).2 M3.out))
        | (go_at_call 20; with_reducible exact bw_of (bit_any _ kb ib n17 val17 (HV.out.keep (Below.next BE.out (BW.be _))) nb _ YE.out.r _ YE.out.h _ M4.out))
        | (go_at_call 20; with_reducible exact bw_of (bit_any _ kb ib n17 val17 (HV.out.keep (Below.next BE.out (BW.be _))) nb _ YL.out.r _ YL.out.h _ M5.out))
        | (go_at_call 20; with_reducible exact bw_of (bit_any _ kb ib n17 val17 (HV.out.keep (Below.next BE.out (BW.be _))) nb _ YS.out.r _ YS.out.h _ M6.out))
        | (go_at_call 19; with_reducible exact bw_of (is_any _ kb ib n17 val17 (HV.out.keep (Below.next BE.out (BW.be _))) nb _ m _ _ (XI.out.t.below (Below.next BE.out (BW.be _))) _ XI.out.l m2 _ fa.1 fa.2 M9.out))
        | (go_at_call 19; with_reducible exact bw_of (is_any _ kb ib n17 val17 (HV.out.keep (Below.next BE.out (BW.be _))) nb _ m _ _ (XC.out.t.below (Below.next BE.out (BW.be _))) _ XC.out.l m2 _ fb.1 fb.2 M8.out))
        | (go_at_call 6; with_reducible exact bw_of (awake_any _))
        | fail))
      refine wpQuiet_nil ?_
      intro _ hw
      obtain ⟨p, hw2⟩ := hw
      subst hw2
      go_wp2
      go_ret
      exact ⟨rfl, Below.next (Below.next BZ.out BE.out) p.be⟩
  · have HW := hid hW
    clear hW
    go_enter Try.func3, Try.ntmps3
    go_wp2_with (first
      | (go_at_call 5; with_reducible (refine (case_no _ ca cb ci _ HW.out).mono ?_); rintro e w3 ⟨rfl, hb3⟩; have bb := hid (Below.next bb.out hb3.out))
      | (go_at_call 6; with_reducible (refine (awake_any _).mono ?_); rintro e w4 ⟨rfl, hb⟩; have bb := hid (Below.next bb.out hb.out)))
    go_ret
    exact ⟨rfl, bb.out⟩

end Go.Proofs.Ytmjnepmgjolndaa
