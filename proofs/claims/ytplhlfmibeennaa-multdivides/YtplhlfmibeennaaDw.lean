/-
  The walk of MultDivides.
-/
import Derived.Test.YtplhlfmibeennaaBd
namespace Go.Proofs.Ytplhlfmibeennaa
open Go.RowKit
set_option linter.unusedVariables false

set_option maxRecDepth 20000 in
set_option maxHeartbeats 16000000 in
theorem divides_walk (D0 : Cs) (w : World) (w0 : CsFt D0) :
    Calls Try.prog 4 #[.agg #[.int .i64 D0.W, .int .u64 D0.A, .int .u64 D0.B, .int .u64 D0.I]] w fun e w' => e = .returned (.bool true) ∧ Below w.heap.size w w' := by
  obtain ⟨cw, ca, cb, ci⟩ := D0
  obtain ⟨fw, fa, fb, fi⟩ := w0
  simp only [] at fw fa fb fi
  have bb := hid (new_a w (.cells #[.int .i64 cw, .int .u64 ca, .int .u64 cb, .int .u64 ci] 24))
  by_cases hW : 1 ≤ cw ∧ cw ≤ 16
  · obtain ⟨m, rfl⟩ : ∃ m : Nat, cw = m := ⟨cw.toNat, by omega⟩
    have m1 : 1 ≤ m := by omega
    have m24 : m ≤ 16 := by omega
    have m2 : m ≤ 64 := by omega
    have m0n : 0 < m := by omega
    have BX : Hid ((w.alloc (.cells #[.int .i64 m, .int .u64 ca, .int .u64 cb, .int .u64 ci] 24)).heap[w.heap.size]? = some (.cells #[.int .i64 m, .int .u64 ca, .int .u64 cb, .int .u64 ci] 24 (0, 0))) := hid (new_same _ _)
    clear hW fw
    go_enter Try.func4, Try.ntmps4
    go_upto_region 6 with (first
      | (go_at_call 6; with_reducible (refine (case_yes 16 _ ca cb ci _ (by omega) (by omega)).mono ?_); rintro e w3 ⟨rfl, hb3⟩; have BX := hid ((hb3.out.block _ (blk_lt BX.out)).trans BX.out); have b3 := hid (Below.next bb.out hb3.out))
      | (go_at_call 8; with_reducible (refine (new_any _).mono ?_); rintro e w4 ⟨gb, rfl, G, F⟩; have BX := hid ((F.out.block _ 24 (typ_of BX.out) (by decide) (by decide)).trans BX.out)))
    have KE : Hid (∀ W, FG ⟨w3.heap.size, fun _ => False⟩ w4 W → W.cell? ⟨w.heap.size, 0, none⟩ = some (.int .i64 m) ∧ W.cell? ⟨w.heap.size, 1, none⟩ = some (.int .u64 ca) ∧ W.cell? ⟨w.heap.size, 2, none⟩ = some (.int .u64 cb) ∧ W.cell? ⟨w.heap.size, 3, none⟩ = some (.int .u64 ci)) := hid (fun W f => by
      have h := (f.block _ 24 (typ_of BX.out) (by decide) (by decide)).trans BX.out
      exact ⟨by rw [cell_of h]; rfl, by rw [cell_of h]; rfl, by rw [cell_of h]; rfl, by rw [cell_of h]; rfl⟩)
    obtain ⟨e0, e1, e2, e3⟩ := KE.out _ (FG.refl _)
    go_upto_region 8 with (first
      | (go_at_call 9; with_reducible (refine (row_any _ Good.start G.out (by omega) m m2 ca ci fa.1 fa.2 fi.1 fi.2).mono ?_); rintro e w5 ⟨ao, c1, ho1, l1, d1, rfl, hr⟩; obtain ⟨xs, hs1, n1, cs1, val1, is1, lo1, hi1, g1, ag1, G1, F1, ta, th1, hl1, la, hh1, hcv1⟩ := hr.out.get; obtain ⟨e0, e1, e2, e3⟩ := KE.out _ F1.out; clear hr)
      | (go_at_call 9; with_reducible (refine (row_any _ g1.out G1.out (by omega) m m2 cb _ fb.1 fb.2 (Wd.bits_bd _ _ _).1 (Wd.bits_bd _ _ _).2).mono ?_); rintro e w6 ⟨bo, c2, ho2, l2, d2, rfl, hr⟩; obtain ⟨ys, hs2, n2, cs2, val2, is2, lo2, hi2, g2, ag2, G2, F2, tb, th2, hl2, lb, hh2, hcv2⟩ := hr.out.get; clear hr))
    have S0 := hid (Sx.start g2.out G2.out)
    have S := S0
    have TA := hid (ta.out.fg F2.out)
    have TB := hid tb.out
    have LA := hid (la.out.more lo2 ag2.out)
    have LB := hid lb.out
    have TH1 := hid (th1.out.fg F2.out)
    have TH2 := hid th2.out
    have HH : Hid (∀ y ∈ hs1 ++ hs2, rng n2 y ∧ hd val2 y = true) := hid (fun y hy => by
      rcases List.mem_append.1 hy with hy | hy
      · obtain ⟨r1, r2⟩ := hh1.out y hy
        exact ⟨rng_more r1 lo2, by rw [hd_agree ag2.out r1]; exact r2⟩
      · exact hh2.out y hy)
    have HI : Hid (∀ y ∈ is2, ∃ z ∈ hs1 ++ hs2, (z / 2).toNat = (y / 2).toNat) := hid (fun y hy => by
      rcases hcv2.out y hy with hy | ⟨z, hz, e⟩
      · rcases hcv1.out y hy with hy | ⟨z, hz, e⟩
        · simp at hy
        · exact ⟨z, by simp [hz], e⟩
      · exact ⟨z, by simp [hz], e⟩)
    have FW := hid (F1.out.trans F2.out)
    have nb2 : n2 ≤ 100 := by omega
    clear ta tb th1 th2 la lb hh1 hh2 hcv1 hcv2 g1 G1 F1 g2 G2 F2 ag1 ag2 lo1 lo2 hi1 hi2
    obtain ⟨e0, e1, e2, e3⟩ := KE.out _ FW.out
    go_upto_region 9 with (go_at_call 14; with_reducible (refine (divide_any _ S.out.g S.out.h (by have := S.out.hi; omega) _ _ m c1 c2 xs ys (TA.out.fg S.out.f) (TB.out.fg S.out.f) _ _ (LA.out.more S.out.lo S.out.ag) (LB.out.more S.out.lo S.out.ag) (by omega) m0n).mono ?_); rintro e w10 ⟨b10, ro, rc, rfl, hr⟩; obtain ⟨n10, cs10, val10, zq, zr, lo10, S, ag10, F10, T10, L10, T11, L11⟩ := hr.out.go S.out; have RQ := hid (Rd.mk T10.out L10.out); have RR := hid (Rd.mk T11.out L11.out); clear hr T10 L10 T11 L11 F10)
    have n17b : n10 ≤ 5000 := by have := S.out.hi; omega
    have RH1 := hid (TH1.out.fg S.out.f)
    have RH2 := hid (TH2.out.fg S.out.f)
    have HL1 : Hid (hs1.length = l1) := hid TH1.out.row.1
    have HHn : Hid (∀ y ∈ hs1 ++ hs2, rng n10 y ∧ hd val10 y = true) := hid (fun y hy => by
      obtain ⟨r1, r2⟩ := HH.out y hy
      exact ⟨rng_more r1 S.out.lo, by rw [hd_agree S.out.ag r1]; exact r2⟩)
    have FE := hid (FW.out.trans S.out.f)
    obtain ⟨lh, hlh⟩ : ∃ lh, lh = (hs1 ++ hs2).length := ⟨_, rfl⟩
    have HLH := hid hlh
    clear hlh
    go_upto_region 11 with (first
      | (at_builtin; refine append_ints rfl (.tmp 58) (.tmp 59) rfl w10.heap.size _ [] hs1 rfl (own_empty (new_same w10 _) (Nat.le_refl _)) _ l1 d1 rfl ((RH1.out.below (new_a w10 _)).row) (by simp; omega) (new_a w10 _).size ?_; intro v8 w8 own8 hb8; have O8 : Hid (Own w8 w10.heap.size v8 hs1) := hid own8.out; have B8 := hid ((new_a w10 _).trans hb8.out); clear own8 hb8)
      | (at_builtin; refine append_ints rfl (.tmp 60) (.tmp 61) rfl w10.heap.size _ hs1 hs2 rfl O8.out _ l2 d2 rfl ((RH2.out.below B8.out).row) (by rw [HL1.out]; omega) B8.out.size ?_; intro v9 w9 own9 hb9; obtain ⟨h9, c9, ev9, t9⟩ := own9.out.trow (T := fun _ => False) (fun b hb => hb.elim); rw [← HLH.out] at ev9 t9; subst ev9; have T9 : Hid (TR w9 h9 lh c9 (hs1 ++ hs2)) := hid t9; have B9 := hid (B8.out.trans hb9.out); clear own9 hb9 t9)
      | (go_at_call 11; with_reducible (refine (close_any _ S.out.g (S.out.h.below B9.out) (by omega) h9 lh c9 (hs1 ++ hs2) T9.out HHn.out HI.out).mono ?_); rintro e w11 ⟨kb, ib, rfl, hv, hb⟩; have B10 := hid (Below.next B9.out hb.out)))
    have b11 := new_a w11 (.cells #[.slice (some ⟨kb, 0, none⟩) n10 n10, .slice (some ⟨ib, 0, none⟩) n10 n10] 36)
    obtain ⟨d0, d1⟩ := box_cells w11 (.slice (some ⟨kb, 0, none⟩) n10 n10) (.slice (some ⟨ib, 0, none⟩) n10 n10)
    have HV := hid (hv.out.keep b11)
    have B11 := hid (Below.next B10.out b11)
    generalize (w11.alloc (.cells #[.slice (some ⟨kb, 0, none⟩) n10 n10, .slice (some ⟨ib, 0, none⟩) n10 n10] 36)) = wz at d0 d1 HV B11 ⊢
    generalize w11.heap.size = vb at d0 d1 ⊢
    have EE := KE.out _ (FE.out.trans (FG.below B11.out))
    have EV : Hid (∀ W, Below wz.heap.size wz W → (W.cell? ⟨w.heap.size, 0, none⟩ = some (.int .i64 m) ∧ W.cell? ⟨w.heap.size, 1, none⟩ = some (.int .u64 ca) ∧ W.cell? ⟨w.heap.size, 2, none⟩ = some (.int .u64 cb) ∧ W.cell? ⟨w.heap.size, 3, none⟩ = some (.int .u64 ci)) ∧ W.cell? ⟨vb, 0, none⟩ = some (.slice (some ⟨kb, 0, none⟩) n10 n10) ∧ W.cell? ⟨vb, 1, none⟩ = some (.slice (some ⟨ib, 0, none⟩) n10 n10)) := hid (fun W b => by
      obtain ⟨q0, q1, q2, q3⟩ := EE
      exact ⟨⟨(b.cell (cell_lt q0)).trans q0, (b.cell (cell_lt q1)).trans q1, (b.cell (cell_lt q2)).trans q2, (b.cell (cell_lt q3)).trans q3⟩, (b.cell (cell_lt d0)).trans d0, (b.cell (cell_lt d1)).trans d1⟩)
    have XQ := hid (Rd.below RQ.out B11.out)
    have XR := hid (Rd.below RR.out B11.out)
    have BE := hid (Below.refl wz.heap.size wz)
    have BZ : Hid (Below w.heap.size w wz) := hid (Below.next (b3.out.trans (((F.out.trans FE.out).be rfl (Below.refl _ _)).mono b3.out.size)) B11.out)
    have M1 := hid (mean_div m m1 m2 ca cb fa.1 fb.1)
    have M2 := hid (mean_rem m m1 m2 ca cb fa.1 fb.1)
    obtain ⟨⟨e0, e1, e2, e3⟩, d0, d1⟩ := EV.out _ BE.out
    have nb : n10 ≤ 10000 := by omega
    clear EE b11 hb hv B8 B9 B10 T9 O8 RH1 RH2 HHn
    go_wp2_with (first
      | (go_at_call 12; with_reducible (refine (rbin4 m ca cb _ m1 m2 fa.1 fa.2 fb.1 fb.2).mono ?_); rintro e wx ⟨rfl, rfl⟩)
      | (go_at_call 12; with_reducible (refine (rbin5 m ca cb _ m1 m2 fa.1 fa.2 fb.1 fb.2).mono ?_); rintro e wx ⟨rfl, rfl⟩)
      | (go_at_call 13; with_reducible (refine (is_any _ kb ib n10 val10 (HV.out.keep BE.out) nb _ m _ _ (XQ.out.t.below BE.out) _ XQ.out.l m2 _ (op_bd 4 m ca cb).1 (op_bd 4 m ca cb).2 M1.out).mono ?_); rintro e wx ⟨rfl, hb⟩; have BE := hid (Below.next BE.out hb.out); obtain ⟨⟨e0, e1, e2, e3⟩, d0, d1⟩ := EV.out _ BE.out)
      | (go_at_call 13; with_reducible (refine (is_any _ kb ib n10 val10 (HV.out.keep BE.out) nb _ m _ _ (XR.out.t.below BE.out) _ XR.out.l m2 _ (op_bd 5 m ca cb).1 (op_bd 5 m ca cb).2 M2.out).mono ?_); rintro e wx ⟨rfl, hb⟩; have BE := hid (Below.next BE.out hb.out); obtain ⟨⟨e0, e1, e2, e3⟩, d0, d1⟩ := EV.out _ BE.out)
      | (go_at_call 7; with_reducible (refine (awake_any _).mono ?_); rintro e wx ⟨rfl, hb⟩; have BE := hid (Below.next BE.out hb.out)))
    go_ret
    exact ⟨rfl, Below.next BZ.out BE.out⟩
  · have HW := hid hW
    clear hW
    go_enter Try.func4, Try.ntmps4
    go_wp2_with (first
      | (go_at_call 6; with_reducible (refine (case_no 16 _ ca cb ci _ HW.out).mono ?_); rintro e w3 ⟨rfl, hb3⟩; have bb := hid (Below.next bb.out hb3.out))
      | (go_at_call 7; with_reducible (refine (awake_any _).mono ?_); rintro e w4 ⟨rfl, hb⟩; have bb := hid (Below.next bb.out hb.out)))
    go_ret
    exact ⟨rfl, bb.out⟩

end Go.Proofs.Ytplhlfmibeennaa
