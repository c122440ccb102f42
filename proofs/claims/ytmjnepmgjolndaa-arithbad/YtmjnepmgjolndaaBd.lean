/-
  The walk of ArithBad.
-/
import Derived.Test.YtmjnepmgjolndaaCo
namespace Go.Proofs.Ytmjnepmgjolndaa
open Go.RowKit
set_option linter.unusedVariables false

theorem new_a (w : World) (o : Obj) : Below w.heap.size w (w.alloc o) := (Below.refl _ _).alloc (Nat.le_refl _) o

set_option maxRecDepth 20000 in
set_option maxHeartbeats 8000000 in
theorem bad_walk (D0 : Cs) (a1 a2 : Int) (w : World) (w0 : CsFt D0) (w1 : (Lit.int .u8 a1).wf = true) (w2 : (Lit.int .i64 a2).wf = true) :
    Calls Try.prog 4 #[.agg #[.int .i64 D0.W, .int .u64 D0.A, .int .u64 D0.B, .int .u64 D0.I], .int .u8 a1, .int .i64 a2] w fun e w' => e = .returned (.bool true) ∧ Below w.heap.size w w' := by
  obtain ⟨cw, ca, cb, ci⟩ := D0
  obtain ⟨fw, fa, fb, fi⟩ := w0
  simp only [] at fw fa fb fi
  have f1 := wf_u8 w1
  have f2 := wf_out w2
  clear w1 w2
  have bb := hid (new_a w (.cells #[.int .i64 cw, .int .u64 ca, .int .u64 cb, .int .u64 ci] 24))
  by_cases hW : 1 ≤ cw ∧ cw ≤ 64
  · obtain ⟨m, rfl⟩ : ∃ m : Nat, cw = m := ⟨cw.toNat, by omega⟩
    have m1 : 1 ≤ m := by omega
    have m2 : m ≤ 64 := by omega
    have BX : Hid ((w.alloc (.cells #[.int .i64 m, .int .u64 ca, .int .u64 cb, .int .u64 ci] 24)).heap[w.heap.size]? = some (.cells #[.int .i64 m, .int .u64 ca, .int .u64 cb, .int .u64 ci] 24 (0, 0))) := hid (new_same _ _)
    clear hW fw
    go_enter Try.func4, Try.ntmps4
    go_upto_region 6 with (first
      | (go_at_call 5; with_reducible (refine (case_yes _ ca cb ci _ (by omega) (by omega)).mono ?_); rintro e w3 ⟨rfl, hb3⟩; have BX := hid ((hb3.out.block _ (blk_lt BX.out)).trans BX.out); have b3 := hid (Below.next bb.out hb3.out))
      | (go_at_call 7; with_reducible (refine (new_any _).mono ?_); rintro e w4 ⟨gb, rfl, G, F⟩; have BX := hid ((F.out.block _ 24 (typ_of BX.out) (by decide) (by decide)).trans BX.out)))
    have e0 : w4.cell? ⟨w.heap.size, 0, none⟩ = some (.int .i64 m) := by rw [cell_of BX.out]; rfl
    have e1 : w4.cell? ⟨w.heap.size, 1, none⟩ = some (.int .u64 ca) := by rw [cell_of BX.out]; rfl
    have e3 : w4.cell? ⟨w.heap.size, 3, none⟩ = some (.int .u64 ci) := by rw [cell_of BX.out]; rfl
    go_upto_region 7 with (first
      | (go_at_call 8; with_reducible (refine (row_any _ Good.start G.out (by omega) m m2 ca ci fa.1 fa.2 fi.1 fi.2).mono ?_); rintro e wr ⟨ao, c1, ho, l2, c2, rfl, hr⟩))
    obtain ⟨xs, hs, n, cs, val, is, lo, hi, g5, ag, G5, F5, ta, th, hl2, la, hh, hcv⟩ := hr.out
    have BB : Hid (Below w.heap.size w wr) := hid (b3.out.trans (((F.out.trans F5).be rfl (Below.refl _ _)).mono b3.out.size))
    have GG := hid G5
    have TA := hid ta
    have LA := hid la
    have hn : n ≤ 100 := by omega
    obtain ⟨ab, af, rfl, cx⟩ := ta.cells (by omega)
    obtain ⟨x0, hx0, rx0, vx0⟩ := la.at (j := 0) (by omega)
    have SK : Hid (∀ W, Below wr.heap.size wr W → W.cell? ⟨ab, af, none⟩ = some (.int .i64 x0)) := hid (fun W b => cx B0 W (FG.below b) 0 x0 hx0)
    have fx0 := hid (rng_fit rx0 (by omega))
    have m0' : (0 : Int) < m := by omega
    have m0n : 0 < m := by omega
    clear g5 G5 F5 ta th la hh hcv cx hr rx0 vx0 ag
    go_cut [10] from 30 to 37 (fun v wx => ∃ bo c5, v = .slice bo (m + 1) c5 ∧ Hid (Row wx bo (m + 1) c5 (xs ++ [x0])) ∧ Hid (Below wr.heap.size wr wx))
    case first =>
      have E0 : Hid (Own (wr.alloc (.cells #[] 3)).drew wr.heap.size (.slice (some ⟨wr.heap.size, 0, none⟩) 0 0) []) := hid (own_empty (w := (wr.alloc (.cells #[] 3)).drew) (new_same wr _) (Nat.le_refl _))
      have R0 : Hid (Row (wr.alloc (.cells #[] 3)).drew (some ⟨ab, af, none⟩) m c1 xs) := hid (TA.out.below (new_b wr _)).row
      have Z0 : Hid (wr.heap.size ≤ (wr.alloc (.cells #[] 3)).drew.heap.size) := hid (new_b wr _).size
      have LX : Hid (xs.length = m) := hid LA.out.len
      have E1 : Hid (Own ((wr.alloc (.cells #[] 3)).alloc (.cells #[.int .i64 x0] 3)).drew wr.heap.size (.slice (some ⟨wr.heap.size, 0, none⟩) 0 0) []) := hid (own_empty (w := ((wr.alloc (.cells #[] 3)).alloc (.cells #[.int .i64 x0] 3)).drew) (((new_a (wr.alloc (.cells #[] 3)) (.cells #[.int .i64 x0] 3)).block _ (blk_lt (new_same wr _))).trans (new_same wr _)) (Nat.le_refl _))
      have N1 : Hid (Below wr.heap.size wr ((wr.alloc (.cells #[] 3)).alloc (.cells #[.int .i64 x0] 3)).drew) := hid (((new_a wr _).alloc (new_a wr _).size _).drew)
      have R1 : Hid (Row ((wr.alloc (.cells #[] 3)).alloc (.cells #[.int .i64 x0] 3)).drew (some ⟨ab, af, none⟩) m c1 xs) := hid (TA.out.below N1.out).row
      have X1 : Hid (((wr.alloc (.cells #[] 3)).alloc (.cells #[.int .i64 x0] 3)).drew.heap[wr.heap.size + 1]? = some (.cells #[.int .i64 x0] 3 (0, 0))) := hid (by
        have := new_same (wr.alloc (.cells #[] 3)) (.cells #[.int .i64 x0] 3)
        rw [show (wr.alloc (.cells #[] 3)).heap.size = wr.heap.size + 1 by simp] at this
        exact this)
      have N2 : Hid (Below wr.heap.size wr ((wr.alloc (.cells #[.int .i64 x0] 3)).alloc (.cells #[] 3)).drew) := hid (((new_a wr _).alloc (new_a wr _).size _).drew)
      have E2 : Hid (Own ((wr.alloc (.cells #[.int .i64 x0] 3)).alloc (.cells #[] 3)).drew wr.heap.size (.slice (some ⟨wr.heap.size + 1, 0, none⟩) 0 0) []) := hid (own_empty (w := ((wr.alloc (.cells #[.int .i64 x0] 3)).alloc (.cells #[] 3)).drew) (by
        have := new_same (wr.alloc (.cells #[.int .i64 x0] 3)) (.cells #[] 3)
        rw [show (wr.alloc (.cells #[.int .i64 x0] 3)).heap.size = wr.heap.size + 1 by simp] at this
        exact this) (by omega))
      have R2 : Hid (Row ((wr.alloc (.cells #[.int .i64 x0] 3)).alloc (.cells #[] 3)).drew (some ⟨ab, af, none⟩) m c1 xs) := hid (TA.out.below N2.out).row
      have X2 : Hid (((wr.alloc (.cells #[.int .i64 x0] 3)).alloc (.cells #[] 3)).drew.heap[wr.heap.size]? = some (.cells #[.int .i64 x0] 3 (0, 0))) := hid (((new_a (wr.alloc (.cells #[.int .i64 x0] 3)) (.cells #[] 3)).block _ (blk_lt (new_same wr _))).trans (new_same wr _))
      go_region_held3 (fun W => W.cell? ⟨ab, af, none⟩ = some (.int .i64 x0)) (first | exact SK.out _ (below_drew wr) | exact SK.out _ (new_b wr _) | exact SK.out _ N1.out | exact SK.out _ N2.out | exact SK.out _ B6.out | exact SK.out _ (Below.next B6.out (new_a _ _)) | exact SK.out _ B7.out) (first
        | (refine step_ints rfl (.tmp 30) (.tmp 31) rfl wr.heap.size _ [] xs (by first | (simp; done) | (simp [go_sem]; done)) E0.out ⟨ab, af, none⟩ m c1 (by first | (simp; done) | (simp [go_sem]; done)) R0.out m0n (by simp; omega) Z0.out ?_; intro v6 w6 own6 g6; have O6 : Hid (Own w6 wr.heap.size v6 xs) := hid own6.out; have B6 : Hid (Below wr.heap.size wr w6) := hid ((new_b wr _).grown g6.out Z0.out (fun j hj => (E0.out.1.lt j hj).1)); clear own6 g6)
        | (refine step_ints rfl (.tmp 30) (.tmp 31) rfl wr.heap.size _ [] xs (by first | (simp; done) | (simp [go_sem]; done)) E1.out ⟨ab, af, none⟩ m c1 (by first | (simp; done) | (simp [go_sem]; done)) R1.out m0n (by simp; omega) N1.out.size ?_; intro v6 w6 own6 g6; have O6 : Hid (Own w6 wr.heap.size v6 xs) := hid own6.out; have B6 : Hid (Below wr.heap.size wr w6) := hid (N1.out.grown g6.out N1.out.size (fun j hj => (E1.out.1.lt j hj).1)); have X6 : Hid (Row w6 (some ⟨wr.heap.size + 1, 0, none⟩) 1 1 [x0]) := hid (row_blk ((g6.out.block (wr.heap.size + 1) (blk_lt X1.out) (fun e => by simp [Value.ownBlock] at e)).trans X1.out) fx0.out); clear own6 g6)
        | (refine step_ints rfl (.tmp 30) (.tmp 31) rfl wr.heap.size _ [] xs (by first | (simp; done) | (simp [go_sem]; done)) E2.out ⟨ab, af, none⟩ m c1 (by first | (simp; done) | (simp [go_sem]; done)) R2.out m0n (by simp; omega) N2.out.size ?_; intro v6 w6 own6 g6; have O6 : Hid (Own w6 wr.heap.size v6 xs) := hid own6.out; have B6 : Hid (Below wr.heap.size wr w6) := hid (N2.out.grown g6.out N2.out.size (fun j hj => (E2.out.1.lt j hj).1)); have X7 : Hid (Row w6 (some ⟨wr.heap.size, 0, none⟩) 1 1 [x0]) := hid (row_blk ((g6.out.block wr.heap.size (blk_lt X2.out) (fun e => by simp [Value.ownBlock] at e)).trans X2.out) fx0.out); clear own6 g6)
        | (refine step_app rfl _ _ 29 3 rfl Try.underlying29 (.int .i64 0) 1 8 rfl (by decide) Try.info3 (by decide) [.int .i64 x0] rfl rfl (ints_one [x0]) wr.heap.size xs.length _ _ (by first | (simp; done) | (simp [go_sem]; done)) O6.out.1 (by first | (simp; done) | (simp [go_sem]; done)) (by rw [LX.out]; omega) B6.out.size ?_; intro v7 w7 own7 g7 l7; have B7 : Hid (Below wr.heap.size wr w7) := hid (B6.out.grown g7.out B6.out.size (fun j hj => (O6.out.1.lt j hj).1)); have O7 : Hid (Own w7 wr.heap.size v7 (xs ++ [x0])) := hid ⟨by rw [List.length_append, List.map_append]; exact own7.out, fit_append O6.out.2 (fun z hz => by rw [List.mem_singleton] at hz; subst hz; exact fx0.out)⟩)
        | (refine step_ints rfl (.tmp 32) (.tmp 36) rfl wr.heap.size _ xs [x0] (by first | (simp; done) | (simp [go_sem]; done)) O6.out ⟨wr.heap.size + 1, 0, none⟩ 1 1 (by first | (simp; done) | (simp [go_sem]; done)) X6.out (by omega) (by rw [LX.out]; omega) B6.out.size ?_; intro v7 w7 own7 g7; have B7 : Hid (Below wr.heap.size wr w7) := hid (B6.out.grown g7.out B6.out.size (fun j hj => (O6.out.1.lt j hj).1)); have O7 := hid own7.out)
        | (refine step_ints rfl (.tmp 32) (.tmp 36) rfl wr.heap.size _ xs [x0] (by first | (simp; done) | (simp [go_sem]; done)) O6.out ⟨wr.heap.size, 0, none⟩ 1 1 (by first | (simp; done) | (simp [go_sem]; done)) X7.out (by omega) (by rw [LX.out]; omega) B6.out.size ?_; intro v7 w7 own7 g7; have B7 : Hid (Below wr.heap.size wr w7) := hid (B6.out.grown g7.out B6.out.size (fun j hj => (O6.out.1.lt j hj).1)); have O7 := hid own7.out))
      all_goals go_wp2_with fail
      all_goals go_meet
      all_goals
        obtain ⟨bo, c5, e7, r7⟩ := O7.out.row
        have l7 : (xs ++ [x0]).length = m + 1 := by simp [LX.out]
        rw [l7] at e7 r7
        exact ⟨bo, c5, e7, r7, B7⟩
    case rest =>
      obtain ⟨bo, c5, rfl, RB, hb5⟩ := hcut
      have B5 := hid hb5.out
      have LX : Hid (xs.length = m) := hid LA.out.len
      clear hb5
      go_upto_region 9 with (at_builtin; refine append_ints rfl (.tmp 38) (.tmp 39) rfl wc.heap.size _ [] xs rfl (own_empty (new_same wc _) (Nat.le_refl _)) _ m c1 rfl ((TA.out.below (Below.next B5.out (new_a wc _))).row) (by simp; omega) (new_a wc _).size ?_; intro v8 w8 own8 hb8)
      have O8 : Hid (Own w8 wc.heap.size v8 xs) := hid own8.out
      have B8 : Hid (Below wc.heap.size wc w8) := hid ((new_a wc _).trans hb8.out)
      clear own8 hb8
      obtain ⟨gx, cap, cur, rfl, hgx, hg8, hcap, hmax, hcx⟩ := O8.out.blk (by rw [LX.out]; omega)
      rw [LX.out] at hcap
      rw [LX.out]
      have HGX := hid hg8
      have HCX := hid hcx
      have FX : Hid (Fit xs) := hid O8.out.2
      obtain ⟨k, hk, hkm⟩ : ∃ k : Nat, a1.tmod m = k ∧ k < m := by
        refine ⟨(a1.tmod m).toNat, ?_, ?_⟩
        · have := Int.tmod_nonneg m f1.1
          omega
        · have h1 := Int.tmod_nonneg m f1.1
          have h2 := Int.tmod_lt_of_pos a1 m0'
          omega
      obtain ⟨xk, hxk, _, _⟩ := LA.out.at hkm
      have HXK := hid hxk
      have n0 : 0 < n := lo
      have MX : Hid (x0 ∈ xs) := hid (List.mem_of_getElem? hx0)
      have NX : Hid (¬ rng 0 x0) := hid (by unfold rng; omega)
      have ewr : IntKind.i64.wrap a1 = a1 := IntWalk.i64_in _ (by omega)
      have ekr : IntKind.i64.wrap (k : Int) = k := IntWalk.i64_in _ (by omega)
      have hkm' : (k : Int) < m := by omega
      have k0' : (0 : Int) ≤ k := by omega
      have mne : ¬ m = 0 := by omega
      have mne' : ((m : Int) == 0) = false := by simp; omega
      clear hg8 hcx hxk hx0
      by_cases hneg : 0 ≤ a2
      · have FB : Hid (-9223372036854775808 ≤ (-1) ∧ (-1) ≤ 9223372036854775807) := hid (by omega)
        have NB : Hid (¬ rng n (-1)) := hid (by unfold rng; omega)
        have RS : Hid (Row (w8.setCell ⟨gx, k, none⟩ (.int .i64 (-1))) (some ⟨gx, 0, none⟩) m cap (xs.set k (-1))) := hid (by
          have := stored HGX.out FX.out (by rw [LX.out]; exact hcap) hmax HCX.out (by rw [LX.out]; exact hkm) FB.out
          rw [LX.out] at this; exact this)
        have MB : Hid ((-1) ∈ xs.set k (-1)) := hid (List.mem_set (by rw [LX.out]; exact hkm) _)
        have BR : Hid (Below wr.heap.size wr (w8.setCell ⟨gx, k, none⟩ (.int .i64 (-1)))) := hid (Below.next B5.out (B8.out.setCell hgx _))
        have GG := hid (GG.out.below BR.out)
        have RA := hid (TA.out.below BR.out).row
        have RB := hid (RB.out.keep (show Below wc.heap.size wc (w8.setCell ⟨gx, k, none⟩ (.int .i64 (-1))) from B8.out.setCell hgx _))
        have cg0 : ∃ z, w8.cell? ⟨gx, k, none⟩ = some z := ⟨_, (cell_of HGX.out).trans (HCX.out k _ HXK.out)⟩
        obtain ⟨zc, cg⟩ := cg0
        have fg : w8.frozen? ⟨gx, k, none⟩ = false := frozen_of HGX.out
        go_wp2_with (first
        | (go_at_call 9; with_reducible (refine (add_bad _ _ n GG.out.vq (by omega) _ bo m (m + 1) c1 c5 xs _ RA.out RB.out (al_len (by omega))).mono ?_); rintro e wx ⟨rfl, hb⟩; have GG := hid (GG.out.below hb.out); have RA := hid (RA.out.keep hb.out); have RB := hid (RB.out.keep hb.out); have RS := hid (RS.out.keep hb.out); have BR := hid (Below.next BR.out hb.out))
        | (go_at_call 10; with_reducible (refine (sub_bad _ _ n GG.out.vq (by omega) bo _ (m + 1) m c5 c1 _ xs RB.out RA.out (al_len (by omega))).mono ?_); rintro e wx ⟨rfl, hb⟩; have GG := hid (GG.out.below hb.out); have RA := hid (RA.out.keep hb.out); have RB := hid (RB.out.keep hb.out); have RS := hid (RS.out.keep hb.out); have BR := hid (Below.next BR.out hb.out))
        | (go_at_call 21; with_reducible (refine (true_any gb _).mono ?_); rintro e wx ⟨rfl, rfl⟩)
        | (go_at_call 15; with_reducible (refine (aite_bad _ _ n GG.out.vq (by omega) _ bo m (m + 1) c1 c5 xs _ RA.out RB.out (al_len (by omega)) 0 (rng_zero n0)).mono ?_); rintro e wx ⟨rfl, hb⟩; have GG := hid (GG.out.below hb.out); have RA := hid (RA.out.keep hb.out); have RB := hid (RB.out.keep hb.out); have RS := hid (RS.out.keep hb.out); have BR := hid (Below.next BR.out hb.out))
        | (go_at_call 12; with_reducible (refine (equal_bad _ _ n GG.out.vq (by omega) _ bo m (m + 1) c1 c5 xs _ RA.out RB.out (al_len (by omega))).mono ?_); rintro e wx ⟨rfl, hb⟩; have GG := hid (GG.out.below hb.out); have RA := hid (RA.out.keep hb.out); have RB := hid (RB.out.keep hb.out); have RS := hid (RS.out.keep hb.out); have BR := hid (Below.next BR.out hb.out))
        | (go_at_call 13; with_reducible (refine (lessr_bad _ _ n GG.out.vq (by omega) _ _ m m c1 cap xs _ RA.out RS.out (al_right MB.out NB.out)).mono ?_); rintro e wx ⟨rfl, hb⟩; have GG := hid (GG.out.below hb.out); have RA := hid (RA.out.keep hb.out); have RB := hid (RB.out.keep hb.out); have RS := hid (RS.out.keep hb.out); have BR := hid (Below.next BR.out hb.out))
        | (go_at_call 14; with_reducible (refine (sless_bad _ _ n GG.out.vq (by omega) _ _ m m cap c1 _ xs RS.out RA.out (al_left MB.out NB.out)).mono ?_); rintro e wx ⟨rfl, hb⟩; have GG := hid (GG.out.below hb.out); have RA := hid (RA.out.keep hb.out); have RB := hid (RB.out.keep hb.out); have RS := hid (RS.out.keep hb.out); have BR := hid (Below.next BR.out hb.out))
        | (go_at_call 9; with_reducible (refine (add_bad _ _ n GG.out.vq (by omega) _ _ m m c1 cap xs _ RA.out RS.out (al_right MB.out NB.out)).mono ?_); rintro e wx ⟨rfl, hb⟩; have GG := hid (GG.out.below hb.out); have RA := hid (RA.out.keep hb.out); have RB := hid (RB.out.keep hb.out); have RS := hid (RS.out.keep hb.out); have BR := hid (Below.next BR.out hb.out))
        | (go_at_call 11; with_reducible (refine (neg_bad _ gb n GG.out.vq (by omega) _ m cap _ RS.out (by omega) (al_right MB.out NB.out)).mono ?_); rintro e wx ⟨rfl, hb⟩; have GG := hid (GG.out.below hb.out); have RA := hid (RA.out.keep hb.out); have RB := hid (RB.out.keep hb.out); have RS := hid (RS.out.keep hb.out); have BR := hid (Below.next BR.out hb.out))
        | (go_at_call 11; with_reducible (refine (neg_bad _ gb n GG.out.vq (by omega) none 0 0 [] (row_none _) (by omega) (al_zero rfl)).mono ?_); rintro e wx ⟨rfl, hb⟩; have GG := hid (GG.out.below hb.out); have RA := hid (RA.out.keep hb.out); have RB := hid (RB.out.keep hb.out); have RS := hid (RS.out.keep hb.out); have BR := hid (Below.next BR.out hb.out))
        | (go_at_call 15; with_reducible (refine (aite_none _ _ n GG.out.vq (by omega) _ _ (-1) FB.out NB.out).mono ?_); rintro e wx ⟨rfl, hb⟩; have GG := hid (GG.out.below hb.out); have RA := hid (RA.out.keep hb.out); have RB := hid (RB.out.keep hb.out); have RS := hid (RS.out.keep hb.out); have BR := hid (Below.next BR.out hb.out))
        | (go_at_call 9; with_reducible (refine (add_bad _ (.pointer none) 0 (vq_nil _) (by omega) _ _ m m c1 c1 xs xs RA.out RA.out (al_left MX.out NX.out)).mono ?_); rintro e wx ⟨rfl, hb⟩; have GG := hid (GG.out.below hb.out); have RA := hid (RA.out.keep hb.out); have RB := hid (RB.out.keep hb.out); have RS := hid (RS.out.keep hb.out); have BR := hid (Below.next BR.out hb.out))
        | (go_at_call 6; with_reducible (refine (awake_any _).mono ?_); rintro e wx ⟨rfl, hb⟩; have GG := hid (GG.out.below hb.out); have RA := hid (RA.out.keep hb.out); have RB := hid (RB.out.keep hb.out); have RS := hid (RS.out.keep hb.out); have BR := hid (Below.next BR.out hb.out)))
        go_ret
        exact ⟨rfl, Below.next BB.out BR.out⟩
      · have FB : Hid (-9223372036854775808 ≤ a2 ∧ a2 ≤ 9223372036854775807) := hid (by omega)
        have NB : Hid (¬ rng n a2) := hid (by unfold rng; omega)
        have RS : Hid (Row (w8.setCell ⟨gx, k, none⟩ (.int .i64 a2)) (some ⟨gx, 0, none⟩) m cap (xs.set k a2)) := hid (by
          have := stored HGX.out FX.out (by rw [LX.out]; exact hcap) hmax HCX.out (by rw [LX.out]; exact hkm) FB.out
          rw [LX.out] at this; exact this)
        have MB : Hid (a2 ∈ xs.set k a2) := hid (List.mem_set (by rw [LX.out]; exact hkm) _)
        have BR : Hid (Below wr.heap.size wr (w8.setCell ⟨gx, k, none⟩ (.int .i64 a2))) := hid (Below.next B5.out (B8.out.setCell hgx _))
        have GG := hid (GG.out.below BR.out)
        have RA := hid (TA.out.below BR.out).row
        have RB := hid (RB.out.keep (show Below wc.heap.size wc (w8.setCell ⟨gx, k, none⟩ (.int .i64 a2)) from B8.out.setCell hgx _))
        have cg0 : ∃ z, w8.cell? ⟨gx, k, none⟩ = some z := ⟨_, (cell_of HGX.out).trans (HCX.out k _ HXK.out)⟩
        obtain ⟨zc, cg⟩ := cg0
        have fg : w8.frozen? ⟨gx, k, none⟩ = false := frozen_of HGX.out
        go_wp2_with (first
        | (go_at_call 9; with_reducible (refine (add_bad _ _ n GG.out.vq (by omega) _ bo m (m + 1) c1 c5 xs _ RA.out RB.out (al_len (by omega))).mono ?_); rintro e wx ⟨rfl, hb⟩; have GG := hid (GG.out.below hb.out); have RA := hid (RA.out.keep hb.out); have RB := hid (RB.out.keep hb.out); have RS := hid (RS.out.keep hb.out); have BR := hid (Below.next BR.out hb.out))
        | (go_at_call 10; with_reducible (refine (sub_bad _ _ n GG.out.vq (by omega) bo _ (m + 1) m c5 c1 _ xs RB.out RA.out (al_len (by omega))).mono ?_); rintro e wx ⟨rfl, hb⟩; have GG := hid (GG.out.below hb.out); have RA := hid (RA.out.keep hb.out); have RB := hid (RB.out.keep hb.out); have RS := hid (RS.out.keep hb.out); have BR := hid (Below.next BR.out hb.out))
        | (go_at_call 21; with_reducible (refine (true_any gb _).mono ?_); rintro e wx ⟨rfl, rfl⟩)
        | (go_at_call 15; with_reducible (refine (aite_bad _ _ n GG.out.vq (by omega) _ bo m (m + 1) c1 c5 xs _ RA.out RB.out (al_len (by omega)) 0 (rng_zero n0)).mono ?_); rintro e wx ⟨rfl, hb⟩; have GG := hid (GG.out.below hb.out); have RA := hid (RA.out.keep hb.out); have RB := hid (RB.out.keep hb.out); have RS := hid (RS.out.keep hb.out); have BR := hid (Below.next BR.out hb.out))
        | (go_at_call 12; with_reducible (refine (equal_bad _ _ n GG.out.vq (by omega) _ bo m (m + 1) c1 c5 xs _ RA.out RB.out (al_len (by omega))).mono ?_); rintro e wx ⟨rfl, hb⟩; have GG := hid (GG.out.below hb.out); have RA := hid (RA.out.keep hb.out); have RB := hid (RB.out.keep hb.out); have RS := hid (RS.out.keep hb.out); have BR := hid (Below.next BR.out hb.out))
        | (go_at_call 13; with_reducible (refine (lessr_bad _ _ n GG.out.vq (by omega) _ _ m m c1 cap xs _ RA.out RS.out (al_right MB.out NB.out)).mono ?_); rintro e wx ⟨rfl, hb⟩; have GG := hid (GG.out.below hb.out); have RA := hid (RA.out.keep hb.out); have RB := hid (RB.out.keep hb.out); have RS := hid (RS.out.keep hb.out); have BR := hid (Below.next BR.out hb.out))
        | (go_at_call 14; with_reducible (refine (sless_bad _ _ n GG.out.vq (by omega) _ _ m m cap c1 _ xs RS.out RA.out (al_left MB.out NB.out)).mono ?_); rintro e wx ⟨rfl, hb⟩; have GG := hid (GG.out.below hb.out); have RA := hid (RA.out.keep hb.out); have RB := hid (RB.out.keep hb.out); have RS := hid (RS.out.keep hb.out); have BR := hid (Below.next BR.out hb.out))
        | (go_at_call 9; with_reducible (refine (add_bad _ _ n GG.out.vq (by omega) _ _ m m c1 cap xs _ RA.out RS.out (al_right MB.out NB.out)).mono ?_); rintro e wx ⟨rfl, hb⟩; have GG := hid (GG.out.below hb.out); have RA := hid (RA.out.keep hb.out); have RB := hid (RB.out.keep hb.out); have RS := hid (RS.out.keep hb.out); have BR := hid (Below.next BR.out hb.out))
        | (go_at_call 11; with_reducible (refine (neg_bad _ gb n GG.out.vq (by omega) _ m cap _ RS.out (by omega) (al_right MB.out NB.out)).mono ?_); rintro e wx ⟨rfl, hb⟩; have GG := hid (GG.out.below hb.out); have RA := hid (RA.out.keep hb.out); have RB := hid (RB.out.keep hb.out); have RS := hid (RS.out.keep hb.out); have BR := hid (Below.next BR.out hb.out))
        | (go_at_call 11; with_reducible (refine (neg_bad _ gb n GG.out.vq (by omega) none 0 0 [] (row_none _) (by omega) (al_zero rfl)).mono ?_); rintro e wx ⟨rfl, hb⟩; have GG := hid (GG.out.below hb.out); have RA := hid (RA.out.keep hb.out); have RB := hid (RB.out.keep hb.out); have RS := hid (RS.out.keep hb.out); have BR := hid (Below.next BR.out hb.out))
        | (go_at_call 15; with_reducible (refine (aite_none _ _ n GG.out.vq (by omega) _ _ a2 FB.out NB.out).mono ?_); rintro e wx ⟨rfl, hb⟩; have GG := hid (GG.out.below hb.out); have RA := hid (RA.out.keep hb.out); have RB := hid (RB.out.keep hb.out); have RS := hid (RS.out.keep hb.out); have BR := hid (Below.next BR.out hb.out))
        | (go_at_call 9; with_reducible (refine (add_bad _ (.pointer none) 0 (vq_nil _) (by omega) _ _ m m c1 c1 xs xs RA.out RA.out (al_left MX.out NX.out)).mono ?_); rintro e wx ⟨rfl, hb⟩; have GG := hid (GG.out.below hb.out); have RA := hid (RA.out.keep hb.out); have RB := hid (RB.out.keep hb.out); have RS := hid (RS.out.keep hb.out); have BR := hid (Below.next BR.out hb.out))
        | (go_at_call 6; with_reducible (refine (awake_any _).mono ?_); rintro e wx ⟨rfl, hb⟩; have GG := hid (GG.out.below hb.out); have RA := hid (RA.out.keep hb.out); have RB := hid (RB.out.keep hb.out); have RS := hid (RS.out.keep hb.out); have BR := hid (Below.next BR.out hb.out)))
        go_ret
        exact ⟨rfl, Below.next BB.out BR.out⟩
  · have HW := hid hW
    clear hW
    go_enter Try.func4, Try.ntmps4
    go_wp2_with (first
      | (go_at_call 5; with_reducible (refine (case_no _ ca cb ci _ HW.out).mono ?_); rintro e w3 ⟨rfl, hb3⟩; have bb := hid (Below.next bb.out hb3.out))
      | (go_at_call 6; with_reducible (refine (awake_any _).mono ?_); rintro e w4 ⟨rfl, hb⟩; have bb := hid (Below.next bb.out hb.out)))
    go_ret
    exact ⟨rfl, bb.out⟩

end Go.Proofs.Ytmjnepmgjolndaa
