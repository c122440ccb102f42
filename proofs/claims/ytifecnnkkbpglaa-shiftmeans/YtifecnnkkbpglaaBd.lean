/-
  The walk of ShiftBad.
-/
import Derived.Test.YtifecnnkkbpglaaWk
import Derived.Test.YtifecnnkkbpglaaCo
namespace Go.Proofs.Ytifecnnkkbpglaa
open Go.RowKit
set_option linter.unusedVariables false

set_option maxRecDepth 20000 in
set_option maxHeartbeats 16000000 in
theorem bad_walk (D0 : Cs) (a1 a2 : Int) (w : World) (w0 : CsFt D0) (w2 : (Lit.int .u8 a2).wf = true) :
    Calls Try.prog 4 #[.agg #[.int .i64 D0.W, .int .u64 D0.A, .int .u64 D0.B, .int .u64 D0.I], .int .i64 a1, .int .u8 a2] w fun e w' => e = .returned (.bool true) ∧ Below w.heap.size w w' := by
  obtain ⟨cw, ca, cb, ci⟩ := D0
  obtain ⟨fw, fa, fb, fi⟩ := w0
  simp only [] at fw fa fb fi
  have f1 := wf_u8 w2
  clear w2
  have bb := hid (new_a w (.cells #[.int .i64 cw, .int .u64 ca, .int .u64 cb, .int .u64 ci] 24))
  by_cases hW : 1 ≤ cw ∧ cw ≤ 40
  · obtain ⟨m, rfl⟩ : ∃ m : Nat, cw = m := ⟨cw.toNat, by omega⟩
    have m1 : 1 ≤ m := by omega
    have m2 : m ≤ 40 := by omega
    have BX : Hid ((w.alloc (.cells #[.int .i64 m, .int .u64 ca, .int .u64 cb, .int .u64 ci] 24)).heap[w.heap.size]? = some (.cells #[.int .i64 m, .int .u64 ca, .int .u64 cb, .int .u64 ci] 24 (0, 0))) := hid (new_same _ _)
    clear hW fw
    go_enter Try.func4, Try.ntmps4
    go_upto_region 6 with (first
      | (go_at_call 5; with_reducible (refine (case_yes 40 _ ca cb ci _ (by omega) (by omega)).mono ?_); rintro e w3 ⟨rfl, hb3⟩; have BX := hid ((hb3.out.block _ (blk_lt BX.out)).trans BX.out); have b3 := hid (Below.next bb.out hb3.out))
      | (go_at_call 7; with_reducible (refine (new_any _).mono ?_); rintro e w4 ⟨gb, rfl, G, F⟩; have BX := hid ((F.out.block _ 24 (typ_of BX.out) (by decide) (by decide)).trans BX.out)))
    have e0 : w4.cell? ⟨w.heap.size, 0, none⟩ = some (.int .i64 m) := by rw [cell_of BX.out]; rfl
    have e1 : w4.cell? ⟨w.heap.size, 1, none⟩ = some (.int .u64 ca) := by rw [cell_of BX.out]; rfl
    have e3 : w4.cell? ⟨w.heap.size, 3, none⟩ = some (.int .u64 ci) := by rw [cell_of BX.out]; rfl
    go_upto_region 7 with (first
      | (go_at_call 8; with_reducible (refine (row_any _ Good.start G.out (by omega) m (by omega) ca ci fa.1 fa.2 fi.1 fi.2).mono ?_); rintro e wr ⟨ao, c1, ho, l2, c2, rfl, hr⟩))
    obtain ⟨xs, hs, n, cs, val, is, lo, hi, g5, ag, G5, F5, ta, th, hl2, la, hh, hcv⟩ := hr.out
    have F5H := hid F5
    have GL := hid g5
    have GG := hid G5
    have TA := hid ta
    have LA := hid la
    have LX : Hid (xs.length = m) := hid la.len
    have hn : n ≤ 100 := by omega
    have hc1 : m ≤ c1 := ta.row.2.1
    have mc1 := ta.row.2.2.1
    obtain ⟨ab, af, rfl, cx⟩ := ta.cells (by omega)
    have m0' : (0 : Int) < m := by omega
    have m0n : 0 < m := by omega
    unfold maxLen at mc1
    clear G5 F5 ta th hh hcv cx hr ag
    go_upto_region 8 with (at_builtin; refine append_ints rfl (.tmp 30) (.tmp 31) rfl wr.heap.size _ [] xs rfl (own_empty (new_same wr _) (Nat.le_refl _)) _ m c1 rfl ((TA.out.below (new_a wr _)).row) (by simp; omega) (new_a wr _).size ?_; intro v8 w8 own8 hb8)
    have O8 : Hid (Own w8 wr.heap.size v8 xs) := hid own8.out
    have B8 : Hid (Below wr.heap.size wr w8) := hid ((new_a wr _).trans hb8.out)
    clear own8 hb8
    obtain ⟨gx, cap, cur, rfl, hgx, hg8, hcap, hmax, hcx⟩ := O8.out.blk (by rw [LX.out]; omega)
    rw [LX.out] at hcap
    rw [LX.out]
    have HGX := hid hg8
    have HCX := hid hcx
    have FX : Hid (Fit xs) := hid O8.out.2
    obtain ⟨k, hk, hkm⟩ : ∃ k : Nat, a2.tmod m = k ∧ k < m := by
      refine ⟨(a2.tmod m).toNat, ?_, ?_⟩
      · have := Int.tmod_nonneg m f1.1
        omega
      · have h1 := Int.tmod_nonneg m f1.1
        have h2 := Int.tmod_lt_of_pos a2 m0'
        omega
    obtain ⟨xk, hxk, _, _⟩ := la.at hkm
    have HXK := hid hxk
    have ewr : IntKind.i64.wrap a2 = a2 := IntWalk.i64_in _ (by omega)
    have ekr : IntKind.i64.wrap (k : Int) = k := IntWalk.i64_in _ (by omega)
    have hkm' : (k : Int) < m := by omega
    have k0' : (0 : Int) ≤ k := by omega
    have mne : ¬ m = 0 := by omega
    have mne' : ((m : Int) == 0) = false := by simp; omega
    have q1 : (1 : Int) ≤ m := by omega
    have q2 : (m : Int) ≤ c1 := by omega
    clear hg8 hcx hxk la g5
    have NB : Hid (∀ n, ¬ rng n (-1)) := hid (fun n => by unfold rng; omega)
    have RS : Hid (TR (w8.setCell ⟨gx, k, none⟩ (.int .i64 (-1))) (some ⟨gx, 0, none⟩) m cap (xs.set k (-1))) := hid (by
      have := stored HGX.out FX.out (by rw [LX.out]; exact hcap) hmax HCX.out (by rw [LX.out]; exact hkm) (y := -1) (by omega)
      rw [LX.out] at this
      exact ⟨this, fun _ => ⟨gx, 0, rfl, typ_of (set_same HGX.out _), fun q => q⟩⟩)
    have MB : Hid ((-1) ∈ xs.set k (-1)) := hid (List.mem_set (by rw [LX.out]; exact hkm) _)
    have BR : Hid (Below wr.heap.size wr (w8.setCell ⟨gx, k, none⟩ (.int .i64 (-1)))) := hid (B8.out.setCell hgx _)
    have S := hid ((Sx.start GL.out GG.out).below BR.out)
    have RT := hid (TA.out.below BR.out)
    have cg0 : ∃ z, w8.cell? ⟨gx, k, none⟩ = some z := ⟨_, (cell_of HGX.out).trans (HCX.out k _ HXK.out)⟩
    obtain ⟨zc, cg⟩ := cg0
    have fg : w8.frozen? ⟨gx, k, none⟩ = false := frozen_of HGX.out
    have four : a1 = 9 ∨ a1 = 10 ∨ a1 = 11 ∨ (¬ a1 = 9 ∧ ¬ a1 = 10 ∧ ¬ a1 = 11) := by omega
    by_cases hone : c1 = 1
    · subst hone
      rcases four with rfl | rfl | rfl | ⟨o1, o2, o3⟩
      case inr.inr.inr =>
        have HOP : Hid (mvB a1 = false) := hid (by simp [mvB, o1, o2, o3])
        have u1 : (a1 == 9) = false := by simp [o1]
        have u2 : (a1 == 10) = false := by simp [o2]
        have u3 : (a1 == 11) = false := by simp [o3]
        go_wp2_with (first
          | (go_at_call 9; with_reducible (refine (move_any _ S.out.g S.out.h (by have := S.out.hi; omega) 9 rfl _ _ m _ _ xs xs RT.out RT.out _ _ (LA.out.more S.out.lo S.out.ag) (LA.out.more S.out.lo S.out.ag) (by omega) m0n).mono ?_); rintro e wx ⟨rb, rfl, hr⟩; obtain ⟨n2, cs2, val2, zs, lo2, S, ag2, F2, TZ, LZ⟩ := hr.out.go S.out; have RT := hid (RT.out.fg F2.out); have RS := hid (RS.out.fg F2.out); clear hr TZ LZ F2)
          | (go_at_call 9; with_reducible (refine (move_any _ S.out.g S.out.h (by have := S.out.hi; omega) 10 rfl _ _ m _ _ xs xs RT.out RT.out _ _ (LA.out.more S.out.lo S.out.ag) (LA.out.more S.out.lo S.out.ag) (by omega) m0n).mono ?_); rintro e wx ⟨rb, rfl, hr⟩; obtain ⟨n2, cs2, val2, zs, lo2, S, ag2, F2, TZ, LZ⟩ := hr.out.go S.out; have RT := hid (RT.out.fg F2.out); have RS := hid (RS.out.fg F2.out); clear hr TZ LZ F2)
          | (go_at_call 9; with_reducible (refine (move_any _ S.out.g S.out.h (by have := S.out.hi; omega) 11 rfl _ _ m _ _ xs xs RT.out RT.out _ _ (LA.out.more S.out.lo S.out.ag) (LA.out.more S.out.lo S.out.ag) (by omega) m0n).mono ?_); rintro e wx ⟨rb, rfl, hr⟩; obtain ⟨n2, cs2, val2, zs, lo2, S, ag2, F2, TZ, LZ⟩ := hr.out.go S.out; have RT := hid (RT.out.fg F2.out); have RS := hid (RS.out.fg F2.out); clear hr TZ LZ F2)
          | (go_at_call 9; with_reducible (refine (move_other _ a1 HOP.out _ _ _).mono ?_); rintro e wx ⟨rfl, hb⟩; have S := hid (S.out.below hb.out); have RT := hid (RT.out.below hb.out); have RS := hid (RS.out.below hb.out))
          | (go_at_call 9; with_reducible (refine (move_bad _ 9 rfl gb _ S.out.h.vq (by have := S.out.hi; omega) S.out.g.pos _ _ m m _ cap xs _ RT.out.row RS.out.row (al_right MB.out (NB.out _))).mono ?_); rintro e wx ⟨rfl, hb⟩; have S := hid (S.out.below hb.out); have RT := hid (RT.out.below hb.out); have RS := hid (RS.out.below hb.out))
          | (go_at_call 9; with_reducible (refine (move_bad _ 11 rfl gb _ S.out.h.vq (by have := S.out.hi; omega) S.out.g.pos _ _ m m cap _ _ xs RS.out.row RT.out.row (al_left MB.out (NB.out _))).mono ?_); rintro e wx ⟨rfl, hb⟩; have S := hid (S.out.below hb.out); have RT := hid (RT.out.below hb.out); have RS := hid (RS.out.below hb.out))
          | (go_at_call 9; with_reducible (refine (move_bad _ 10 rfl gb _ S.out.h.vq (by have := S.out.hi; omega) S.out.g.pos _ _ m 0 _ _ xs (xs.drop 1) RT.out.row (RT.out.row.drop (j := 1) (bo := some ⟨ab, af, none⟩) (n' := 0) (c' := 0) (by omega) (by omega) (by omega) (fun e => by simp at e) (fun b o e h => by omega)) (al_len (by omega))).mono ?_); rintro e wx ⟨rfl, hb⟩; have S := hid (S.out.below hb.out); have RT := hid (RT.out.below hb.out); have RS := hid (RS.out.below hb.out))
          | (go_at_call 9; with_reducible (refine (move_nil _ 10 rfl _ _).mono ?_); rintro e wx ⟨rfl, hb⟩; have S := hid (S.out.below hb.out); have RT := hid (RT.out.below hb.out); have RS := hid (RS.out.below hb.out))
          | (go_at_call 6; with_reducible (refine (awake_any _).mono ?_); rintro e wx ⟨rfl, hb⟩; have S := hid (S.out.below hb.out); have RT := hid (RT.out.below hb.out); have RS := hid (RS.out.below hb.out)))
        go_ret
        exact ⟨rfl, b3.out.trans ((((F.out.trans F5H.out).trans S.out.f).be rfl (Below.refl _ _)).mono b3.out.size)⟩
      all_goals
        go_wp2_with (first
          | (go_at_call 9; with_reducible (refine (move_any _ S.out.g S.out.h (by have := S.out.hi; omega) 9 rfl _ _ m _ _ xs xs RT.out RT.out _ _ (LA.out.more S.out.lo S.out.ag) (LA.out.more S.out.lo S.out.ag) (by omega) m0n).mono ?_); rintro e wx ⟨rb, rfl, hr⟩; obtain ⟨n2, cs2, val2, zs, lo2, S, ag2, F2, TZ, LZ⟩ := hr.out.go S.out; have RT := hid (RT.out.fg F2.out); have RS := hid (RS.out.fg F2.out); clear hr TZ LZ F2)
          | (go_at_call 9; with_reducible (refine (move_any _ S.out.g S.out.h (by have := S.out.hi; omega) 10 rfl _ _ m _ _ xs xs RT.out RT.out _ _ (LA.out.more S.out.lo S.out.ag) (LA.out.more S.out.lo S.out.ag) (by omega) m0n).mono ?_); rintro e wx ⟨rb, rfl, hr⟩; obtain ⟨n2, cs2, val2, zs, lo2, S, ag2, F2, TZ, LZ⟩ := hr.out.go S.out; have RT := hid (RT.out.fg F2.out); have RS := hid (RS.out.fg F2.out); clear hr TZ LZ F2)
          | (go_at_call 9; with_reducible (refine (move_any _ S.out.g S.out.h (by have := S.out.hi; omega) 11 rfl _ _ m _ _ xs xs RT.out RT.out _ _ (LA.out.more S.out.lo S.out.ag) (LA.out.more S.out.lo S.out.ag) (by omega) m0n).mono ?_); rintro e wx ⟨rb, rfl, hr⟩; obtain ⟨n2, cs2, val2, zs, lo2, S, ag2, F2, TZ, LZ⟩ := hr.out.go S.out; have RT := hid (RT.out.fg F2.out); have RS := hid (RS.out.fg F2.out); clear hr TZ LZ F2)
          | (go_at_call 9; with_reducible (refine (move_other _ a1 HOP.out _ _ _).mono ?_); rintro e wx ⟨rfl, hb⟩; have S := hid (S.out.below hb.out); have RT := hid (RT.out.below hb.out); have RS := hid (RS.out.below hb.out))
          | (go_at_call 9; with_reducible (refine (move_bad _ 9 rfl gb _ S.out.h.vq (by have := S.out.hi; omega) S.out.g.pos _ _ m m _ cap xs _ RT.out.row RS.out.row (al_right MB.out (NB.out _))).mono ?_); rintro e wx ⟨rfl, hb⟩; have S := hid (S.out.below hb.out); have RT := hid (RT.out.below hb.out); have RS := hid (RS.out.below hb.out))
          | (go_at_call 9; with_reducible (refine (move_bad _ 11 rfl gb _ S.out.h.vq (by have := S.out.hi; omega) S.out.g.pos _ _ m m cap _ _ xs RS.out.row RT.out.row (al_left MB.out (NB.out _))).mono ?_); rintro e wx ⟨rfl, hb⟩; have S := hid (S.out.below hb.out); have RT := hid (RT.out.below hb.out); have RS := hid (RS.out.below hb.out))
          | (go_at_call 9; with_reducible (refine (move_bad _ 10 rfl gb _ S.out.h.vq (by have := S.out.hi; omega) S.out.g.pos _ _ m 0 _ _ xs (xs.drop 1) RT.out.row (RT.out.row.drop (j := 1) (bo := some ⟨ab, af, none⟩) (n' := 0) (c' := 0) (by omega) (by omega) (by omega) (fun e => by simp at e) (fun b o e h => by omega)) (al_len (by omega))).mono ?_); rintro e wx ⟨rfl, hb⟩; have S := hid (S.out.below hb.out); have RT := hid (RT.out.below hb.out); have RS := hid (RS.out.below hb.out))
          | (go_at_call 9; with_reducible (refine (move_nil _ 10 rfl _ _).mono ?_); rintro e wx ⟨rfl, hb⟩; have S := hid (S.out.below hb.out); have RT := hid (RT.out.below hb.out); have RS := hid (RS.out.below hb.out))
          | (go_at_call 6; with_reducible (refine (awake_any _).mono ?_); rintro e wx ⟨rfl, hb⟩; have S := hid (S.out.below hb.out); have RT := hid (RT.out.below hb.out); have RS := hid (RS.out.below hb.out)))
        go_ret
        exact ⟨rfl, b3.out.trans ((((F.out.trans F5H.out).trans S.out.f).be rfl (Below.refl _ _)).mono b3.out.size)⟩
    · rcases four with rfl | rfl | rfl | ⟨o1, o2, o3⟩
      case inr.inr.inr =>
        have HOP : Hid (mvB a1 = false) := hid (by simp [mvB, o1, o2, o3])
        have u1 : (a1 == 9) = false := by simp [o1]
        have u2 : (a1 == 10) = false := by simp [o2]
        have u3 : (a1 == 11) = false := by simp [o3]
        go_wp2_with (first
          | (go_at_call 9; with_reducible (refine (move_any _ S.out.g S.out.h (by have := S.out.hi; omega) 9 rfl _ _ m _ _ xs xs RT.out RT.out _ _ (LA.out.more S.out.lo S.out.ag) (LA.out.more S.out.lo S.out.ag) (by omega) m0n).mono ?_); rintro e wx ⟨rb, rfl, hr⟩; obtain ⟨n2, cs2, val2, zs, lo2, S, ag2, F2, TZ, LZ⟩ := hr.out.go S.out; have RT := hid (RT.out.fg F2.out); have RS := hid (RS.out.fg F2.out); clear hr TZ LZ F2)
          | (go_at_call 9; with_reducible (refine (move_any _ S.out.g S.out.h (by have := S.out.hi; omega) 10 rfl _ _ m _ _ xs xs RT.out RT.out _ _ (LA.out.more S.out.lo S.out.ag) (LA.out.more S.out.lo S.out.ag) (by omega) m0n).mono ?_); rintro e wx ⟨rb, rfl, hr⟩; obtain ⟨n2, cs2, val2, zs, lo2, S, ag2, F2, TZ, LZ⟩ := hr.out.go S.out; have RT := hid (RT.out.fg F2.out); have RS := hid (RS.out.fg F2.out); clear hr TZ LZ F2)
          | (go_at_call 9; with_reducible (refine (move_any _ S.out.g S.out.h (by have := S.out.hi; omega) 11 rfl _ _ m _ _ xs xs RT.out RT.out _ _ (LA.out.more S.out.lo S.out.ag) (LA.out.more S.out.lo S.out.ag) (by omega) m0n).mono ?_); rintro e wx ⟨rb, rfl, hr⟩; obtain ⟨n2, cs2, val2, zs, lo2, S, ag2, F2, TZ, LZ⟩ := hr.out.go S.out; have RT := hid (RT.out.fg F2.out); have RS := hid (RS.out.fg F2.out); clear hr TZ LZ F2)
          | (go_at_call 9; with_reducible (refine (move_other _ a1 HOP.out _ _ _).mono ?_); rintro e wx ⟨rfl, hb⟩; have S := hid (S.out.below hb.out); have RT := hid (RT.out.below hb.out); have RS := hid (RS.out.below hb.out))
          | (go_at_call 9; with_reducible (refine (move_bad _ 9 rfl gb _ S.out.h.vq (by have := S.out.hi; omega) S.out.g.pos _ _ m m _ cap xs _ RT.out.row RS.out.row (al_right MB.out (NB.out _))).mono ?_); rintro e wx ⟨rfl, hb⟩; have S := hid (S.out.below hb.out); have RT := hid (RT.out.below hb.out); have RS := hid (RS.out.below hb.out))
          | (go_at_call 9; with_reducible (refine (move_bad _ 11 rfl gb _ S.out.h.vq (by have := S.out.hi; omega) S.out.g.pos _ _ m m cap _ _ xs RS.out.row RT.out.row (al_left MB.out (NB.out _))).mono ?_); rintro e wx ⟨rfl, hb⟩; have S := hid (S.out.below hb.out); have RT := hid (RT.out.below hb.out); have RS := hid (RS.out.below hb.out))
          | (go_at_call 9; with_reducible (refine (move_bad _ 10 rfl gb _ S.out.h.vq (by have := S.out.hi; omega) S.out.g.pos _ _ m (m - 1) _ _ xs (xs.drop 1) RT.out.row (RT.out.row.drop (j := 1) (bo := some ⟨ab, af + 1, none⟩) (n' := m - 1) (c' := c1 - 1) (by omega) rfl rfl (fun e => by simp at e) (fun b o e h => by cases e; rfl)) (al_len (by omega))).mono ?_); rintro e wx ⟨rfl, hb⟩; have S := hid (S.out.below hb.out); have RT := hid (RT.out.below hb.out); have RS := hid (RS.out.below hb.out))
          | (go_at_call 9; with_reducible (refine (move_nil _ 10 rfl _ _).mono ?_); rintro e wx ⟨rfl, hb⟩; have S := hid (S.out.below hb.out); have RT := hid (RT.out.below hb.out); have RS := hid (RS.out.below hb.out))
          | (go_at_call 6; with_reducible (refine (awake_any _).mono ?_); rintro e wx ⟨rfl, hb⟩; have S := hid (S.out.below hb.out); have RT := hid (RT.out.below hb.out); have RS := hid (RS.out.below hb.out)))
        go_ret
        exact ⟨rfl, b3.out.trans ((((F.out.trans F5H.out).trans S.out.f).be rfl (Below.refl _ _)).mono b3.out.size)⟩
      all_goals
        go_wp2_with (first
          | (go_at_call 9; with_reducible (refine (move_any _ S.out.g S.out.h (by have := S.out.hi; omega) 9 rfl _ _ m _ _ xs xs RT.out RT.out _ _ (LA.out.more S.out.lo S.out.ag) (LA.out.more S.out.lo S.out.ag) (by omega) m0n).mono ?_); rintro e wx ⟨rb, rfl, hr⟩; obtain ⟨n2, cs2, val2, zs, lo2, S, ag2, F2, TZ, LZ⟩ := hr.out.go S.out; have RT := hid (RT.out.fg F2.out); have RS := hid (RS.out.fg F2.out); clear hr TZ LZ F2)
          | (go_at_call 9; with_reducible (refine (move_any _ S.out.g S.out.h (by have := S.out.hi; omega) 10 rfl _ _ m _ _ xs xs RT.out RT.out _ _ (LA.out.more S.out.lo S.out.ag) (LA.out.more S.out.lo S.out.ag) (by omega) m0n).mono ?_); rintro e wx ⟨rb, rfl, hr⟩; obtain ⟨n2, cs2, val2, zs, lo2, S, ag2, F2, TZ, LZ⟩ := hr.out.go S.out; have RT := hid (RT.out.fg F2.out); have RS := hid (RS.out.fg F2.out); clear hr TZ LZ F2)
          | (go_at_call 9; with_reducible (refine (move_any _ S.out.g S.out.h (by have := S.out.hi; omega) 11 rfl _ _ m _ _ xs xs RT.out RT.out _ _ (LA.out.more S.out.lo S.out.ag) (LA.out.more S.out.lo S.out.ag) (by omega) m0n).mono ?_); rintro e wx ⟨rb, rfl, hr⟩; obtain ⟨n2, cs2, val2, zs, lo2, S, ag2, F2, TZ, LZ⟩ := hr.out.go S.out; have RT := hid (RT.out.fg F2.out); have RS := hid (RS.out.fg F2.out); clear hr TZ LZ F2)
          | (go_at_call 9; with_reducible (refine (move_other _ a1 HOP.out _ _ _).mono ?_); rintro e wx ⟨rfl, hb⟩; have S := hid (S.out.below hb.out); have RT := hid (RT.out.below hb.out); have RS := hid (RS.out.below hb.out))
          | (go_at_call 9; with_reducible (refine (move_bad _ 9 rfl gb _ S.out.h.vq (by have := S.out.hi; omega) S.out.g.pos _ _ m m _ cap xs _ RT.out.row RS.out.row (al_right MB.out (NB.out _))).mono ?_); rintro e wx ⟨rfl, hb⟩; have S := hid (S.out.below hb.out); have RT := hid (RT.out.below hb.out); have RS := hid (RS.out.below hb.out))
          | (go_at_call 9; with_reducible (refine (move_bad _ 11 rfl gb _ S.out.h.vq (by have := S.out.hi; omega) S.out.g.pos _ _ m m cap _ _ xs RS.out.row RT.out.row (al_left MB.out (NB.out _))).mono ?_); rintro e wx ⟨rfl, hb⟩; have S := hid (S.out.below hb.out); have RT := hid (RT.out.below hb.out); have RS := hid (RS.out.below hb.out))
          | (go_at_call 9; with_reducible (refine (move_bad _ 10 rfl gb _ S.out.h.vq (by have := S.out.hi; omega) S.out.g.pos _ _ m (m - 1) _ _ xs (xs.drop 1) RT.out.row (RT.out.row.drop (j := 1) (bo := some ⟨ab, af + 1, none⟩) (n' := m - 1) (c' := c1 - 1) (by omega) rfl rfl (fun e => by simp at e) (fun b o e h => by cases e; rfl)) (al_len (by omega))).mono ?_); rintro e wx ⟨rfl, hb⟩; have S := hid (S.out.below hb.out); have RT := hid (RT.out.below hb.out); have RS := hid (RS.out.below hb.out))
          | (go_at_call 9; with_reducible (refine (move_nil _ 10 rfl _ _).mono ?_); rintro e wx ⟨rfl, hb⟩; have S := hid (S.out.below hb.out); have RT := hid (RT.out.below hb.out); have RS := hid (RS.out.below hb.out))
          | (go_at_call 6; with_reducible (refine (awake_any _).mono ?_); rintro e wx ⟨rfl, hb⟩; have S := hid (S.out.below hb.out); have RT := hid (RT.out.below hb.out); have RS := hid (RS.out.below hb.out)))
        go_ret
        exact ⟨rfl, b3.out.trans ((((F.out.trans F5H.out).trans S.out.f).be rfl (Below.refl _ _)).mono b3.out.size)⟩
  · have HW := hid hW
    clear hW
    go_enter Try.func4, Try.ntmps4
    go_wp2_with (first
      | (go_at_call 5; with_reducible (refine (case_no 40 _ ca cb ci _ HW.out).mono ?_); rintro e w3 ⟨rfl, hb3⟩; have bb := hid (Below.next bb.out hb3.out))
      | (go_at_call 6; with_reducible (refine (awake_any _).mono ?_); rintro e w4 ⟨rfl, hb⟩; have bb := hid (Below.next bb.out hb.out)))
    go_ret
    exact ⟨rfl, bb.out⟩

end Go.Proofs.Ytifecnnkkbpglaa
