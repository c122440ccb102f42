/-
  The walk of SatAgain, where clauses are searched.
-/
import Derived.Test.YtimfjoinjfecjaaGreatQ52

namespace Go.Proofs.YtimfjoinjfecjaaGreat
open Go.RowKit Go.Maps
set_option linter.unusedVariables false

theorem ax_keep {n bud : Nat} {l : List (List Int)} {w w' : World} {st : Int} {a1 : Option Addr} {n1 c1 cf : Nat} {a3 : Option Addr} {n3 c3 : Nat} {P : List (List Int)} {t : List Bool} (h : Ax n bud l w st a1 n1 c1 cf a3 n3 c3 P t) (b : Below w.heap.size w w') : Ax n bud l w' st a1 n1 c1 cf a3 n3 c3 P t := ⟨h.at_, h.md.keep b, h.mn, h.pf.keep b⟩

theorem ax_same {n bud : Nat} {l : List (List Int)} {w w' : World} {st st' : Int} {a1 a1' : Option Addr} {n1 c1 cf n1' c1' cf' : Nat} {a3 a3' : Option Addr} {n3 c3 n3' c3' : Nat} {P P' : List (List Int)} {t t' : List Bool} (h : Ax n bud l w st a1 n1 c1 cf a3 n3 c3 P t) (h' : Ax n bud l w' st' a1' n1' c1' cf' a3' n3' c3' P' t') : cf = cf' ∧ P = P' ∧ st = st' ∧ t = t' ∧ n1 = n1' ∧ n3 = n3' := by
  obtain ⟨e1, e2, e3, e4⟩ := h.at_.alike (Nat.le_refl _) h'.at_ (.inl rfl)
  subst e1; subst e2; subst e3; subst e4
  exact ⟨rfl, rfl, rfl, rfl, h.mn.trans h'.mn.symm, h.pf.1.symm.trans h'.pf.1⟩

theorem ax_more {n b1 b2 : Nat} {l : List (List Int)} {w w' : World} {st st' : Int} {a1 a1' : Option Addr} {n1 c1 cf n1' c1' cf' : Nat} {a3 a3' : Option Addr} {n3 c3 n3' c3' : Nat} {P P' : List (List Int)} {t t' : List Bool} (hb : b1 ≤ b2) (h : Ax n b1 l w st a1 n1 c1 cf a3 n3 c3 P t) (h' : Ax n b2 l w' st' a1' n1' c1' cf' a3' n3' c3' P' t') : st = 0 ∨ ((st == 0) = false ∧ st = st' ∧ cf = cf') := by
  by_cases e : st = 0
  · exact .inl e
  · obtain ⟨e1, e2, e3, e4⟩ := h.at_.alike hb h'.at_ (.inr e)
    exact .inr ⟨beq_eq_false_iff_ne.2 e, e3, e1⟩

section
variable {w : World} {a : Option Addr} {len cap : Nat} {z : List (List Int)}
set_option maxRecDepth 20000 in
set_option maxHeartbeats 8000000 in
theorem again_good (v : Nat) (x y : Nat) (hg : U.Grid w a len cap z) (hx : x ≤ 255) (hy : y ≤ 255) (hf : ¬ U.fewF z 60 = 0) (hv : v ≤ 40) (hc : U.chkF v z = 0) :
    Calls Tryz.prog 6 #[.int .i64 v, .slice a len cap, .agg #[.int .u8 x, .int .u8 y]] w fun e w' => e = .returned (.bool true) ∧ Below w.heap.size w w' := by
  have HB0 := hid (alloc_below w (.cells #[.int .u8 x, .int .u8 y] 39))
  have HG := hid (hg.keep HB0.out)
  have HC := hid hc
  clear hg hc
  obtain ⟨fz, hfz⟩ : ∃ fz, U.fewF z 60 = fz := ⟨_, rfl⟩
  have HFN := hid (few_parts (m := 60) hf)
  rw [hfz] at hf
  have hf0 : (fz == 0) = false := by rw [beq_eq_false_iff_ne]; exact hf
  have HF := hid hfz
  clear hfz
  have hv' : ¬ (40 : Int) < v := by omega
  obtain ⟨n, hn⟩ : ∃ n, min x y = n := ⟨_, rfl⟩
  obtain ⟨mm, hmm⟩ : ∃ mm, max x y = mm := ⟨_, rfl⟩
  have mn : ∀ W, (Builtin.min_ #[3, 3] 3 #[.int .i64 x, .int .i64 y]).run Tryz.prog W = .ok (.int .i64 (n : Nat)) W := fun W => by rw [← hn]; exact min_is W x y
  have hM : max (x : Int) (y : Int) = (mm : Int) := by omega
  have hn255 : n ≤ 255 := by omega
  have hm255 : mm ≤ 255 := by omega
  have HNM : Hid (n ≤ mm) := hid (by omega)
  clear hn hmm
  go_enter Tryz.func6, Tryz.ntmps6
  go_wp2_with (first
    | (go_at_call 7; with_reducible (refine (U.few_any _ _ _ _ _ _ HG.out).mono ?_); rw [HF.out]; rintro e w1 ⟨rfl, e1⟩; subst e1)
    | (go_at_call 9; with_reducible (refine (sol_x HG.out HC.out HFN.out.1 HFN.out.2 hv hn255).mono ?_); rintro e w2 ⟨st, a1, n1, c1, cf, a3, n3, c3, P, t, rfl, b2, AA⟩; have HG2 := hid (HG.out.keep (Below.next b2.out (alloc_below w2 (.cells #[.int .i64 st, .slice a1 n1 c1, .int .i64 cf, .slice a3 n3 c3] 27)))))
    | (go_at_call 9; with_reducible (refine (sol_x HG2.out HC.out HFN.out.1 HFN.out.2 hv hn255).mono ?_); rintro e w3 ⟨st', d1, n1', e1, cf', d3, n3', e3, P', t', rfl, b3, AB⟩; obtain ⟨rfl, rfl, rfl, rfl, rfl, rfl⟩ := ax_same AA.out AB.out; have HG3 := hid (HG2.out.keep (Below.next b3.out (alloc_below w3 (.cells #[.int .i64 st, .slice d1 n1 e1, .int .i64 cf, .slice d3 n3 e3] 27)))))
    | (go_at_call 9; with_reducible (refine (sol_x HG3.out HC.out HFN.out.1 HFN.out.2 hv hm255).mono ?_); rintro e w4 ⟨sc, f1, m1, g1, cc, f3, m3, g3, P2, t2, rfl, b4, AC⟩; have KA := hid (old_blk (Below.next (Below.next b3.out (alloc_below w3 (.cells #[.int .i64 st, .slice d1 n1 e1, .int .i64 cf, .slice d3 n3 e3] 27))) (Below.next b4.out (alloc_below w4 (.cells #[.int .i64 sc, .slice f1 m1 g1, .int .i64 cc, .slice f3 m3 g3] 27)))) (new_same w2 (.cells #[.int .i64 st, .slice a1 n1 c1, .int .i64 cf, .slice a3 n3 c3] 27))); have KB := hid (old_blk (Below.next b4.out (alloc_below w4 (.cells #[.int .i64 sc, .slice f1 m1 g1, .int .i64 cc, .slice f3 m3 g3] 27))) (new_same w3 (.cells #[.int .i64 st, .slice d1 n1 e1, .int .i64 cf, .slice d3 n3 e3] 27))); have p0 : (w4.alloc (.cells #[.int .i64 sc, .slice f1 m1 g1, .int .i64 cc, .slice f3 m3 g3] 27)).cell? ⟨w2.heap.size, 0, none⟩ = some (.int .i64 st) := cell_of KA.out; have p1 : (w4.alloc (.cells #[.int .i64 sc, .slice f1 m1 g1, .int .i64 cc, .slice f3 m3 g3] 27)).cell? ⟨w2.heap.size, 1, none⟩ = some (.slice a1 n1 c1) := cell_of KA.out; have p2 : (w4.alloc (.cells #[.int .i64 sc, .slice f1 m1 g1, .int .i64 cc, .slice f3 m3 g3] 27)).cell? ⟨w2.heap.size, 2, none⟩ = some (.int .i64 cf) := cell_of KA.out; have p3 : (w4.alloc (.cells #[.int .i64 sc, .slice f1 m1 g1, .int .i64 cc, .slice f3 m3 g3] 27)).cell? ⟨w2.heap.size, 3, none⟩ = some (.slice a3 n3 c3) := cell_of KA.out; have q0 : (w4.alloc (.cells #[.int .i64 sc, .slice f1 m1 g1, .int .i64 cc, .slice f3 m3 g3] 27)).cell? ⟨w3.heap.size, 0, none⟩ = some (.int .i64 st) := cell_of KB.out; have q1 : (w4.alloc (.cells #[.int .i64 sc, .slice f1 m1 g1, .int .i64 cc, .slice f3 m3 g3] 27)).cell? ⟨w3.heap.size, 1, none⟩ = some (.slice d1 n1 e1) := cell_of KB.out; have q2 : (w4.alloc (.cells #[.int .i64 sc, .slice f1 m1 g1, .int .i64 cc, .slice f3 m3 g3] 27)).cell? ⟨w3.heap.size, 2, none⟩ = some (.int .i64 cf) := cell_of KB.out; have q3 : (w4.alloc (.cells #[.int .i64 sc, .slice f1 m1 g1, .int .i64 cc, .slice f3 m3 g3] 27)).cell? ⟨w3.heap.size, 3, none⟩ = some (.slice d3 n3 e3) := cell_of KB.out; have BA := hid (ax_keep AA.out (Below.next (Below.next (alloc_below w2 (.cells #[.int .i64 st, .slice a1 n1 c1, .int .i64 cf, .slice a3 n3 c3] 27)) (Below.next b3.out (alloc_below w3 (.cells #[.int .i64 st, .slice d1 n1 e1, .int .i64 cf, .slice d3 n3 e3] 27)))) (Below.next b4.out (alloc_below w4 (.cells #[.int .i64 sc, .slice f1 m1 g1, .int .i64 cc, .slice f3 m3 g3] 27))))); have BB := hid (ax_keep AB.out (Below.next (alloc_below w3 (.cells #[.int .i64 st, .slice d1 n1 e1, .int .i64 cf, .slice d3 n3 e3] 27)) (Below.next b4.out (alloc_below w4 (.cells #[.int .i64 sc, .slice f1 m1 g1, .int .i64 cc, .slice f3 m3 g3] 27))))); have hn1 : Hid (n1 ≤ 65536) := hid (by have := AA.out.mn; split at this <;> omega); rcases ax_more HNM.out AA.out AC.out with rfl | ⟨hst, rfl, rfl⟩)
    | (go_at_call 14; with_reducible (refine (U.bools_same _ _ _ _ _ _ _ BA.out.md BB.out.md hn1.out).mono ?_); rintro e w5 ⟨rfl, b5⟩; have B5 := hid b5; have s0 := bl_cell b5 p0; have s2 := bl_cell b5 p2; have s3 := bl_cell b5 p3; have s7 := bl_cell b5 q3; have BA5 := hid (BA.out.pf.keep b5); have BB5 := hid (BB.out.pf.keep b5); have KC := hid (old_blk b5 (new_same w4 _)); clear b5)
    | (go_at_call 15; with_reducible (refine (all_same _ _ _ _ _ _ _ BA5.out BB5.out).mono ?_); rintro e w6 ⟨rfl, b6⟩; have u0 := bl_cell b6.out s0; have u2 := bl_cell b6.out s2; have u4 := bl_cell b6.out (cell_of (o := 0) KC.out); have u5 := bl_cell b6.out (cell_of (o := 2) KC.out))
    | (go_at_call 8; with_reducible (refine (awake_is _).mono ?_); rintro e w7 ⟨rfl, b7⟩)
    | fail)
  all_goals go_ret
  all_goals exact ⟨rfl, Below.next (Below.next (Below.next (Below.next (Below.next (Below.next (Below.next (Below.next (Below.next HB0.out b2.out) (alloc_below _ _)) b3.out) (alloc_below _ _)) b4.out) (alloc_below _ _)) B5.out) b6.out) b7.out⟩
end
end Go.Proofs.YtimfjoinjfecjaaGreat
