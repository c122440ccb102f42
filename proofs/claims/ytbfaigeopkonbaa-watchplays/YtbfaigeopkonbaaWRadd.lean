/-
  The document's Add: a clause more.
-/
import Derived.Test.YtbfaigeopkonbaaWRfn
namespace Go.Proofs.Ytbfaigeopkonbaa
open Go.RowKit Go.Maps
set_option linter.unusedVariables false

/-- The lists of lists is the new one, in the first box. -/
structure RaA (w0 w : World) (n : Nat) (v6 ta : Value) (vs : List Value) (len : Nat) (ths : List Bool) (z0 z1 z2 : Value) (w7 : World) : Prop where
  k1 : w7.heap[w.heap.size]? = some (.cells #[.int .i64 n, v6, ta] 32 (0, 0))
  k2 : w7.heap[w.heap.size + 1]? = some (.cells #[z0, z1, z2] 32 (0, 0))
  ol : w7.ownsRow w0.heap.size 36 1 v6 len vs
  ot : w7.ownsRow w0.heap.size 4 1 ta ths.length (ths.map Value.bool)
  b : Below w.heap.size w w7

theorem Below.low {w0 w w' : World} (b0 : Below w0.heap.size w0 w) (b : Below w.heap.size w w') : w0.heap.size ≤ w'.heap.size := Nat.le_trans b0.size b.size

theorem radd_mid {w0 w wr w5 w6 : World} {n len : Nat} {la ta v6 z0 z1 z2 : Value} {vs : List Value} {ths : List Bool} (h0 : w0.heap.size ≤ w.heap.size) (k1 : wr.heap[w.heap.size]? = some (.cells #[.int .i64 n, la, ta] 32 (0, 0))) (k2 : wr.heap[w.heap.size + 1]? = some (.cells #[z0, z1, z2] 32 (0, 0))) (b4 : Below w.heap.size w wr)
    (ot : wr.ownsRow w0.heap.size 4 1 ta ths.length (ths.map Value.bool)) (b5 : Below wr.heap.size wr w5) (b6 : Below wr.heap.size w5 w6) (own6 : w6.ownsRow wr.heap.size 36 1 v6 len vs) :
    ∃ a6 c6, v6 = .slice a6 len c6 ∧ w6.heap[w.heap.size]? = some (.cells #[.int .i64 n, la, ta] 32 (0, 0)) ∧ Hid (RaA w0 w n v6 ta vs len ths z0 z1 z2 (w6.setCell ⟨w.heap.size, 1, none⟩ v6)) := by
  obtain ⟨a6, c6, e6, _⟩ := rown_shape own6
  have b56 := b5.trans b6
  have m1 := wbox_keep k1 b56
  have m2 := wbox_keep k2 b56
  have gr := grown_set w6 ⟨w.heap.size, 1, none⟩ v6
  have hsz := blk_lt k2
  refine ⟨a6, c6, e6, m1, set_same m1 _, ?_, ?_, ?_, (Below.next b4 b56).setCell (p := ⟨w.heap.size, 1, none⟩) (Nat.le_refl _) v6⟩
  · rw [gr.block _ (blk_lt m2) (fun e => by have := Option.some.inj e; simp at this)]; exact m2
  · refine rown_low (rown_same own6 (fun j hj t => gr.block j t.lt (fun e => ?_))) (by omega)
    have h1 := (own_lt own6 hj).1
    have h2 := Option.some.inj e
    simp only at h2
    omega
  · refine rown_same (rown_same ot (fun j _ t => b56.block j t.lt)) (fun j hj t => gr.block j t.lt (fun e => ?_))
    cases e
    have := t.one ⟨_, _, m1⟩
    cases this

theorem radd_fin {w0 w w7 w8 w9 : World} {n len : Nat} {v6 ta v9 z0 z1 z2 : Value} {vs : List Value} {ths : List Bool} (h0 : w0.heap.size ≤ w.heap.size) (A : RaA w0 w n v6 ta vs len ths z0 z1 z2 w7) (b8 : Below w7.heap.size w7 w8) (b9 : Below w7.heap.size w8 w9) (own9 : w9.ownsRow w7.heap.size 4 1 v9 (ths.length + 1) (ths.map Value.bool ++ [.bool true])) :
    ∃ a9 c9, v9 = .slice a9 (ths.length + 1) c9 ∧ w9.heap[w.heap.size]? = some (.cells #[.int .i64 n, v6, ta] 32 (0, 0)) ∧ Hid (RaA w0 w n v6 v9 vs len (ths ++ [true]) z0 z1 z2 (w9.setCell ⟨w.heap.size, 2, none⟩ v9)) := by
  obtain ⟨a9, c9, e9, _⟩ := rown_shape own9
  have b89 := b8.trans b9
  have m1 := wbox_keep A.k1 b89
  have m2 := wbox_keep A.k2 b89
  have gr := grown_set w9 ⟨w.heap.size, 2, none⟩ v9
  have hsz := blk_lt A.k2
  refine ⟨a9, c9, e9, m1, set_same m1 _, ?_, ?_, ?_, (Below.next A.b b89).setCell (p := ⟨w.heap.size, 2, none⟩) (Nat.le_refl _) v9⟩
  · rw [gr.block _ (blk_lt m2) (fun e => by have := Option.some.inj e; simp at this)]; exact m2
  · refine rown_same (rown_same A.ol (fun j _ t => b89.block j t.lt)) (fun j hj t => gr.block j t.lt (fun e => ?_))
    cases e
    have := t.one ⟨_, _, m1⟩
    cases this
  · have e : (ths ++ [true]).map Value.bool = ths.map Value.bool ++ [.bool true] := by simp
    rw [e, List.length_append]
    refine rown_low (rown_same own9 (fun j hj t => gr.block j t.lt (fun e => ?_))) (by omega)
    have h1 := (own_lt own9 hj).1
    have h2 := Option.some.inj e
    simp only at h2
    omega

theorem RaA.rw {w0 w w7 : World} {n len : Nat} {v6 ta z0 z1 z2 : Value} {vs : List Value} {ths : List Bool} {xss : List (List Int)} (A : RaA w0 w n v6 ta vs len ths z0 z1 z2 w7) (hl : len = xss.length) (hv : ∀ (j : Nat) (v : Value), vs[j]? = some v → ∃ a m c, v = .slice a m c ∧ U.Row w0 a m c (xss.getD j [])) (ln : ths.length = xss.length) (le : ∀ xs ∈ xss, xs.length ≤ 12) (p q t : Value) :
    RW w0 (((w7.setCell ⟨w.heap.size + 1, 0, none⟩ p).setCell ⟨w.heap.size + 1, 1, none⟩ q).setCell ⟨w.heap.size + 1, 2, none⟩ t) v6 ta xss ths :=
  RW.put3 (r := w.heap.size + 1) ⟨⟨vs, by rw [← hl]; exact A.ol, hv⟩, A.ot, ln, le⟩ A.k2 (by decide) p q t

theorem vs_snoc {w0 : World} {vs : List Value} {xss : List (List Int)} {xs : List Int} {a : Option Addr} {m c : Nat} (hl : vs.length = xss.length) (hv : ∀ (j : Nat) (v : Value), vs[j]? = some v → ∃ a m c, v = .slice a m c ∧ U.Row w0 a m c (xss.getD j [])) (row : U.Row w0 a m c xs) : ∀ (j : Nat) (v : Value), (vs ++ [.slice a m c])[j]? = some v → ∃ a m c, v = .slice a m c ∧ U.Row w0 a m c ((xss ++ [xs]).getD j []) := by
  intro j v hj
  by_cases e : j < vs.length
  · rw [List.getElem?_append_left e] at hj
    obtain ⟨a', m', c', e1, h1⟩ := hv j v hj
    refine ⟨a', m', c', e1, ?_⟩
    have : (xss ++ [xs]).getD j [] = xss.getD j [] := by
      rw [List.getD_eq_getElem?_getD, List.getD_eq_getElem?_getD, List.getElem?_append_left (by omega)]
    rw [this]; exact h1
  · have hlt := (List.getElem?_eq_some_iff.1 hj).1
    simp at hlt
    have e2 : j = vs.length := by omega
    subst e2
    simp at hj
    subst hj
    refine ⟨a, m, c, rfl, ?_⟩
    have : (xss ++ [xs]).getD vs.length [] = xs := by rw [hl]; simp
    rw [this]; exact row

section
variable {w0 w : World} {la ta : Value} {xss : List (List Int)} {ths : List Bool} {n : Nat}

set_option maxRecDepth 20000 in
set_option maxHeartbeats 4000000 in
theorem radd_yes (r : RW w0 w la ta xss ths) (b0 : Below w0.heap.size w0 w) {a1 : Option Addr} {m1 c1 : Nat} {xs : List Int} (row : U.Row w0 a1 m1 c1 xs) (hm : m1 ≤ 12) (hn : n ≤ 1048576) (hs : xss.length ≤ 10000) (hx : ∀ x ∈ xs, 0 ≤ x ∧ x < 2 * (n : Int)) :
    Calls Try.prog 26 #[.agg #[.int .i64 n, la, ta], .slice a1 m1 c1] w fun e w' => ∃ la' ta', e = .returned (.tuple #[.agg #[.int .i64 n, la', ta'], .int .i64 xss.length, .int .i64 0]) ∧ Hid (RW w0 w' la' ta' (xss ++ [xs]) (ths ++ [true])) ∧ Hid (Below w.heap.size w w') := by
  obtain ⟨a, c, a', c', rfl, rfl, h1, h2, h3, h4⟩ := r.shape
  obtain ⟨vs, ol, hvs⟩ := r.ol
  have hln := r.ln
  have HLE : Hid (∀ ys ∈ xss ++ [xs], ys.length ≤ 12) := hid (fun ys hy => by
    rcases List.mem_append.1 hy with h | h
    · exact r.le ys h
    · rw [List.mem_singleton] at h; rw [h, row.1]; exact hm)
  have hvl : vs.length = xss.length := by simpa using ol.1
  have HVS := hid (vs_snoc hvl hvs row)
  have hone : ∀ u ∈ vs, u.oneCell' = true := fun u hu => by
    obtain ⟨j, hj⟩ := List.mem_iff_getElem?.1 hu
    obtain ⟨_, _, _, rfl, _⟩ := hvs j u hj
    rfl
  have HONE := hid hone
  have HOL := hid ol
  have HOT := hid r.ot
  have HR := hid (row.keep b0)
  have HX := hid hx
  have HS0 := hid b0.size
  have HLN := hid hln
  clear row hx r ol hvs hone hln
  go_enter Try.func26, Try.ntmps26
  go_wp2
  generalize hW : ((w.alloc (.cells #[.int .i64 n, .slice a xss.length c, .slice a' xss.length c'] 32)).alloc (.cells #[.int .i64 0, .slice none 0 0, .slice none 0 0] 32)) = W
  have HW := hid hW
  clear hW
  go_loopw [7] (fun i wr => ∃ q : Nat, q ≤ m1 ∧ i = .int .i64 q ∧ Hid (Below W.heap.size W wr)) (fun i _ => m1 - (intOf i).toNat)
  case atStart => exact ⟨0, Nat.zero_le _, rfl, hid (Below.refl _ _)⟩
  case round =>
    obtain ⟨q, hq, rfl, hb⟩ := hrel
    have hB := hb.out
    rw [← HW.out] at hB
    obtain ⟨k1, k2, b4⟩ := wtwo_boxes hB
    have k3 := wbox_cells k1
    obtain ⟨⟨d0, d1, d2⟩, d3, d4, d5⟩ := k3
    have HB4 := hid b4
    have K1 := hid k1
    have K2 := hid k2
    clear hB b4 k1 k2
    by_cases hlt : q < m1
    · have hlt' : (q : Int) < m1 := by omega
      obtain ⟨bb, off, y, rfl, hc, hy, y0, y1⟩ := (HR.out.keep HB4.out).at hlt
      have hg := HX.out y (List.mem_of_getElem? hy.out)
      obtain ⟨v, hv⟩ : ∃ v : Nat, y / 2 = v := ⟨(y / 2).toNat, by omega⟩
      have hdv : y.tdiv 2 = (v : Int) := by rw [Int.tdiv_eq_ediv_of_nonneg (by omega)]; exact hv
      have hvb : (v : Int) ≤ 9223372036854775807 := by omega
      have hneg' : ¬ y < 0 := by omega
      have hnd : decide (y < 0) = false := by simpa using hneg'
      have hge' : ¬ (n : Int) ≤ v := by omega
      have hged : decide (n ≤ v) = false := by simp; omega
      clear hv hy hg
      go_wp2
      go_region
      all_goals go_wp2
      all_goals go_roundw
      all_goals first
        | exact ⟨q + 1, by omega, by go_num, hid (Below.next hb.out (below_drew wr))⟩
        | (simp only [intOf]; omega)
    · have hltd : decide ((q : Int) < m1) = false := by simp; omega
      have hbd : xss.length ≤ 1000000 := by omega
      have HOL2 : Hid (wr.ownsRow w0.heap.size 36 1 (.slice a xss.length c) xss.length vs) := hid (rown_same HOL.out (fun j _ t => HB4.out.block j t.lt))
      have HOT2 : Hid (wr.ownsRow w0.heap.size 4 1 (.slice a' xss.length c') ths.length (ths.map Value.bool)) := hid (rown_same HOT.out (fun j _ t => HB4.out.block j t.lt))
      go_upto_region 10 with (first
        | (at_builtin; refine copy36 rfl _ _ rfl rfl _ rfl w0.heap.size xss.length vs HOL2.out HONE.out hbd ?_; intro v5 w5 own5 b5)
        | (at_builtin; refine one36 (w1 := w5) rfl _ _ rfl (.slice a1 m1 c1) rfl rfl wr.heap.size xss.length v5 vs rfl own5.out _ rfl (by simp) hbd b5.out.size ?_; intro v6 w6 own6 b6; have A6 := radd_mid (la := .slice a xss.length c) HS0.out K1.out K2.out HB4.out HOT2.out b5.out b6.out own6.out; obtain ⟨a6, c6, rfl, q1, A7⟩ := A6; have q3 := wbox_cells q1; obtain ⟨⟨f0, f1, f2⟩, f3, f4, f5⟩ := q3))
      revert A7
      generalize (w6.setCell ⟨w.heap.size, 1, none⟩ (.slice a6 (xss.length + 1) c6)) = w7
      intro A7
      clear f0 f1 f2 f3 f4 f5 q1 d0 d1 d2 d3 d4 d5
      have q3 := wbox_cells A7.out.k1
      obtain ⟨⟨g0, g1, g2⟩, g3, g4, g5⟩ := q3
      go_upto_region 13 with (first
        | (at_builtin; refine copy4 rfl _ _ rfl rfl _ rfl w0.heap.size ths.length (ths.map Value.bool) A7.out.ot (bools_one ths) (by rw [HLN.out]; exact hbd) ?_; intro v8 w8 own8 b8)
        | (at_builtin; refine one4 (w1 := w8) rfl _ _ rfl (.bool true) rfl rfl w7.heap.size ths.length v8 (ths.map Value.bool) rfl own8.out _ rfl (by simp) (by rw [HLN.out]; exact hbd) b8.out.size ?_; intro v9 w9 own9 b9; have A9 := radd_fin HS0.out A7.out b8.out b9.out own9.out; obtain ⟨a9, c9, rfl, q1, A10⟩ := A9; have q3 := wbox_cells q1; obtain ⟨⟨f0, f1, f2⟩, f3, f4, f5⟩ := q3))
      revert A10
      generalize (w9.setCell ⟨w.heap.size, 2, none⟩ (.slice a9 (ths.length + 1) c9)) = wt
      intro A10
      clear f0 f1 f2 f3 f4 f5 q1 g0 g1 g2 g3 g4 g5
      have q3 := wbox_cells A10.out.k1
      obtain ⟨⟨g0, g1, g2⟩, g3, g4, g5⟩ := q3
      have q4 := wbox_cells A10.out.k2
      obtain ⟨⟨r0, r1, r2⟩, r3, r4, r5⟩ := q4
      have hmx : (xss.length : Int) + 1 ≤ 9223372036854775807 := by omega
      go_region
      all_goals go_wp2
      all_goals refine bodyPost_ret (wresults_box3 rfl _ _ (w.heap.size + 1) (.int .i64 n) (.slice a6 (xss.length + 1) c6) (.slice a9 (ths.length + 1) c9) rfl (by simp [go_sem, r0]) (by simp [go_sem, r1]) (by simp [go_sem, r2])) rfl ?_
      all_goals have RF := A10.out.rw (xss := xss ++ [xs]) (by simp) HVS.out (by simp [HLN.out]) HLE.out (.int .i64 n) (.slice a6 (xss.length + 1) c6) (.slice a9 (ths.length + 1) c9)
      all_goals have BF := wput3_below A10.out.b (r := w.heap.size + 1) (by omega) (.int .i64 (n : Int)) (.slice a6 (xss.length + 1) c6) (.slice a9 (ths.length + 1) c9)
      all_goals exact ⟨_, _, rfl, hid (RF.below (below_drew _)), hid (Below.next BF (below_drew _))⟩
end

end Go.Proofs.Ytbfaigeopkonbaa
