/-
  The document's Remove, All, Run, Set.
-/
import Derived.Test.YtbfaigeopkonbaaWRadd
namespace Go.Proofs.Ytbfaigeopkonbaa
open Go.RowKit Go.Maps
set_option linter.unusedVariables false

theorem rown_set {w : World} {base : Nat} {E : TypeId} {b n cap i : Nat} {xs : List Value} {x : Value} (h : w.ownsRow base E 1 (.slice (some ⟨b, 0, none⟩) n cap) n xs) : (w.setCell ⟨b, i, none⟩ x).ownsRow base E 1 (.slice (some ⟨b, 0, none⟩) n cap) n (xs.set i x) := by
  obtain ⟨h0, h⟩ := h
  refine ⟨by simpa using h0, ?_⟩
  rcases h with ⟨e, h⟩ | ⟨g, cap, cur, e, hb, hg, h1, h2, h3, h4⟩
  · cases e
  · cases e
    refine .inr ⟨b, cap, _, rfl, hb, set_same hg _, h1, h2, by simpa using h3, ?_⟩
    rw [Array.toList_setIfInBounds, List.take_set, h4]

/-- Those that are there, of the first q. -/
def allQ (xss : List (List Int)) (ths : List Bool) (q : Nat) : List (List Int) := ((List.range q).filter (fun i => ths.getD i false)).map (fun i => xss.getD i [])

theorem allQ_yes {xss : List (List Int)} {ths : List Bool} {q : Nat} (h : ths.getD q false = true) : allQ xss ths (q + 1) = allQ xss ths q ++ [xss.getD q []] := by
  unfold allQ
  rw [List.range_succ, List.filter_append, List.map_append, List.filter_cons, if_pos h]
  rfl
theorem allQ_no {xss : List (List Int)} {ths : List Bool} {q : Nat} (h : ths.getD q false = false) : allQ xss ths (q + 1) = allQ xss ths q := by
  unfold allQ
  rw [List.range_succ, List.filter_append, List.map_append, List.filter_cons, if_neg (by rw [h]; decide)]
  simp
theorem allQ_len (xss : List (List Int)) (ths : List Bool) (q : Nat) : (allQ xss ths q).length ≤ q := by
  unfold allQ
  rw [List.length_map]
  exact Nat.le_trans (List.length_filter_le _ _) (by simp)
theorem mem_allQ {xss : List (List Int)} {ths : List Bool} {q : Nat} {c : List Int} : c ∈ allQ xss ths q ↔ ∃ i, i < q ∧ ths.getD i false = true ∧ xss.getD i [] = c := by
  simp [allQ, and_assoc]

/-- Lists of the arguments, one behind the other. -/
def GA (w0 : World) (base : Nat) (w : World) (v : Value) (xss : List (List Int)) : Prop := ∃ vs : List Value, w.ownsRow base 36 1 v xss.length vs ∧ ∀ (j : Nat) (u : Value), vs[j]? = some u → ∃ a m c, u = .slice a m c ∧ U.Row w0 a m c (xss.getD j [])

theorem GA.below {w0 w w' : World} {base : Nat} {v : Value} {xss : List (List Int)} (h : GA w0 base w v xss) (b : Below w.heap.size w w') : GA w0 base w' v xss := by
  obtain ⟨vs, h1, h2⟩ := h
  exact ⟨vs, rown_same h1 (fun j _ t => b.block j t.lt), h2⟩

theorem GA.grid {w0 w : World} {base : Nat} {v : Value} {xss : List (List Int)} (h : GA w0 base w v xss) (b0 : Below w0.heap.size w0 w) : ∃ a c, v = .slice a xss.length c ∧ U.Grid w a xss.length c xss := by
  obtain ⟨vs, h1, h2⟩ := h
  obtain ⟨a, c, rfl, h3, h4, h5⟩ := rown_shape h1
  have hl : vs.length = xss.length := by simpa using h1.1
  refine ⟨a, c, rfl, rfl, h3, h4, h5, fun h0 => ?_⟩
  obtain ⟨b, e, _⟩ := rown_at h1 (List.getElem?_eq_getElem (l := vs) (i := 0) (by omega))
  refine ⟨b, 0, e, fun j hj => ?_⟩
  obtain ⟨a', m, c', e1, h6⟩ := h2 j _ (List.getElem?_eq_getElem (l := vs) (by omega))
  obtain ⟨b', e2, h7, _⟩ := rown_at h1 (List.getElem?_eq_getElem (l := vs) (i := j) (by omega))
  rw [e] at e2
  cases e2
  rw [e1] at h7
  exact ⟨a', m, c', by rw [Nat.zero_add]; exact h7, h6.keep b0⟩

section
variable {w0 w : World} {la ta : Value} {xss : List (List Int)} {ths : List Bool} {n : Nat}

theorem rrem_no (r : RW w0 w la ta xss ths) (x : Int) (hx : isT ths x = false) : Calls Try.prog 28 #[.agg #[.int .i64 n, la, ta], .int .i64 x] w fun e w' => e = .returned (.tuple #[.agg #[.int .i64 n, la, ta], .bool false]) ∧ Hid (Below w.heap.size w w') := by
  obtain ⟨a, c, a', c', rfl, rfl, h1, h2, h3, h4⟩ := r.shape
  have HR := hid r
  have HX := hid hx
  clear r hx
  go_enter Try.func28, Try.ntmps28
  go_wp2_with (go_at_call 34; with_reducible (refine (ris_any (HR.out.below (by go_grown)) x HX.out).mono ?_); rintro e w3 ⟨rfl, b3⟩; have t3 := wtwo_boxes b3.out; obtain ⟨k1, k2, b4⟩ := t3; have k3 := wbox_cells k1; obtain ⟨⟨d0, d1, d2⟩, d3, d4, d5⟩ := k3; have k4 := wbox_cells k2; obtain ⟨⟨r0, r1, r2⟩, r3, r4, r5⟩ := k4)
  refine bodyPost_ret (wresults_box2 rfl _ _ (w.heap.size + 1) (.int .i64 n) (.slice a xss.length c) (.slice a' xss.length c') rfl (by simp [go_sem, r0]) (by simp [go_sem, r1]) (by simp [go_sem, r2])) rfl ?_
  exact ⟨rfl, hid (wput3_below b4 (by omega) _ _ _)⟩

/-- One of the truths is false now. -/
theorem rrem_fin {w3 w8 : World} {v8 z0 z1 z2 : Value} {i : Nat} (r : RW w0 w la ta xss ths) (h0 : w0.heap.size ≤ w.heap.size) (k1 : w3.heap[w.heap.size]? = some (.cells #[.int .i64 n, la, ta] 32 (0, 0))) (k2 : w3.heap[w.heap.size + 1]? = some (.cells #[z0, z1, z2] 32 (0, 0))) (b4 : Below w.heap.size w w3) (b8 : Below w3.heap.size w3 w8) (own8 : w8.ownsRow w3.heap.size 4 1 v8 ths.length (ths.map Value.bool)) (hi : i < ths.length) :
    ∃ b8 c8, v8 = .slice (some ⟨b8, 0, none⟩) ths.length c8 ∧ w8.heap[w.heap.size]? = some (.cells #[.int .i64 n, la, ta] 32 (0, 0)) ∧ (w8.setCell ⟨w.heap.size, 2, none⟩ v8).cell? ⟨b8, i, none⟩ = some (.bool (ths.getD i false)) ∧ w8.frozen? ⟨b8, i, none⟩ = false ∧
      Hid (RW w0 ((w8.setCell ⟨w.heap.size, 2, none⟩ v8).setCell ⟨b8, i, none⟩ (.bool false)) la v8 xss (ths.set i false) ∧ Below w.heap.size w ((w8.setCell ⟨w.heap.size, 2, none⟩ v8).setCell ⟨b8, i, none⟩ (.bool false)) ∧ ((w8.setCell ⟨w.heap.size, 2, none⟩ v8).setCell ⟨b8, i, none⟩ (.bool false)).heap[w.heap.size]? = some (.cells #[.int .i64 n, la, v8] 32 (0, 0)) ∧ ((w8.setCell ⟨w.heap.size, 2, none⟩ v8).setCell ⟨b8, i, none⟩ (.bool false)).heap[w.heap.size + 1]? = some (.cells #[z0, z1, z2] 32 (0, 0))) := by
  obtain ⟨a8, c8, e8, _⟩ := rown_shape own8
  subst e8
  have hx : (ths.map Value.bool)[i]? = some (.bool (ths.getD i false)) := by simp [hi]
  obtain ⟨bb, rfl, hc, hf, hlo⟩ := rown_at own8 hx
  have m1 := wbox_keep k1 b8
  have m2 := wbox_keep k2 b8
  have hsz := blk_lt k2
  have gr := grown_set w8 ⟨w.heap.size, 2, none⟩ (.slice (some ⟨bb, 0, none⟩) ths.length c8)
  have own9 : (w8.setCell ⟨w.heap.size, 2, none⟩ (.slice (some ⟨bb, 0, none⟩) ths.length c8)).ownsRow w3.heap.size 4 1 (.slice (some ⟨bb, 0, none⟩) ths.length c8) ths.length (ths.map Value.bool) :=
    rown_same own8 (fun j hj t => gr.block j t.lt (fun e => by
      have h1 := (own_lt own8 hj).1
      have h2 := Option.some.inj e
      simp only at h2
      omega))
  have own10 := rown_set (i := i) (x := .bool false) own9
  have gr2 := grown_set (w8.setCell ⟨w.heap.size, 2, none⟩ (.slice (some ⟨bb, 0, none⟩) ths.length c8)) ⟨bb, i, none⟩ (.bool false)
  obtain ⟨bc, ebc, hc2, hf2, _⟩ := rown_at own9 hx
  cases ebc
  have n1 : (w8.setCell ⟨w.heap.size, 2, none⟩ (.slice (some ⟨bb, 0, none⟩) ths.length c8)).heap[w.heap.size]? = some (.cells #[.int .i64 n, la, .slice (some ⟨bb, 0, none⟩) ths.length c8] 32 (0, 0)) := set_same m1 _
  have n2 : (w8.setCell ⟨w.heap.size, 2, none⟩ (.slice (some ⟨bb, 0, none⟩) ths.length c8)).heap[w.heap.size + 1]? = some (.cells #[z0, z1, z2] 32 (0, 0)) := by
    rw [gr.block _ (blk_lt m2) (fun e => by have := Option.some.inj e; simp at this)]; exact m2
  refine ⟨bb, c8, rfl, m1, hc2, hf, ⟨?_, ?_, by simpa using r.ln, r.le⟩, ?_, ?_, ?_⟩
  · obtain ⟨vs, h1, h2⟩ := r.ol
    refine ⟨vs, rown_same (rown_same (rown_same h1 (fun j _ t => (Below.next b4 b8).block j t.lt)) (fun j hj t => gr.block j t.lt (fun e => ?_))) (fun j hj t => gr2.block j t.lt (fun e => ?_)), h2⟩
    · cases e; have := t.one ⟨_, _, m1⟩; cases this
    · have h3 := (own_lt h1 hj).2
      have h4 := Option.some.inj e
      simp only at h4
      have h5 := b4.size
      omega
  · have e : (ths.set i false).map Value.bool = (ths.map Value.bool).set i (.bool false) := by simp
    rw [e, List.length_set]
    exact rown_low own10 (by have := b4.size; omega)
  · exact ((Below.next b4 b8).setCell (p := ⟨w.heap.size, 2, none⟩) (Nat.le_refl _) _).setCell (p := ⟨bb, i, none⟩) (by show w.heap.size ≤ bb; have := b4.size; omega) _
  · rw [gr2.block _ (blk_lt n1) (fun e => by have := Option.some.inj e; simp only at this; omega)]; exact n1
  · rw [gr2.block _ (blk_lt n2) (fun e => by have := Option.some.inj e; simp only at this; omega)]; exact n2

set_option maxHeartbeats 2000000 in
theorem rrem_yes (r : RW w0 w la ta xss ths) (b0 : Below w0.heap.size w0 w) (hs : xss.length ≤ 10000) (i : Nat) (hx : isT ths i = true) : Calls Try.prog 28 #[.agg #[.int .i64 n, la, ta], .int .i64 i] w fun e w' => ∃ ta', e = .returned (.tuple #[.agg #[.int .i64 n, la, ta'], .bool true]) ∧ Hid (RW w0 w' la ta' xss (ths.set i false)) ∧ Hid (Below w.heap.size w w') := by
  obtain ⟨a, c, a', c', rfl, rfl, h1, h2, h3, h4⟩ := r.shape
  have hln := r.ln
  have hi : i < ths.length := by
    simp only [isT, Bool.and_eq_true, decide_eq_true_eq] at hx; omega
  have hbd : ths.length ≤ 1000000 := by omega
  have hi' : (i : Int) < ths.length := by omega
  have HR := hid r
  have HX := hid hx
  have HS0 := hid b0.size
  have HLN := hid hln
  clear r hx hln
  go_enter Try.func28, Try.ntmps28
  go_upto_region 5 with (first
    | (go_at_call 34; with_reducible (refine (ris_any (HR.out.below (by go_grown)) _ HX.out).mono ?_); rintro e w3 ⟨rfl, b3⟩; have t3 := wtwo_boxes b3.out; obtain ⟨k1, k2, b4⟩ := t3; have k3 := wbox_cells k1; obtain ⟨⟨d0, d1, d2⟩, d3, d4, d5⟩ := k3)
    | (at_builtin; refine copy4 rfl _ _ rfl rfl _ rfl w0.heap.size ths.length (ths.map Value.bool) (HR.out.below b4).ot (bools_one ths) hbd ?_; intro v8 w8 own8 b8; have A8 := rrem_fin HR.out HS0.out k1 k2 b4 b8.out own8.out hi; obtain ⟨bb, c8, rfl, q1, q2, q3, A9⟩ := A8; have q4 := wbox_cells q1; obtain ⟨⟨f0, f1, f2⟩, f3, f4, f5⟩ := q4))
  revert A9
  generalize ((w8.setCell ⟨w.heap.size, 2, none⟩ (.slice (some ⟨bb, 0, none⟩) ths.length c8)).setCell ⟨bb, i, none⟩ (.bool false)) = wt
  intro A9
  clear q1 q2 q3 f0 f1 f2 f3 f4 f5 d0 d1 d2 d3 d4 d5
  have q3 := wbox_cells A9.out.2.2.1
  obtain ⟨⟨g0, g1, g2⟩, g3, g4, g5⟩ := q3
  have q4 := wbox_cells A9.out.2.2.2
  obtain ⟨⟨r0, r1, r2⟩, r3, r4, r5⟩ := q4
  go_wp2
  refine bodyPost_ret (wresults_box2 rfl _ _ (w.heap.size + 1) (.int .i64 n) (.slice a xss.length c) (.slice (some ⟨bb, 0, none⟩) ths.length c8) rfl (by simp [go_sem, r0]) (by simp [go_sem, r1]) (by simp [go_sem, r2])) rfl ?_
  exact ⟨_, rfl, hid (A9.out.1.put3 A9.out.2.2.2 (by decide) _ _ _), hid (wput3_below A9.out.2.1 (by omega) _ _ _)⟩

set_option maxHeartbeats 2000000 in
theorem rall_any (r : RW w0 w la ta xss ths) (b0 : Below w0.heap.size w0 w) (hs : xss.length ≤ 10000) : Calls Try.prog 13 #[.agg #[.int .i64 n, la, ta]] w fun e w' => ∃ a c, e = .returned (.slice a (allQ xss ths xss.length).length c) ∧ Hid (U.Grid w' a (allQ xss ths xss.length).length c (allQ xss ths xss.length)) ∧ Hid (Below w.heap.size w w') := by
  obtain ⟨a, c, a', c', rfl, rfl, h1, h2, h3, h4⟩ := r.shape
  have HR := hid r
  have HB0 := hid b0
  have hB1 : Hid (Below w.heap.size w (w.alloc (.cells #[.int .i64 n, .slice a xss.length c, .slice a' xss.length c'] 32))) := hid (by go_grown)
  have HK : Hid ((w.alloc (.cells #[.int .i64 n, .slice a xss.length c, .slice a' xss.length c'] 32)).heap[w.heap.size]? = some (.cells #[.int .i64 n, .slice a xss.length c, .slice a' xss.length c'] 32 (0, 0))) := hid (new_same w _)
  clear r
  go_enter Try.func13, Try.ntmps13
  go_wp2
  revert hB1 HK
  generalize (w.alloc (.cells #[.int .i64 n, .slice a xss.length c, .slice a' xss.length c'] 32)) = W
  intro hB1 HK
  go_loopw [3, 4] (fun v i wr => ∃ (q l cp : Nat) (ao : Option Addr), q ≤ xss.length ∧ l ≤ q ∧ i = .int .i64 q ∧ v = .slice ao l cp ∧ Hid ((allQ xss ths q).length = l ∧ GA w0 W.heap.size wr v (allQ xss ths q)) ∧ Hid (Below W.heap.size W wr)) (fun _ i _ => xss.length - (intOf i).toNat)
  case atStart => exact ⟨0, 0, 0, none, Nat.zero_le _, Nat.le_refl _, rfl, rfl, hid ⟨rfl, [], World.ownsRow_nil _ _ _ _, fun j u h => by simp at h⟩, hid (Below.refl _ _)⟩
  case round =>
    obtain ⟨q, l, cp, ao, hq, hlq, rfl, rfl, hga, hb⟩ := hrel
    have k1 := wbox_keep HK.out hb.out
    have k3 := wbox_cells k1
    obtain ⟨⟨d0, d1, d2⟩, d3, d4, d5⟩ := k3
    have HB := hid (Below.next hB1.out hb.out)
    have HRR := hid (HR.out.below HB.out)
    clear k1
    by_cases hlt : q < xss.length
    · have hlt' : (q : Int) < xss.length := by omega
      obtain ⟨bt, rfl, ht⟩ := HRR.out.tr hlt
      obtain ⟨bl, ax, mx, cx, rfl, hl, hrow⟩ := HRR.out.row hlt
      cases hth : ths.getD q false
      · rw [hth] at ht
        have HN := hid (allQ_no (xss := xss) hth)
        clear hth
        go_wp2
        go_roundw
        case rel => exact ⟨q + 1, l, cp, ao, by omega, by omega, by go_num, rfl, by rw [HN.out]; exact hga, hb⟩
        case measure => simp only [intOf]; omega
      · rw [hth] at ht
        have HN := hid (allQ_yes (xss := xss) hth)
        clear hth
        obtain ⟨vs, hown, hvs⟩ := hga.out.2
        have hl2 : vs.length = (allQ xss ths q).length := by simpa using hown.1
        have HV := hid (vs_snoc hl2 hvs hrow.out)
        rw [hga.out.1] at hown
        have HO := hid hown
        have HL := hid hga.out.1
        clear hown hvs hl2
        go_wp2_with (at_builtin; refine one36 (w1 := wr) rfl _ _ rfl (.slice ax mx cx) rfl rfl W.heap.size l (.slice ao l cp) vs rfl HO.out _ rfl (by simp) (by omega) hb.out.size ?_; intro v6 w6 own6 b6; have e6 := rown_shape own6.out; obtain ⟨a6, c6, rfl, -⟩ := e6)
        go_roundw
        case rel => exact ⟨q + 1, l + 1, c6, a6, by omega, by omega, by go_num, rfl, hid ⟨by rw [HN.out, List.length_append, HL.out]; rfl, by
          rw [HN.out]
          refine ⟨vs ++ [.slice ax mx cx], ?_, HV.out⟩
          rw [List.length_append, HL.out]
          exact own6.out⟩, hid (hb.out.trans b6.out)⟩
        case measure => simp only [intOf]; omega
    · obtain rfl : q = xss.length := by omega
      obtain ⟨ag, cg, eg, hgr⟩ := hga.out.2.grid (Below.trans HB0.out (HB.out.mono HB0.out.size))
      rw [hga.out.1] at eg
      cases eg
      have HGR := hid hgr
      have HL := hid hga.out.1
      clear hgr
      go_wp2
      go_ret
      exact ⟨ao, cp, by rw [HL.out]; rfl, HGR, HB⟩

theorem close_out {w w' : World} {L : List (List Int)} {S : List Int} {e : Ending} (h : U.CloseEnd w L S e w') : ∃ (ao : Option Addr) (m c : Nat) (xs : List Int) (ok : Bool), e = .returned (.tuple #[.slice ao m c, .bool ok]) ∧ Hid (U.Row w' ao m c xs) ∧ Hid (U.Res L S xs ok) ∧ Hid (Below w.heap.size w w') := h

theorem rrun_any (r : RW w0 w la ta xss ths) (b0 : Below w0.heap.size w0 w) (hs : xss.length ≤ 100) {sa : Option Addr} {sn sc : Nat} {S : List Int} (row : U.Row w sa sn sc S) (hsn : sn ≤ 1000) : Calls Try.prog 31 #[.agg #[.int .i64 n, la, ta], .slice sa sn sc] w fun e w' => ∃ (ao : Option Addr) (m c : Nat) (xs : List Int) (ok : Bool), e = .returned (.tuple #[.slice ao m c, .bool ok]) ∧ Hid (U.Row w' ao m c xs) ∧ Hid (U.Res (allQ xss ths xss.length) S xs ok) ∧ Hid (Below w.heap.size w w') := by
  obtain ⟨a, c, a', c', rfl, rfl, h1, h2, h3, h4⟩ := r.shape
  have HLE : Hid (∀ c ∈ allQ xss ths xss.length, c.length ≤ 100) := hid (fun c hc => by
    obtain ⟨i, hi, _, e⟩ := mem_allQ.1 hc
    have hm : xss.getD i [] ∈ xss := by rw [List.getD_eq_getElem?_getD, List.getElem?_eq_getElem hi]; exact List.getElem_mem hi
    have := r.le _ hm
    rw [e] at this; omega)
  have HLQ : Hid ((allQ xss ths xss.length).length ≤ 100) := hid (Nat.le_trans (allQ_len _ _ _) hs)
  have B1 : Hid (Below w.heap.size w (w.alloc (.cells #[.int .i64 n, .slice a xss.length c, .slice a' xss.length c'] 32))) := hid (by go_grown)
  have HR := hid (r.below B1.out)
  have HB0 := hid (Below.trans b0 (B1.out.mono b0.size))
  have HROW := hid (row.keep B1.out)
  clear r row
  go_enter Try.func31, Try.ntmps31
  go_wp2_with (first
    | (go_at_call 13; with_reducible (refine (rall_any HR.out HB0.out (by omega)).mono ?_); rintro e w3 ⟨a3, c3, rfl, g3, b3⟩)
    | (go_at_call 50; with_reducible (refine (U.rclose_any _ _ _ _ _ g3.out _ _ _ _ (HROW.out.keep b3.out) HLQ.out hsn HLE.out).mono ?_); intro e w4 hce; have hce2 := close_out hce; obtain ⟨ao, m, cc, xs, ok, rfl, H5, H6, H7⟩ := hce2))
  go_ret2
  exact ⟨ao, m, cc, xs, ok, rfl, H5, H6, hid (Below.next (Below.next B1.out b3.out) H7.out)⟩

theorem rset_any {ao bo : Option Addr} {m1 c1 m2 c2 : Nat} {xs ys : List Int} (h : U.Row w ao m1 c1 xs) (g : U.Row w bo m2 c2 ys) (hn : m1 ≤ 100000) (hm : m2 ≤ 100000) {b : Bool} (hb : decide (U.rise xs = U.rise ys) = b) :
    Calls Try.prog 19 #[.slice ao m1 c1, .slice bo m2 c2] w fun e w' => e = .returned (.bool b) ∧ Hid (Below w.heap.size w w') := by
  have HH := hid h
  have HG := hid g
  have HB : Hid (U.sameF (U.rise xs) (U.rise ys) = b) := hid hb
  clear h g hb
  go_enter Try.func19, Try.ntmps19
  go_wp2_with (first
    | (go_at_call 44; with_reducible (refine (U.sorted_any _ _ _ _ _ HH.out hn).mono ?_); rintro e w3 ⟨a3, m3, c3, rfl, r3, b3⟩; have HG3 := hid (HG.out.keep b3); clear HH)
    | (go_at_call 44; with_reducible (refine (U.sorted_any _ _ _ _ _ HG3.out hm).mono ?_); rintro e w4 ⟨a4, m4, c4, rfl, r4, b4⟩)
    | (go_at_call 32; have T := U.same_any _ _ _ _ _ _ _ _ _ (r3.out.keep b4) r4.out; rw [HB.out] at T; with_reducible (refine T.mono ?_); rintro e w5 ⟨rfl, b5⟩))
  go_ret
  exact ⟨rfl, hid (Below.next (Below.next b3 b4) b5)⟩
end

end Go.Proofs.Ytbfaigeopkonbaa
