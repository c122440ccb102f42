/-
  The document's own Bump, Halve.
-/
import Derived.Test.YtbddhjohlpblaaaRpop
namespace Go.Proofs.Ytbddhjohlpblaaa
open Go.RowKit
set_option linter.unusedVariables false

def RaEnd (av bv : Value) (A' : List Int) (W : List Bool) (w : World) (av' : Value) (w' : World) : Prop := RO w' av' bv A' W ∧ Nw w av av' ∧ Below w.heap.size w w'

theorem RaEnd.drew {av bv av' : Value} {A : List Int} {W : List Bool} {w w' : World} (h : RaEnd av bv A W w av' w') : RaEnd av bv A W w av' w'.drew := ⟨h.1.below (below_drew _), h.2.1, h.2.2.drew⟩

/-- An activity is written into a row that is new, and the box tells it. -/
theorem bump_done {w w3 w5 : World} {av bv : Value} {A : List Int} {W : List Bool} {v g5 c5 : Nat} {x : Int} (s : RO w av bv A W) (b3 : Below w.heap.size w w3) (hs : w.heap.size + 2 ≤ w3.heap.size)
    (own : w5.ownsRow w3.heap.size 3 1 (.slice (some ⟨g5, 0, none⟩) A.length c5) A.length (A.map (Value.int .i64))) (b : Below w3.heap.size w3 w5) (hv : v < A.length) :
    RaEnd av bv (A.set v x) W w (.slice (some ⟨g5, 0, none⟩) A.length c5) ((((w5.setCell ⟨w.heap.size, 0, none⟩ (.slice (some ⟨g5, 0, none⟩) A.length c5)).setCell ⟨g5, v, none⟩ (.int .i64 x)).setCell ⟨w.heap.size + 1, 0, none⟩ (.slice (some ⟨g5, 0, none⟩) A.length c5)).setCell ⟨w.heap.size + 1, 1, none⟩ bv) := by
  have hg := (own_lt own (j := g5) rfl).1
  have b6 : Below w.heap.size w w5 := Below.next b3 b
  have b7 : Below w.heap.size w ((((w5.setCell ⟨w.heap.size, 0, none⟩ (.slice (some ⟨g5, 0, none⟩) A.length c5)).setCell ⟨g5, v, none⟩ (.int .i64 x)).setCell ⟨w.heap.size + 1, 0, none⟩ (.slice (some ⟨g5, 0, none⟩) A.length c5)).setCell ⟨w.heap.size + 1, 1, none⟩ bv) :=
    (((b6.setCell (by simp) _).setCell (by show w.heap.size ≤ g5; omega) _).setCell (by simp) _).setCell (by simp) _
  have n1 : ¬ g5 = w.heap.size := by omega
  have n2 : ¬ g5 = w.heap.size + 1 := by omega
  refine ⟨⟨?_, own_below s.b b7⟩, Nw.fresh fun j hj => by cases hj; show w.heap.size ≤ g5; omega, b7⟩
  have o1 := own_keep own (grown_set w5 ⟨w.heap.size, 0, none⟩ (.slice (some ⟨g5, 0, none⟩) A.length c5)) (fun j hj e => by cases hj; cases e; exact n1 rfl)
  have o2 := own_set o1 hv (.int .i64 x)
  have o3 := own_keep o2 (grown_set _ ⟨w.heap.size + 1, 0, none⟩ (.slice (some ⟨g5, 0, none⟩) A.length c5)) (fun j hj e => by cases hj; cases e; exact n2 rfl)
  have o4 := own_keep o3 (grown_set _ ⟨w.heap.size + 1, 1, none⟩ bv) (fun j hj e => by cases hj; cases e; exact n2 rfl)
  rw [List.length_set, List.map_set]
  exact own_base o4

/-- The row that is new, and the boxes, behind the copy. -/
theorem bump_at {w w3 w5 : World} {p q p' q' v5 : Value} {A : List Int} {v : Nat} (h4 : w3.heap[w.heap.size]? = some (.cells #[p, q] 29 (0, 0))) (h5 : w3.heap[w.heap.size + 1]? = some (.cells #[p', q'] 29 (0, 0)))
    (own : w5.ownsRow w3.heap.size 3 1 v5 A.length (A.map (Value.int .i64))) (b : Below w3.heap.size w3 w5) (hv : v < A.length) :
    ∃ g5 c5, v5 = .slice (some ⟨g5, 0, none⟩) A.length c5 ∧ w5.cell? ⟨w.heap.size, 0, none⟩ = some p ∧ w5.cell? ⟨w.heap.size, 1, none⟩ = some q ∧ w5.frozen? ⟨w.heap.size, 0, none⟩ = false ∧ w5.frozen? ⟨w.heap.size, 1, none⟩ = false ∧
      w5.cell? ⟨w.heap.size + 1, 0, none⟩ = some p' ∧ w5.cell? ⟨w.heap.size + 1, 1, none⟩ = some q' ∧ w5.frozen? ⟨w.heap.size + 1, 0, none⟩ = false ∧ w5.frozen? ⟨w.heap.size + 1, 1, none⟩ = false ∧
      w5.cell? ⟨g5, v, none⟩ = some (.int .i64 (fn A v)) ∧ w5.frozen? ⟨g5, v, none⟩ = false ∧ ¬ g5 = w.heap.size ∧ ¬ g5 = w.heap.size + 1 := by
  have h1 := box_keep h4 b
  have h2 := box_keep h5 b
  have l1 := blk_lt h4
  have l2 := blk_lt h5
  obtain ⟨ao, c5, rfl⟩ := own_shape own
  obtain ⟨g5, rfl, h3, h6⟩ := own_at own hv (v := .int .i64 (fn A v)) (by simp [fn_at hv])
  have hg := (own_lt own (j := g5) rfl).1
  obtain ⟨d1, d2, d3, d4⟩ := box_cells h1
  obtain ⟨r1, r2, r3, r4⟩ := box_cells h2
  exact ⟨g5, c5, rfl, d1, d2, d3, d4, r1, r2, r3, r4, h3, h6, by omega, by omega⟩

set_option maxHeartbeats 2000000 in
theorem rbump_any {w : World} {av bv : Value} {A : List Int} {W : List Bool} (s : RO w av bv A W) (v t : Int) (hn : A.length ≤ 1048576) (hbd : ∀ u : Nat, u < A.length → 0 ≤ fn A u ∧ fn A u ≤ 1099511627776) :
    Calls Try.prog 21 #[.agg #[av, bv], .int .i64 v, .int .i64 t] w fun e w' => ∃ av', e = .returned (.tuple #[.agg #[av', bv], .bool (isF A.length v)]) ∧ RaEnd av bv (bumpF A v t) W w av' w' := by
  obtain ⟨ao, c, rfl⟩ := own_shape s.a
  obtain ⟨bo, d, rfl⟩ := own_shape s.b
  have HS := hid s
  clear s
  cases hi : isF A.length v
  · have HA : Hid (bumpF A v t = A) := hid (by simp [bumpF, hi])
    go_enter Try.func21, Try.ntmps21
    go_wp2_with (go_at_call 10; with_reducible (refine (ris_any (HS.out.below (by go_grown)) _).mono ?_); rintro e w3 ⟨rfl, b3⟩; have h3 := two_boxes b3; obtain ⟨h4, h5⟩ := h3; have d0 := box_cells h4; have r0 := box_cells h5; obtain ⟨d1, d2, d3, d4⟩ := d0; obtain ⟨r1, r2, r3, r4⟩ := r0)
    refine bodyPost_ret (results_box2 rfl _ _ (w.heap.size + 1) (.slice ao A.length c) (.slice bo W.length d) rfl (by simp [go_sem, r1]) (by simp [go_sem, r2])) rfl ?_
    have b4 := boxes_below b3
    exact ⟨_, rfl, by rw [HA.out]; exact HS.out.below (put_below b4), Nw.refl _ _, put_below b4⟩
  · obtain ⟨v, rfl, hv⟩ := isF_yes hi
    have hv' : (v : Int) < A.length := by omega
    obtain ⟨b0, b1⟩ := hbd v hv
    have HB : Hid (bumpF A v t = A.set v (sumF (fn A v) t)) := hid (by simp only [bumpF, hi, if_true]; rfl)
    clear hbd
    by_cases ht : 1099511627776 - fn A v < t
    · have HX : Hid (sumF (fn A v) t = 1099511627776) := hid (by simp [sumF, ht])
      go_enter Try.func21, Try.ntmps21
      go_wp2_with (first
        | (go_at_call 10; with_reducible (refine (ris_any (HS.out.below (by go_grown)) _).mono ?_); rintro e w3 ⟨rfl, b3⟩; have h3 := two_boxes b3; obtain ⟨h4, h5⟩ := h3; have d0 := box_cells h4; obtain ⟨d1, d2, d3, d4⟩ := d0; have b4 := boxes_below b3)
        | (at_builtin; refine append_copy rfl _ _ 26 3 rfl Try.underlying26 (.int .i64 0) 8 rfl Try.info3 (by omega) rfl _ rfl A.length _ (HS.out.below b4).a (ints_one A) (by omega) ?_; intro v5 w5 own5 b5; have h6 := bump_at h4 h5 own5.out b5.out hv; obtain ⟨g5, c5, rfl, f0, f1, f2, f3, r0, r1, r2, r3, e1, e2, n1, n2⟩ := h6))
      refine bodyPost_ret (results_box2 rfl _ _ (w.heap.size + 1) (.slice (some ⟨g5, 0, none⟩) A.length c5) (.slice bo W.length d) rfl (by simp [go_sem, r0]) (by simp [go_sem, r1])) rfl ?_
      have hsz : w.heap.size + 2 ≤ w3.heap.size := by have := b3.size; simp at this; omega
      exact ⟨_, rfl, by rw [HB.out, HX.out]; exact bump_done HS.out b4 hsz own5.out b5.out hv⟩
    · by_cases ht2 : t < -fn A v
      · have HX : Hid (sumF (fn A v) t = 0) := hid (by simp [sumF, ht, ht2])
        go_enter Try.func21, Try.ntmps21
        go_wp2_with (first
          | (go_at_call 10; with_reducible (refine (ris_any (HS.out.below (by go_grown)) _).mono ?_); rintro e w3 ⟨rfl, b3⟩; have h3 := two_boxes b3; obtain ⟨h4, h5⟩ := h3; have d0 := box_cells h4; obtain ⟨d1, d2, d3, d4⟩ := d0; have b4 := boxes_below b3)
          | (at_builtin; refine append_copy rfl _ _ 26 3 rfl Try.underlying26 (.int .i64 0) 8 rfl Try.info3 (by omega) rfl _ rfl A.length _ (HS.out.below b4).a (ints_one A) (by omega) ?_; intro v5 w5 own5 b5; have h6 := bump_at h4 h5 own5.out b5.out hv; obtain ⟨g5, c5, rfl, f0, f1, f2, f3, r0, r1, r2, r3, e1, e2, n1, n2⟩ := h6))
        refine bodyPost_ret (results_box2 rfl _ _ (w.heap.size + 1) (.slice (some ⟨g5, 0, none⟩) A.length c5) (.slice bo W.length d) rfl (by simp [go_sem, r0]) (by simp [go_sem, r1])) rfl ?_
        have hsz : w.heap.size + 2 ≤ w3.heap.size := by have := b3.size; simp at this; omega
        exact ⟨_, rfl, by rw [HB.out, HX.out]; exact bump_done HS.out b4 hsz own5.out b5.out hv⟩
      · have HX : Hid (sumF (fn A v) t = fn A v + t) := hid (by simp [sumF, ht, ht2])
        go_enter Try.func21, Try.ntmps21
        go_wp2_with (first
          | (go_at_call 10; with_reducible (refine (ris_any (HS.out.below (by go_grown)) _).mono ?_); rintro e w3 ⟨rfl, b3⟩; have h3 := two_boxes b3; obtain ⟨h4, h5⟩ := h3; have d0 := box_cells h4; obtain ⟨d1, d2, d3, d4⟩ := d0; have b4 := boxes_below b3)
          | (at_builtin; refine append_copy rfl _ _ 26 3 rfl Try.underlying26 (.int .i64 0) 8 rfl Try.info3 (by omega) rfl _ rfl A.length _ (HS.out.below b4).a (ints_one A) (by omega) ?_; intro v5 w5 own5 b5; have h6 := bump_at h4 h5 own5.out b5.out hv; obtain ⟨g5, c5, rfl, f0, f1, f2, f3, r0, r1, r2, r3, e1, e2, n1, n2⟩ := h6))
        go_region
        all_goals go_wp2
        all_goals refine bodyPost_ret (results_box2 rfl _ _ (w.heap.size + 1) (.slice (some ⟨g5, 0, none⟩) A.length c5) (.slice bo W.length d) rfl (by simp [go_sem, r0]) (by simp [go_sem, r1])) rfl ?_
        all_goals have hsz : w.heap.size + 2 ≤ w3.heap.size := by have := b3.size; simp at this; omega
        all_goals exact ⟨_, rfl, by rw [HB.out, HX.out]; exact (bump_done HS.out b4 hsz own5.out b5.out hv).drew⟩

/-! ### Halve -/
theorem halve_next {A : List Int} {q : Nat} (h : q < A.length) : (A.take (q + 1)).map (· / 2) = (A.take q).map (· / 2) ++ [fn A q / 2] := by
  have e2 : A.take (q + 1) = A.take q ++ [fn A q] := by rw [List.take_add_one]; simp [fn, h]
  rw [e2]; simp

structure RhRel (w w2 wr : World) (l : Value) (A : List Int) (q : Nat) : Prop where
  own : wr.ownsRow w2.heap.size 3 1 l q ((A.take q).map fun x => Value.int .i64 (x / 2))
  be : Below w2.heap.size w2 wr

theorem RhRel.next {w w2 wr w' : World} {l l' : Value} {A : List Int} {q : Nat} (r : RhRel w w2 wr l A q) (h : q < A.length) (own : w'.ownsRow w2.heap.size 3 1 l' (q + 1) (((A.take q).map fun x => Value.int .i64 (x / 2)) ++ [.int .i64 (fn A q / 2)])) (g : wr.grownBy w' l.ownBlock) : RhRel w w2 w' l' A (q + 1) := by
  refine ⟨?_, r.be.trans (below_grown g (fun j hj => (own_lt r.own hj).1) r.be.size)⟩
  have e2 : A.take (q + 1) = A.take q ++ [fn A q] := by rw [List.take_add_one]; simp [fn, h]
  rw [e2]
  simpa using own

theorem halve_done {w wr : World} {av bv l p' q' : Value} {A : List Int} {W : List Bool} (s : RO w av bv A W) (r : RhRel w ((w.alloc (.cells #[av, bv] 29)).alloc (.cells #[p', q'] 29)) wr l A A.length) :
    RaEnd av bv (halveF A) W w l (((wr.setCell ⟨w.heap.size, 0, none⟩ l).setCell ⟨w.heap.size + 1, 0, none⟩ l).setCell ⟨w.heap.size + 1, 1, none⟩ bv) := by
  have e2 : ((w.alloc (.cells #[av, bv] 29)).alloc (.cells #[p', q'] 29)).heap.size = w.heap.size + 1 + 1 := by simp
  have b4 := boxes_below r.be
  have own := r.own
  have b7 : Below w.heap.size w (((wr.setCell ⟨w.heap.size, 0, none⟩ l).setCell ⟨w.heap.size + 1, 0, none⟩ l).setCell ⟨w.heap.size + 1, 1, none⟩ bv) :=
    ((b4.setCell (by simp) _).setCell (by simp) _).setCell (by simp) _
  rw [e2] at own
  have hg : ∀ j, l.ownBlock = some j → w.heap.size + 1 + 1 ≤ j := fun j hj => (own_lt own hj).1
  refine ⟨⟨?_, own_below s.b b7⟩, Nw.fresh fun j hj => by have := hg j hj; omega, b7⟩
  have o1 := own_keep own (grown_set wr ⟨w.heap.size, 0, none⟩ l) (fun j hj e => by cases hj; have := hg _ e; simp at this; omega)
  have o2 := own_keep o1 (grown_set _ ⟨w.heap.size + 1, 0, none⟩ l) (fun j hj e => by cases hj; have := hg _ e; simp at this; omega)
  have o3 := own_keep o2 (grown_set _ ⟨w.heap.size + 1, 1, none⟩ bv) (fun j hj e => by cases hj; have := hg _ e; simp at this; omega)
  have e : (halveF A).map (Value.int .i64) = (A.take A.length).map fun x => Value.int .i64 (x / 2) := by simp [halveF]
  have e3 : (halveF A).length = A.length := by simp [halveF]
  rw [e, e3]
  exact own_base o3

set_option maxHeartbeats 2000000 in
theorem rhalve_any {w : World} {av bv : Value} {A : List Int} {W : List Bool} (s : RO w av bv A W) (hn : A.length ≤ 1048576) (hbd : ∀ u : Nat, u < A.length → 0 ≤ fn A u ∧ fn A u ≤ 1099511627776) :
    Calls Try.prog 22 #[.agg #[av, bv]] w fun e w' => ∃ av', e = .returned (.agg #[av', bv]) ∧ RaEnd av bv (halveF A) W w av' w' := by
  obtain ⟨ao, c, rfl⟩ := own_shape s.a
  obtain ⟨bo, d, rfl⟩ := own_shape s.b
  have HS := hid s
  have HBD := hid hbd
  clear s hbd
  go_enter Try.func22, Try.ntmps22
  go_wp2
  go_loopw [3, 4] (fun l i wr => ∃ (q : Nat) (lo : Option Addr) (lc : Nat), q ≤ A.length ∧ i = .int .i64 q ∧ l = .slice lo q lc ∧ Hid (RhRel w ((w.alloc (.cells #[.slice ao A.length c, .slice bo W.length d] 29)).alloc (.cells #[.slice none 0 0, .slice none 0 0] 29)) wr (.slice lo q lc) A q)) (fun _ i _ => A.length - (intOf i).toNat)
  case atStart => exact ⟨0, none, 0, Nat.zero_le _, rfl, rfl, ⟨World.ownsRow_nil _ _ _ _, Below.refl _ _⟩⟩
  case round =>
    obtain ⟨q, lo, lc, hq, rfl, rfl, hr⟩ := hrel
    obtain ⟨h4, h5⟩ := two_boxes hr.out.be
    obtain ⟨d1, d2, d3, d4⟩ := box_cells h4
    have b4 := hid (boxes_below hr.out.be)
    by_cases hlt : q < A.length
    · have hlt' : (q : Int) < A.length := by omega
      obtain ⟨ga, rfl, ca⟩ := (HS.out.below b4.out).ia rfl hlt
      have b0 := (HBD.out q hlt).1
      have b1 := (HBD.out q hlt).2
      have b2 : ¬ fn A q < 0 := by omega
      have hsz := hr.out.be.size
      go_wp2_with (at_builtin; refine append_new (w1 := wr) rfl _ _ rfl (fn A q / 2) rfl _ q (.slice lo q lc) _ rfl hr.out.own _ rfl (by simp) (by omega) hsz ?_; intro v5 w5 own5 g5 new5; have h6 := own_shape own5.out; obtain ⟨lo5, lc5, rfl⟩ := h6)
      go_roundw
      case rel => exact ⟨q + 1, lo5, lc5, by omega, by go_num, rfl, hr.out.next hlt own5.out g5.out⟩
      case measure => simp only [intOf]; omega
    · obtain rfl : q = A.length := by omega
      obtain ⟨r1, r2, r3, r4⟩ := box_cells h5
      go_wp2
      refine bodyPost_ret (results_box rfl _ _ (w.heap.size + 1) (.slice lo A.length lc) (.slice bo W.length d) rfl (by simp [go_sem, r1]) (by simp [go_sem, r2])) rfl ?_
      exact ⟨_, rfl, halve_done HS.out hr.out⟩

end Go.Proofs.Ytbddhjohlpblaaa
