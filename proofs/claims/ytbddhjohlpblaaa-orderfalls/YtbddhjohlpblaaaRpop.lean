/-
  The document's own Pop.
-/
import Derived.Test.YtbddhjohlpblaaaRef
namespace Go.Proofs.Ytbddhjohlpblaaa
open Go.RowKit
set_option linter.unusedVariables false

theorem drewN_any (B : Nat) (w : World) (m : Nat) : Below B w (w.drewN m) := ⟨rfl, rfl, rfl, Nat.le_refl _, fun _ _ => rfl⟩

theorem best_no {A : List Int} {W : List Bool} {q : Nat} (hw : wt W q = false) : bestF A W (q + 1) = bestF A W q := by simp [bestF, hw]
theorem best_new {A : List Int} {W : List Bool} {q : Nat} (hw : wt W q = true) (h : bestF A W q = -1) : bestF A W (q + 1) = q := by simp [bestF, hw, h]
theorem best_gt {A : List Int} {W : List Bool} {q u : Nat} (hw : wt W q = true) (h : bestF A W q = u) (hl : fn A u < fn A q) : bestF A W (q + 1) = q := by
  simp only [bestF, hw, h, ac, Int.toNat_natCast]; simp [hl]
theorem best_le {A : List Int} {W : List Bool} {q u : Nat} (hw : wt W q = true) (h : bestF A W q = u) (hl : ¬ fn A u < fn A q) : bestF A W (q + 1) = bestF A W q := by
  have h0 : ¬ ((u : Int) < 0) := by omega
  simp only [bestF, hw, h, ac, Int.toNat_natCast]; simp [hl, h0]

theorem popped_none {A : List Int} {W : List Bool} (h : bestF A W A.length = -1) : popV A W = -1 ∧ popA A W = false ∧ popW A W = W := by
  have h1 : popV A W = -1 := h
  have h2 : popA A W = false := by simp [popA, h1]
  exact ⟨h1, h2, by simp [popW, h2]⟩
theorem popped_one {A : List Int} {W : List Bool} {u : Nat} (h : bestF A W A.length = u) : popV A W = u ∧ popA A W = true ∧ popW A W = W.set u false := by
  have h1 : popV A W = u := h
  have h2 : popA A W = true := by simp [popA, h1]
  exact ⟨h1, h2, by simp [popW, h2, h1]⟩

set_option maxHeartbeats 2000000 in
theorem rpop_any {w : World} {av bv : Value} {A : List Int} {W : List Bool} (s : RO w av bv A W) (hl : W.length = A.length) (hn : W.length ≤ 1048576) :
    Calls Try.prog 20 #[.agg #[av, bv]] w fun e w' => ∃ bv', e = .returned (.tuple #[.agg #[av, bv'], .int .i64 (popV A W), .bool (popA A W)]) ∧ RpEnd av bv A W (popW A W) w bv' w' := by
  obtain ⟨ao, c, rfl⟩ := own_shape s.a
  obtain ⟨bo, d, rfl⟩ := own_shape s.b
  have HS := hid s
  have HL := hid hl
  clear s
  have hna : A.length ≤ 1048576 := by omega
  clear hl
  go_enter Try.func20, Try.ntmps20
  go_wp2
  go_loopw [5, 6] (fun a i wr => ∃ (q : Nat), q ≤ A.length ∧ i = .int .i64 q ∧ a = .int .i64 (bestF A W q) ∧ Hid (Below ((w.alloc (.cells #[.slice ao A.length c, .slice bo W.length d] 29)).alloc (.cells #[.slice none 0 0, .slice none 0 0] 29)).heap.size ((w.alloc (.cells #[.slice ao A.length c, .slice bo W.length d] 29)).alloc (.cells #[.slice none 0 0, .slice none 0 0] 29)) wr)) (fun _ i _ => A.length - (intOf i).toNat)
  case atStart => exact ⟨0, Nat.zero_le _, rfl, rfl, Below.refl _ _⟩
  case round =>
    obtain ⟨q, hq, rfl, rfl, b3⟩ := hrel
    obtain ⟨h4, h5⟩ := two_boxes b3.out
    obtain ⟨d1, d2, d3, d4⟩ := box_cells h4
    have b4 := hid (boxes_below b3.out)
    by_cases hlt : q < A.length
    · have hlt' : (q : Int) < A.length := by omega
      have hlw : q < W.length := by rw [HL.out]; exact hlt
      have hlw' : (q : Int) < W.length := by omega
      have HS3 := hid (HS.out.below b4.out)
      obtain ⟨g, rfl, cg⟩ := HS3.out.ib rfl hlw
      obtain ⟨ga, rfl, ca⟩ := HS3.out.ia rfl hlt
      cases hw : wt W q
      · have HB := hid (best_no (A := A) hw)
        rw [hw] at cg
        go_wp2
        go_quiet (fail)
        go_wp2
        go_roundw
        case rel => exact ⟨q + 1, by omega, by go_num, by rw [HB.out], hid (b3.out.trans (drewN_any _ _ _))⟩
        case measure => simp only [intOf]; omega
      · rw [hw] at cg
        rcases bestF_is A W q with ⟨hb, _⟩ | ⟨u, hb, hf⟩
        · have HB := hid (best_new hw hb)
          rw [hb]
          go_wp2
          go_quiet (fail)
          go_wp2
          go_roundw
          case rel => exact ⟨q + 1, by omega, by go_num, by rw [HB.out], hid (b3.out.trans (drewN_any _ _ _))⟩
          case measure => simp only [intOf]; omega
        · have hu : u < A.length := by have := hf.1; omega
          have hu' : (u : Int) < A.length := by omega
          obtain ⟨gb, e2, cb⟩ := HS3.out.ia rfl hu
          cases e2
          by_cases hcmp : fn A u < fn A q
          · have HB := hid (best_gt hw hb hcmp)
            rw [hb]
            clear hb hf
            have hu0 : decide ((u : Int) < 0) = false := by simp
            go_wp2
            go_quiet (fail)
            go_wp2
            go_roundw
            case rel => exact ⟨q + 1, by omega, by go_num, by rw [HB.out], hid (b3.out.trans (drewN_any _ _ _))⟩
            case measure => simp only [intOf]; omega
          · have HB := hid (best_le hw hb hcmp)
            have HB2 := hid hb
            rw [hb]
            clear hb hf
            have hu0 : decide ((u : Int) < 0) = false := by simp
            go_wp2
            go_quiet (fail)
            go_wp2
            go_roundw
            case rel => exact ⟨q + 1, by omega, by go_num, by rw [HB.out, HB2.out], hid (b3.out.trans (drewN_any _ _ _))⟩
            case measure => simp only [intOf]; omega
    · obtain rfl : q = A.length := by omega
      rcases bestF_is A W A.length with ⟨hb, _⟩ | ⟨u, hb, hf⟩
      · have HE := hid (popped_none hb)
        rw [hb]
        obtain ⟨r1, r2, r3, r4⟩ := box_cells h5
        go_wp2
        refine bodyPost_ret (results_box3 rfl _ _ (w.heap.size + 1) (.slice ao A.length c) (.slice bo W.length d) rfl (by simp [go_sem, r1]) (by simp [go_sem, r2])) rfl ?_
        exact ⟨_, by rw [HE.out.1, HE.out.2.1]; rfl, by rw [HE.out.2.2]; exact HS.out.below (put_below b4.out), Nw.refl _ _, put_below b4.out⟩
      · have HE := hid (popped_one hb)
        have huw : u < W.length := by have := hf.1; have := HL.out; omega
        rw [hb]
        clear hb hf
        go_wp2_with (go_at_call 29; with_reducible (refine (rset_at (HS.out.below b4.out) u huw false hn).mono ?_); rintro e w4 ⟨bo', d', rfl, h6, h6n, b6⟩; have h7 := box_keep h5 b6.out; have r0 := box_cells h7; obtain ⟨r1, r2, r3, r4⟩ := r0)
        refine bodyPost_ret (results_box3 rfl _ _ (w.heap.size + 1) (.slice ao A.length c) (.slice bo' W.length d') rfl (by simp [go_sem, r1]) (by simp [go_sem, r2])) rfl ?_
        have hsz : w.heap.size + 2 ≤ wr.heap.size := by have := b3.out.size; simp at this; omega
        obtain ⟨q1, q2⟩ := HS.out.ne h6n.out hsz
        have b8 := put_below (p := .slice ao A.length c) (q := .slice bo' W.length d') (Below.next b4.out b6.out)
        exact ⟨_, by rw [HE.out.1, HE.out.2.1]; rfl, by rw [HE.out.2.2]; exact h6.out.put q1 q2, h6n.out.mono b4.out.size, b8⟩

end Go.Proofs.Ytbddhjohlpblaaa
