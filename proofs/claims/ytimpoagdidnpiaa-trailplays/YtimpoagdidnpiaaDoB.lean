/-
  One deed: back to a level; what is no deed; all deeds.
-/
import Derived.Test.YtimpoagdidnpiaaDo
namespace Go.Proofs.Ytimpoagdidnpiaa
open Go.RowKit
set_option linter.unusedVariables false

theorem backG_len (L : List E) (lev : Nat) (x : Int) : (backG L lev x).length ≤ L.length := by
  unfold backG
  split
  · simp
  · simp

/-- The document's list that was told, behind the stores. -/
theorem out_mid {w w4 : World} {x y z o4 : Obj} {v : Value} {G : List Int} (h : OwnL w4 (((w.alloc x).alloc y).alloc z).heap.size v G) (y0 y1 y2 : Value) :
    OwnL ((((w4.alloc o4).setCell ⟨w.heap.size, 0, none⟩ y0).setCell ⟨w.heap.size, 1, none⟩ y1).setCell ⟨w.heap.size, 2, none⟩ y2) (w.heap.size + 3) v G := by
  have e : (((w.alloc x).alloc y).alloc z).heap.size = w.heap.size + 3 := by simp
  rw [e] at h
  exact (h.below (below_alloc w4 o4)).keep (grown3 _ w.heap.size 0 1 2 y0 y1 y2) (fun j hj e => by cases hj; have := (h.lt e).1; omega)

section
variable {k : K} {w : World} {L : List E} {lev : Nat} {p : V} {rv : Value} {L2 : List E} {n2 lev2 : Nat}

/-- Both lists, behind Back. -/
theorem back_rows {w5 w6 : World} {p' : V} {x : Int} {ao ao2 : Option Addr} {n c c2 m : Nat} {G : List Int} (t : Trl k w L lev p) (e : BtEnd k w5 L lev p x (.slice ao n c) p' w6) (h : OwnL w5 (w.heap.size + 3) (.slice ao2 m c2) G) : Row w6 ao n (backG L lev x) ∧ Row w6 ao2 m G := by
  refine ⟨Row.of (LRow.of_own e.row), Row.of (LRow.of_own (e.fr.own h ?_))⟩
  intro j hj hm
  have := (h.lt hj).1
  have := (t.lt hm).2
  omega

set_option maxHeartbeats 4000000 in
theorem do_back (h : DoIn k w L lev p rv L2 n2 lev2) (l t : Int) (hu : l ≤ 9223372036854775807) :
    Calls Try.prog 9 #[.pointer (some ⟨k.OB, 0, none⟩), .agg #[.int .i64 n2, rv, .int .i64 lev2], .agg #[.int .i64 2, .int .i64 l, .int .i64 t]] w fun e w' => ∃ rv', e = .returned (.tuple #[.agg #[.int .i64 n2, rv', .int .i64 (doV n2 L2 lev2 2 l t)], .int .i64 (doI (doB k.n L lev n2 L2 lev2 2 l t))]) ∧ DoEnd k w (doL k.n L lev 2 l t) (doV k.n L lev 2 l t) p (doL n2 L2 lev2 2 l t) rv' w' := by
  obtain ⟨ao, cap, rfl, _⟩ := h.r.ro.shape
  have H := hid h
  obtain ⟨L2', hL2⟩ : ∃ L2', backL L2 lev2 t = L2' := ⟨_, rfl⟩
  obtain ⟨v2, hv2⟩ : ∃ v2, backV lev2 t = v2 := ⟨_, rfl⟩
  obtain ⟨G2, hG2⟩ : ∃ G2, backG L2 lev2 t = G2 := ⟨_, rfl⟩
  obtain ⟨c0, hc0⟩ : ∃ c0, sameF (backG L lev t) G2 = c0 := ⟨_, rfl⟩
  have HK : Hid (doL k.n L lev 2 l t = backL L lev t ∧ doV k.n L lev 2 l t = backV lev t ∧ doL n2 L2 lev2 2 l t = L2' ∧ doV n2 L2 lev2 2 l t = v2 ∧ doB k.n L lev n2 L2 lev2 2 l t = c0) := hid ⟨by simp [doL], by simp [doV], by simp [doL, hL2], by simp [doV, hv2], by simp [doB, hG2, hc0]⟩
  have hg1 : (backG L lev t).length ≤ 1048576 := by have := backG_len L lev t; have := h.t.len; omega
  have hg2 : G2.length ≤ 1048576 := by rw [← hG2]; have := backG_len L2 lev2 t; have := h.r.hl; omega
  have HL2 := hid hL2
  have HV2 := hid hv2
  have HG2 := hid hG2
  have HC := hid hc0
  clear h hL2 hv2 hG2 hc0
  cases c0
  all_goals
    go_enter Try.func9, Try.ntmps9
    go_upto_region 14 with (go_at_call 25; with_reducible (refine (rback_at (H.out.r.below (by go_grown)) t HL2.out HV2.out HG2.out).mono ?_); rintro e w4 ⟨ao4, c4, ao3, c3, rfl, r4, o4⟩; have h4 := three_boxes r4.out.be; obtain ⟨x4, d4, z4, b4⟩ := h4; have x5 := box_cells (box_keep x4 (below_alloc w4 (.cells #[.int .i64 n2, .slice ao4 L2'.length c4, .int .i64 v2] 28))); obtain ⟨⟨x6, x7, x8⟩, x9, x10, x11⟩ := x5; have d5 := box3_cells d4; obtain ⟨d6, d7, d8⟩ := d5)
    have MO := hid (mid_new (o4 := .cells #[.int .i64 n2, .slice ao4 L2'.length c4, .int .i64 v2] 28) H.out r4.out (.int .i64 n2) (.slice ao4 L2'.length c4) (.int .i64 v2))
    have OO := hid (out_mid (o4 := .cells #[.int .i64 n2, .slice ao4 L2'.length c4, .int .i64 v2] 28) o4.out (.int .i64 n2) (.slice ao4 L2'.length c4) (.int .i64 v2))
    clear x4 d4 z4 b4 x6 x7 x8 x9 x10 x11 d6 d7 d8 r4 o4
    revert MO OO
    generalize ((((w4.alloc (.cells #[.int .i64 n2, .slice ao4 L2'.length c4, .int .i64 v2] 28)).setCell ⟨w.heap.size, 0, none⟩ (.int .i64 n2)).setCell ⟨w.heap.size, 1, none⟩ (.slice ao4 L2'.length c4)).setCell ⟨w.heap.size, 2, none⟩ (.int .i64 v2)) = w5
    intro MO OO
    obtain ⟨e6, e7, e8⟩ := box3_cells MO.out.1.hd
    go_wp2_with (first
      | (go_at_call 20; with_reducible (refine (back_is MO.out.2 t).mono ?_); rintro e w6 ⟨ao6, n6, c6, p6, rfl, e9, h9⟩; have rows := hid (back_rows H.out.t e9.out OO.out); have hn6 : n6 ≤ 1048576 := by rw [h9.out]; exact hg1)
      | (go_at_call 17; with_reducible (refine (same_any _ _ _ _ _ _ _ _ _ rows.out.1 rows.out.2 hn6 hg2 HC.out).mono ?_); rintro e w7 ⟨rfl, b7⟩; have m6 := hid ((MO.out.1.step e9.out.fr).below b7.out); have t6 := hid (e9.out.trl.below b7.out); have g1 := box_cells m6.out.hx; obtain ⟨⟨g2, g3, g4⟩, g5, g6, g7⟩ := g1; have q1 := box_cells m6.out.hr; obtain ⟨⟨q2, q3, q4⟩, q5, q6, q7⟩ := q1))
    refine bodyPost_ret (results_box2 rfl _ _ (w.heap.size + 1 + 1) (.int .i64 n2) (.slice ao4 L2'.length c4) (.int .i64 v2) rfl (by simp [go_sem, q2]) (by simp [go_sem, q3]) (by simp [go_sem, q4])) rfl ?_
    exact ⟨_, by rw [HK.out.2.2.2.1, HK.out.2.2.2.2] <;> rfl, by rw [HK.out.1, HK.out.2.1, HK.out.2.2.1]; exact m6.out.done t6.out _ _ _⟩

set_option maxHeartbeats 4000000 in
theorem do_other (h : DoIn k w L lev p rv L2 n2 lev2) (kd l t : Int) (h0 : ¬ kd = 0) (h1 : ¬ kd = 1) (h2 : ¬ kd = 2) :
    Calls Try.prog 9 #[.pointer (some ⟨k.OB, 0, none⟩), .agg #[.int .i64 n2, rv, .int .i64 lev2], .agg #[.int .i64 kd, .int .i64 l, .int .i64 t]] w fun e w' => ∃ rv', e = .returned (.tuple #[.agg #[.int .i64 n2, rv', .int .i64 (doV n2 L2 lev2 kd l t)], .int .i64 (doI (doB k.n L lev n2 L2 lev2 kd l t))]) ∧ DoEnd k w (doL k.n L lev kd l t) (doV k.n L lev kd l t) p (doL n2 L2 lev2 kd l t) rv' w' := by
  obtain ⟨ao, cap, rfl, _⟩ := h.r.ro.shape
  have H := hid h
  have HK : Hid (doL k.n L lev kd l t = L ∧ doV k.n L lev kd l t = lev ∧ doL n2 L2 lev2 kd l t = L2 ∧ doV n2 L2 lev2 kd l t = lev2 ∧ doB k.n L lev n2 L2 lev2 kd l t = true) := hid ⟨by simp [doL, h0, h1, h2], by simp [doV, h0, h1, h2], by simp [doL, h0, h1, h2], by simp [doV, h0, h1, h2], by simp [doB, h0, h1, h2]⟩
  have k0 : (kd == 0) = false := by simpa using h0
  have k1 : (kd == 1) = false := by simpa using h1
  have k2 : (kd == 2) = false := by simpa using h2
  have HE : Hid (∀ a b c, DoEnd k w L lev p L2 (.slice ao L2.length cap) (((w.alloc (.cells #[.int .i64 n2, .slice ao L2.length cap, .int .i64 lev2] 28)).alloc (.cells #[.int .i64 kd, .int .i64 l, .int .i64 t] 33)).alloc (.cells #[a, b, c] 28))) := hid (fun a b c => by
    have bb : Below w.heap.size w (((w.alloc (.cells #[.int .i64 n2, .slice ao L2.length cap, .int .i64 lev2] 28)).alloc (.cells #[.int .i64 kd, .int .i64 l, .int .i64 t] 33)).alloc (.cells #[a, b, c] 28)) := by go_grown
    exact ⟨p, h.t.below bb, h.r.ro.below bb, h.aw, Fr.below bb⟩)
  clear h h0 h1 h2
  go_enter Try.func9, Try.ntmps9
  go_wp2
  refine bodyPost_ret (results_box2 rfl _ _ (w.heap.size + 1 + 1) (.int .i64 n2) (.slice ao L2.length cap) (.int .i64 lev2) rfl (by simp [go_sem]) (by simp [go_sem]) (by simp [go_sem])) rfl ?_
  exact ⟨_, by rw [HK.out.2.2.2.1, HK.out.2.2.2.2] <;> rfl, by rw [HK.out.1, HK.out.2.1, HK.out.2.2.1]; exact HE.out _ _ _⟩

/-- Whatever the deed is. -/
theorem do_any (h : DoIn k w L lev p rv L2 n2 lev2) (kd l t : Int) (hu : l ≤ 9223372036854775807) {L' L2' : List E} {v' v2' : Nat} {b : Bool} (hL : doL k.n L lev kd l t = L') (hL2 : doL n2 L2 lev2 kd l t = L2') (hv : doV k.n L lev kd l t = v') (hv2 : doV n2 L2 lev2 kd l t = v2') (hb : doB k.n L lev n2 L2 lev2 kd l t = b) :
    Calls Try.prog 9 #[.pointer (some ⟨k.OB, 0, none⟩), .agg #[.int .i64 n2, rv, .int .i64 lev2], .agg #[.int .i64 kd, .int .i64 l, .int .i64 t]] w fun e w' => ∃ ao c, e = .returned (.tuple #[.agg #[.int .i64 n2, .slice ao L2'.length c, .int .i64 v2'], .int .i64 (doI b)]) ∧ Hid (DoEnd k w L' v' p L2' (.slice ao L2'.length c) w') := by
  have key : Calls Try.prog 9 #[.pointer (some ⟨k.OB, 0, none⟩), .agg #[.int .i64 n2, rv, .int .i64 lev2], .agg #[.int .i64 kd, .int .i64 l, .int .i64 t]] w fun e w' => ∃ rv', e = .returned (.tuple #[.agg #[.int .i64 n2, rv', .int .i64 (doV n2 L2 lev2 kd l t)], .int .i64 (doI (doB k.n L lev n2 L2 lev2 kd l t))]) ∧ DoEnd k w (doL k.n L lev kd l t) (doV k.n L lev kd l t) p (doL n2 L2 lev2 kd l t) rv' w' := by
    by_cases h0 : kd = 0
    · subst h0; exact do_assign h l t hu
    · by_cases h1 : kd = 1
      · subst h1; exact do_decide h l t hu
      · by_cases h2 : kd = 2
        · subst h2; exact do_back h l t hu
        · exact do_other h kd l t h0 h1 h2
  refine key.mono fun e w' he => ?_
  rw [hL, hL2, hv, hv2, hb] at he
  obtain ⟨rv', rfl, p', h1, h2, h3, h4⟩ := he
  obtain ⟨ao, c, rfl, _⟩ := h2.shape
  exact ⟨ao, c, rfl, ⟨p', h1, h2, h3, h4⟩⟩
end

end Go.Proofs.Ytimpoagdidnpiaa
