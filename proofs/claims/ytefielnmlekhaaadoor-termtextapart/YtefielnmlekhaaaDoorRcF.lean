/-
  The document's calls: Ite.
-/
import Derived.Test.YtefielnmlekhaaaDoorRcH
namespace Go.Proofs.YtefielnmlekhaaaDoor
open Go.RowKit Go.Maps
set_option linter.unusedVariables false
set_option maxRecDepth 100000

theorem RE.two {w0 wr : World} {ao : Option Addr} {c M : Nat} {N : List Nd} (h : RE w0 ao c M N wr) : wr.cell? ⟨w0.heap.size, 0, none⟩ = some (.slice ao N.length c) ∧ wr.cell? ⟨w0.heap.size, 1, none⟩ = some (.int .i64 M) := ⟨(two_of h.b0).1, (two_of h.b0).2⟩
set_option maxHeartbeats 8000000 in
theorem rite_any {w : World} {ao : Option Addr} {c M : Nat} {N : List Nd} (s : RD w ao c N) (hN : N.length ≤ 65536) (d a b : Int) :
    Calls Tryd.prog 38 #[.agg #[.slice ao N.length c, .int .i64 M], .int .i64 d, .int .i64 a, .int .i64 b] w fun e w' => RcEnd w ao M N (iteP N d a b) e w' := by
  have HS : Hid (RE w ao c M N _) := hid (RE.start s)
  clear s
  cases hd : isN N d
  · refine rc_tells (q := .inl (0, 11)) (by simp only [iteP, hd]; rfl) ?_
    have HD := hid hd
    clear hd
    go_enter Tryd.func38, Tryd.ntmps38
    go_upto_region 1 with fail
    revert HS
    generalize ((w.alloc (.cells #[.slice ao N.length c, .int .i64 M] 27)).alloc (.cells #[.slice none 0 0, .int .i64 0] 27)) = wr
    intro HS
    have C0 := HS.out.cells
    obtain ⟨c0, c1, r0, r1, f0, f1⟩ := C0
    go_wp2_with (go_at_call 22; with_reducible (refine (ris_at HS.out d HD.out).mono ?_); rintro e w2 ⟨rfl, s2, q2⟩; obtain ⟨c0, c1, r0, r1, f0, f1⟩ := q2)
    refine bodyPost_ret (results_box3 rfl _ _ (w.heap.size + 1) _ _ rfl (res_two s2.out.b1).1 (res_two s2.out.b1).2) rfl ?_
    exact rc_no s2.out
  cases ha : isN N a
  · refine rc_tells (q := .inl (0, 11)) (by simp only [iteP, hd, ha]; rfl) ?_
    have HD := hid hd
    have HA := hid ha
    clear hd ha
    go_enter Tryd.func38, Tryd.ntmps38
    go_upto_region 1 with fail
    revert HS
    generalize ((w.alloc (.cells #[.slice ao N.length c, .int .i64 M] 27)).alloc (.cells #[.slice none 0 0, .int .i64 0] 27)) = wr
    intro HS
    have C0 := HS.out.cells
    obtain ⟨c0, c1, r0, r1, f0, f1⟩ := C0
    go_wp2_with (first
      | (go_at_call 22; with_reducible (refine (ris_at s2.out a HA.out).mono ?_); rintro e w3 ⟨rfl, s3, q3⟩; obtain ⟨c0, c1, r0, r1, f0, f1⟩ := q3)
      | (go_at_call 22; with_reducible (refine (ris_at HS.out d HD.out).mono ?_); rintro e w2 ⟨rfl, s2, q2⟩; obtain ⟨c0, c1, r0, r1, f0, f1⟩ := q2))
    refine bodyPost_ret (results_box3 rfl _ _ (w.heap.size + 1) _ _ rfl (res_two s3.out.b1).1 (res_two s3.out.b1).2) rfl ?_
    exact rc_no s3.out
  cases hb : isN N b
  · refine rc_tells (q := .inl (0, 11)) (by simp only [iteP, hd, ha, hb]; rfl) ?_
    have HD := hid hd
    have HA := hid ha
    have HB := hid hb
    clear hd ha hb
    go_enter Tryd.func38, Tryd.ntmps38
    go_upto_region 1 with fail
    revert HS
    generalize ((w.alloc (.cells #[.slice ao N.length c, .int .i64 M] 27)).alloc (.cells #[.slice none 0 0, .int .i64 0] 27)) = wr
    intro HS
    have C0 := HS.out.cells
    obtain ⟨c0, c1, r0, r1, f0, f1⟩ := C0
    go_wp2_with (first
      | (go_at_call 22; with_reducible (refine (ris_at s3.out b HB.out).mono ?_); rintro e w4 ⟨rfl, s4, q4⟩; obtain ⟨c0, c1, r0, r1, f0, f1⟩ := q4)
      | (go_at_call 22; with_reducible (refine (ris_at s2.out a HA.out).mono ?_); rintro e w3 ⟨rfl, s3, q3⟩; obtain ⟨c0, c1, r0, r1, f0, f1⟩ := q3)
      | (go_at_call 22; with_reducible (refine (ris_at HS.out d HD.out).mono ?_); rintro e w2 ⟨rfl, s2, q2⟩; obtain ⟨c0, c1, r0, r1, f0, f1⟩ := q2))
    refine bodyPost_ret (results_box3 rfl _ _ (w.heap.size + 1) _ _ rfl (res_two s4.out.b1).1 (res_two s4.out.b1).2) rfl ?_
    exact rc_no s4.out
  have HD := hid hd
  have HA := hid ha
  have HB := hid hb
  obtain ⟨z, hz⟩ : ∃ z, wdF N d = z := ⟨_, rfl⟩
  obtain ⟨x, hx⟩ : ∃ x, wdF N a = x := ⟨_, rfl⟩
  obtain ⟨y, hy⟩ : ∃ y, wdF N b = y := ⟨_, rfl⟩
  have HZ := hid hz
  have HX := hid hx
  have HY := hid hy
  obtain ⟨tt, htt⟩ : ∃ tt, ((z != 1) || (x != y)) = tt := ⟨_, rfl⟩
  have HP : Hid (iteP N d a b = if tt then .inl (0, 2) else .inr ⟨22, x, d, a, b, 0⟩) := hid (by simp only [iteP, hd, ha, hb, hx, hy, hz, htt]; simp)
  clear hd ha hb hx hy hz
  go_enter Tryd.func38, Tryd.ntmps38
  go_upto_region 1 with fail
  revert HS
  generalize ((w.alloc (.cells #[.slice ao N.length c, .int .i64 M] 27)).alloc (.cells #[.slice none 0 0, .int .i64 0] 27)) = wr
  intro HS
  have C0 := HS.out.cells
  obtain ⟨c0, c1, r0, r1, f0, f1⟩ := C0
  go_upto_region 3 with (first
    | (go_at_call 22; with_reducible (refine (ris_at s3.out b HB.out).mono ?_); rintro e w4 ⟨rfl, s4, q4⟩; obtain ⟨c0, c1, r0, r1, f0, f1⟩ := q4)
    | (go_at_call 22; with_reducible (refine (ris_at s2.out a HA.out).mono ?_); rintro e w3 ⟨rfl, s3, q3⟩; obtain ⟨c0, c1, r0, r1, f0, f1⟩ := q3)
    | (go_at_call 22; with_reducible (refine (ris_at HS.out d HD.out).mono ?_); rintro e w2 ⟨rfl, s2, q2⟩; obtain ⟨c0, c1, r0, r1, f0, f1⟩ := q2))
  go_cut [40] from 28 (fun t wx => t = .bool tt ∧ Hid (RE w ao c M N wx))
  case first =>
    have S4 := hid s4.out.drew
    by_cases hz1 : z = 1
    · subst hz1
      have ht : (x != y) = tt := by simpa using htt
      clear htt
      go_region_held3 (fun W => W.cell? ⟨w.heap.size, 0, none⟩ = some (.slice ao N.length c) ∧ W.cell? ⟨w.heap.size, 1, none⟩ = some (.int .i64 M)) (first | exact RE.two (Hid.out (by assumption))) (first
        | (go_at_call 55; with_reducible (refine (rwidth_at (Hid.out (by assumption)) d HZ.out).mono ?_); rintro e w5 ⟨rfl, s5, q5⟩; obtain ⟨c0, c1, r0, r1, f0, f1⟩ := q5)
        | (go_at_call 55; with_reducible (refine (rwidth_at (Hid.out (by assumption)) a HX.out).mono ?_); rintro e w6 ⟨rfl, s6, q6⟩; obtain ⟨c0, c1, r0, r1, f0, f1⟩ := q6)
        | (go_at_call 55; with_reducible (refine (rwidth_at (Hid.out (by assumption)) b HY.out).mono ?_); rintro e w7 ⟨rfl, s7, q7⟩; obtain ⟨c0, c1, r0, r1, f0, f1⟩ := q7))
      all_goals go_wp2_with fail
      all_goals go_meet
      all_goals first
        | exact ⟨by rw [← ht], s7⟩
        | exact ⟨by rw [← ht], s6⟩
    · have hne : (z != 1) = true := by simpa using hz1
      have ht : tt = true := by rw [← htt, hne]; rfl
      subst ht
      clear htt hz1
      first
        | go_region_with (go_at_call 55; with_reducible (refine (rwidth_at (Hid.out (by assumption)) d HZ.out).mono ?_); rintro e w5 ⟨rfl, s5, q5⟩; obtain ⟨c0, c1, r0, r1, f0, f1⟩ := q5)
        | fail
      all_goals go_wp2_with fail
      all_goals go_meet
      all_goals exact ⟨rfl, s5⟩
  case rest =>
    obtain ⟨rfl, hr⟩ := hcut
    clear c0 c1 r0 r1 f0 f1
    clear s2 s3 s4 HS htt
    obtain ⟨c0, c1, r0, r1, f0, f1⟩ := hr.out.cells
    cases tt
    · have HQ : Hid (iteP N d a b = .inr ⟨22, x, d, a, b, 0⟩) := hid HP.out
      have S8 := hid hr.out.drew
      go_wp2_with fail
      go_region_held3 (fun W => W.cell? ⟨w.heap.size, 0, none⟩ = some (.slice ao N.length c) ∧ W.cell? ⟨w.heap.size, 1, none⟩ = some (.int .i64 M) ∧ W.frozen? ⟨w.heap.size + 1, 0, none⟩ = false ∧ W.frozen? ⟨w.heap.size + 1, 1, none⟩ = false) (first | exact RE.four (Hid.out (by assumption)) | exact RE.fours (Hid.out (by assumption)) (Hid.out (by assumption)) | exact RE.fourt (Hid.out (by assumption)) (Hid.out (by assumption))) (first
        | (go_at_call 55; with_reducible (refine (rwidth_at (Hid.out (by assumption)) a HX.out).mono ?_); rintro e w8 ⟨rfl, s8, q8⟩; obtain ⟨c0, c1, r0, r1, f0, f1⟩ := q8)
        | (go_at_call 53; with_reducible (refine (rmade_at (Hid.out (by assumption)) 22 x d a b 0 hN).mono ?_); rintro e w9 ⟨ao9, cc9, rfl, h9, b9, q9⟩; obtain ⟨c0, c1, r0, r1, f0, f1⟩ := q9))
      all_goals go_wp2
      all_goals (refine bodyPost_ret (results_box3 rfl _ _ (w.heap.size + 1) _ _ rfl (res_two (s8.out.below b9.out).b1).1 (res_two (s8.out.below b9.out).b1).2) rfl ?_; show RcEnd _ _ _ _ _ _ _; rw [HQ.out]; exact rc_yes s8.out h9 b9)
    · have HQ : Hid (iteP N d a b = .inl (0, 2)) := hid HP.out
      go_wp2
      refine bodyPost_ret (results_box3 rfl _ _ (w.heap.size + 1) _ _ rfl (res_two hr.out.b1).1 (res_two hr.out.b1).2) rfl ?_
      show RcEnd _ _ _ _ _ _ _
      rw [HQ.out]
      exact rc_no hr.out

end Go.Proofs.YtefielnmlekhaaaDoor
