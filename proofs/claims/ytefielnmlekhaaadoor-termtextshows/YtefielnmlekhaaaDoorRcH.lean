/-
  The document's calls: Concat.
-/
import Derived.Test.YtefielnmlekhaaaDoorRcalls
namespace Go.Proofs.YtefielnmlekhaaaDoor
open Go.RowKit Go.Maps
set_option linter.unusedVariables false
set_option maxRecDepth 100000

theorem RE.four {w0 wr : World} {ao : Option Addr} {c M : Nat} {N : List Nd} (h : RE w0 ao c M N wr) : wr.cell? ⟨w0.heap.size, 0, none⟩ = some (.slice ao N.length c) ∧ wr.cell? ⟨w0.heap.size, 1, none⟩ = some (.int .i64 M) ∧ wr.frozen? ⟨w0.heap.size + 1, 0, none⟩ = false ∧ wr.frozen? ⟨w0.heap.size + 1, 1, none⟩ = false :=
  ⟨(two_of h.b0).1, (two_of h.b0).2, frozen_of h.b1, frozen_of h.b1⟩
theorem RE.fours {w0 wr wr' : World} {ao : Option Addr} {c M : Nat} {N : List Nd} (h : RE w0 ao c M N wr) (b : Below wr.heap.size wr wr') : wr'.cell? ⟨w0.heap.size, 0, none⟩ = some (.slice ao N.length c) ∧ wr'.cell? ⟨w0.heap.size, 1, none⟩ = some (.int .i64 M) ∧ wr'.frozen? ⟨w0.heap.size + 1, 0, none⟩ = false ∧ wr'.frozen? ⟨w0.heap.size + 1, 1, none⟩ = false := (h.below b).four
theorem RE.fourt {w0 wr wr' : World} {ao : Option Addr} {c M : Nat} {N : List Nd} {x y : Value} (h : RE w0 ao c M N wr) (b : Below wr.heap.size wr wr') :
    ((wr'.setCell ⟨w0.heap.size + 1, 0, none⟩ x).setCell ⟨w0.heap.size + 1, 1, none⟩ y).cell? ⟨w0.heap.size, 0, none⟩ = some (.slice ao N.length c) ∧ ((wr'.setCell ⟨w0.heap.size + 1, 0, none⟩ x).setCell ⟨w0.heap.size + 1, 1, none⟩ y).cell? ⟨w0.heap.size, 1, none⟩ = some (.int .i64 M) ∧
      ((wr'.setCell ⟨w0.heap.size + 1, 0, none⟩ x).setCell ⟨w0.heap.size + 1, 1, none⟩ y).frozen? ⟨w0.heap.size + 1, 0, none⟩ = false ∧ ((wr'.setCell ⟨w0.heap.size + 1, 0, none⟩ x).setCell ⟨w0.heap.size + 1, 1, none⟩ y).frozen? ⟨w0.heap.size + 1, 1, none⟩ = false := by
  have s := h.below b
  have g1 := set_same (set_same s.b1 (o := 0) x) (o := 1) y
  have g0 : ((wr'.setCell ⟨w0.heap.size + 1, 0, none⟩ x).setCell ⟨w0.heap.size + 1, 1, none⟩ y).heap[w0.heap.size]? = some (.cells #[.slice ao N.length c, .int .i64 M] 27 (0, 0)) := by
    rw [set_other _ (by simp), set_other _ (by simp)]; exact s.b0
  exact ⟨(two_of g0).1, (two_of g0).2, frozen_of g1, frozen_of g1⟩

set_option maxHeartbeats 8000000 in
theorem rconcat_any {w : World} {ao : Option Addr} {c M : Nat} {N : List Nd} (s : RD w ao c N) (hN : N.length ≤ 65536) (gd : Gd N) (a b : Int) :
    Calls Tryd.prog 40 #[.agg #[.slice ao N.length c, .int .i64 M], .int .i64 a, .int .i64 b] w fun e w' => RcEnd w ao M N (catP N a b) e w' := by
  have HS : Hid (RE w ao c M N _) := hid (RE.start s)
  clear s
  cases ha : isN N a
  · refine rc_tells (q := .inl (0, 11)) (by simp only [catP, ha]; rfl) ?_
    have HA := hid ha
    clear ha
    go_enter Tryd.func40, Tryd.ntmps40
    go_upto_region 1 with fail
    revert HS
    generalize ((w.alloc (.cells #[.slice ao N.length c, .int .i64 M] 27)).alloc (.cells #[.slice none 0 0, .int .i64 0] 27)) = wr
    intro HS
    have C0 := HS.out.cells
    obtain ⟨c0, c1, r0, r1, f0, f1⟩ := C0
    go_wp2_with (go_at_call 22; with_reducible (refine (ris_at HS.out a HA.out).mono ?_); rintro e w2 ⟨rfl, s2, q2⟩; obtain ⟨c0, c1, r0, r1, f0, f1⟩ := q2)
    refine bodyPost_ret (results_box3 rfl _ _ (w.heap.size + 1) _ _ rfl (res_two s2.out.b1).1 (res_two s2.out.b1).2) rfl ?_
    exact rc_no s2.out
  cases hb : isN N b
  · refine rc_tells (q := .inl (0, 11)) (by simp only [catP, ha, hb]; rfl) ?_
    have HA := hid ha
    have HB := hid hb
    clear ha hb
    go_enter Tryd.func40, Tryd.ntmps40
    go_upto_region 1 with fail
    revert HS
    generalize ((w.alloc (.cells #[.slice ao N.length c, .int .i64 M] 27)).alloc (.cells #[.slice none 0 0, .int .i64 0] 27)) = wr
    intro HS
    have C0 := HS.out.cells
    obtain ⟨c0, c1, r0, r1, f0, f1⟩ := C0
    go_wp2_with (first
      | (go_at_call 22; with_reducible (refine (ris_at s2.out b HB.out).mono ?_); rintro e w3 ⟨rfl, s3, q3⟩; obtain ⟨c0, c1, r0, r1, f0, f1⟩ := q3)
      | (go_at_call 22; with_reducible (refine (ris_at HS.out a HA.out).mono ?_); rintro e w2 ⟨rfl, s2, q2⟩; obtain ⟨c0, c1, r0, r1, f0, f1⟩ := q2))
    refine bodyPost_ret (results_box3 rfl _ _ (w.heap.size + 1) _ _ rfl (res_two s3.out.b1).1 (res_two s3.out.b1).2) rfl ?_
    exact rc_no s3.out
  have HA := hid ha
  have HB := hid hb
  have w1 := wdF_in gd ha
  have w2 := wdF_in gd hb
  obtain ⟨x, hx⟩ : ∃ x, wdF N a = x := ⟨_, rfl⟩
  obtain ⟨y, hy⟩ : ∃ y, wdF N b = y := ⟨_, rfl⟩
  rw [hx] at w1
  rw [hy] at w2
  have HX := hid hx
  have HY := hid hy
  obtain ⟨z, hz⟩ : ∃ z, x + y = z := ⟨_, rfl⟩
  have ew : IntKind.i64.wrap (x + y) = z := by rw [hz, IntKind.wrap_i64]; omega
  have HZ := hid hz
  obtain ⟨tt, htt⟩ : ∃ tt, decide (64 < z) = tt := ⟨_, rfl⟩
  have HP : Hid (catP N a b = if tt then .inl (0, 2) else .inr ⟨24, z, a, b, 0, 0⟩) := hid (by simp only [catP, ha, hb, hx, hy, hz, htt]; simp)
  clear ha hb w1 w2 hx hy hz gd
  go_enter Tryd.func40, Tryd.ntmps40
  go_upto_region 1 with fail
  revert HS
  generalize ((w.alloc (.cells #[.slice ao N.length c, .int .i64 M] 27)).alloc (.cells #[.slice none 0 0, .int .i64 0] 27)) = wr
  intro HS
  have C0 := HS.out.cells
  obtain ⟨c0, c1, r0, r1, f0, f1⟩ := C0
  go_upto_region 3 with (first
    | (go_at_call 22; with_reducible (refine (ris_at s2.out b HB.out).mono ?_); rintro e w3 ⟨rfl, s3, q3⟩; obtain ⟨c0, c1, r0, r1, f0, f1⟩ := q3)
    | (go_at_call 22; with_reducible (refine (ris_at HS.out a HA.out).mono ?_); rintro e w2 ⟨rfl, s2, q2⟩; obtain ⟨c0, c1, r0, r1, f0, f1⟩ := q2))
  go_cut [27] from 20 (fun t wx => t = .bool tt ∧ Hid (RE w ao c M N wx))
  case first =>
    have S4 := hid s3.out.drew
    go_region_held3 (fun W => W.cell? ⟨w.heap.size, 0, none⟩ = some (.slice ao N.length c) ∧ W.cell? ⟨w.heap.size, 1, none⟩ = some (.int .i64 M) ∧ W.frozen? ⟨w.heap.size + 1, 0, none⟩ = false ∧ W.frozen? ⟨w.heap.size + 1, 1, none⟩ = false) (first | exact RE.four (Hid.out (by assumption)) | exact RE.fours (Hid.out (by assumption)) (Hid.out (by assumption)) | exact RE.fourt (Hid.out (by assumption)) (Hid.out (by assumption))) (first
      | (go_at_call 55; with_reducible (refine (rwidth_at (Hid.out (by assumption)) a HX.out).mono ?_); rintro e w5 ⟨rfl, s5, q5⟩; obtain ⟨c0, c1, r0, r1, f0, f1⟩ := q5)
      | (go_at_call 55; with_reducible (refine (rwidth_at (Hid.out (by assumption)) b HY.out).mono ?_); rintro e w6 ⟨rfl, s6, q6⟩; obtain ⟨c0, c1, r0, r1, f0, f1⟩ := q6))
    all_goals go_wp2_with fail
    all_goals go_meet
    all_goals first
      | exact ⟨rfl, s6⟩
      | exact ⟨rfl, s5⟩
      | trace_state
  case rest =>
    obtain ⟨rfl, hr⟩ := hcut
    clear c0 c1 r0 r1 f0 f1
    clear s2 s3 HS
    obtain ⟨c0, c1, r0, r1, f0, f1⟩ := hr.out.cells
    cases tt
    · have HQ : Hid (catP N a b = .inr ⟨24, z, a, b, 0, 0⟩) := hid HP.out
      have S4 := hid hr.out.drew
      go_wp2_with fail
      go_region_held3 (fun W => W.cell? ⟨w.heap.size, 0, none⟩ = some (.slice ao N.length c) ∧ W.cell? ⟨w.heap.size, 1, none⟩ = some (.int .i64 M) ∧ W.frozen? ⟨w.heap.size + 1, 0, none⟩ = false ∧ W.frozen? ⟨w.heap.size + 1, 1, none⟩ = false) (first | exact RE.four (Hid.out (by assumption)) | exact RE.fours (Hid.out (by assumption)) (Hid.out (by assumption)) | exact RE.fourt (Hid.out (by assumption)) (Hid.out (by assumption))) (first
        | (go_at_call 55; with_reducible (refine (rwidth_at (Hid.out (by assumption)) a HX.out).mono ?_); rintro e w5 ⟨rfl, s5, q5⟩; obtain ⟨c0, c1, r0, r1, f0, f1⟩ := q5)
        | (go_at_call 55; with_reducible (refine (rwidth_at (Hid.out (by assumption)) b HY.out).mono ?_); rintro e w6 ⟨rfl, s6, q6⟩; obtain ⟨c0, c1, r0, r1, f0, f1⟩ := q6)
        | (go_at_call 53; with_reducible (refine (rmade_at (Hid.out (by assumption)) 24 z a b 0 0 hN).mono ?_); rintro e w9 ⟨ao9, cc9, rfl, h9, b9, q9⟩; obtain ⟨c0, c1, r0, r1, f0, f1⟩ := q9))
      all_goals go_wp2
      all_goals first
        | (refine bodyPost_ret (results_box3 rfl _ _ (w.heap.size + 1) _ _ rfl (res_two (s6.out.below b9.out).b1).1 (res_two (s6.out.below b9.out).b1).2) rfl ?_; show RcEnd _ _ _ _ _ _ _; rw [HQ.out]; exact rc_yes s6.out h9 b9)
        | (refine bodyPost_ret (results_box3 rfl _ _ (w.heap.size + 1) _ _ rfl (res_two (s5.out.below b9.out).b1).1 (res_two (s5.out.below b9.out).b1).2) rfl ?_; show RcEnd _ _ _ _ _ _ _; rw [HQ.out]; exact rc_yes s5.out h9 b9)
    · have HQ : Hid (catP N a b = .inl (0, 2)) := hid HP.out
      go_wp2
      refine bodyPost_ret (results_box3 rfl _ _ (w.heap.size + 1) _ _ rfl (res_two hr.out.b1).1 (res_two hr.out.b1).2) rfl ?_
      show RcEnd _ _ _ _ _ _ _
      rw [HQ.out]
      exact rc_no hr.out

end Go.Proofs.YtefielnmlekhaaaDoor
