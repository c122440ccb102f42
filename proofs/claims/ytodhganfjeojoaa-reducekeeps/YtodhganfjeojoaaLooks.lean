/-
  Which of two clauses is better; which is sure to be kept; whether two lists hold the same truths.
-/
import Derived.Test.YtodhganfjeojoaaMem
namespace Go.Proofs.Ytodhganfjeojoaa
open Go.RowKit Go.Sort
set_option linter.unusedVariables false

theorem isNaN_is (x : Int) (w : World) : Calls Try.prog 19 #[.int .i64 x] w fun e w' => e = .returned (.bool false) ∧ w' = w := by
  have hx : (x != x) = false := by simp
  go_enter Try.func19, Try.ntmps19
  go_wp2
  go_ret
  exact ⟨rfl, rfl⟩

theorem compare_is (a b : Int) (w : World) {y : Int} (hy : cmpI a b = y) : Calls Try.prog 15 #[.int .i64 a, .int .i64 b] w fun e w' => e = .returned (.int .i64 y) ∧ w' = w := by
  subst hy
  by_cases h1 : a < b
  · have e1 : cmpI a b = -1 := by unfold cmpI; rw [if_pos h1]
    rw [e1]
    go_enter Try.func15, Try.ntmps15
    go_wp2_with (go_at_call 19; with_reducible (refine (isNaN_is _ _).mono ?_); rintro e w ⟨rfl, rfl⟩)
    go_ret
    exact ⟨rfl, rfl⟩
  · by_cases h2 : b < a
    · have e1 : cmpI a b = 1 := by unfold cmpI; rw [if_neg h1, if_pos h2]
      rw [e1]
      go_enter Try.func15, Try.ntmps15
      go_wp2_with (go_at_call 19; with_reducible (refine (isNaN_is _ _).mono ?_); rintro e w ⟨rfl, rfl⟩)
      go_ret
      exact ⟨rfl, rfl⟩
    · have e1 : cmpI a b = 0 := by unfold cmpI; rw [if_neg h1, if_neg h2]
      rw [e1]
      go_enter Try.func15, Try.ntmps15
      go_wp2_with (go_at_call 19; with_reducible (refine (isNaN_is _ _).mono ?_); rintro e w ⟨rfl, rfl⟩)
      go_ret
      exact ⟨rfl, rfl⟩

theorem orI_nz {a b : Int} (h : a ≠ 0) : orI a b = a := by unfold orI; rw [if_pos h]
theorem orI_z {b : Int} : orI 0 b = b := by unfold orI; rw [if_neg (by simp)]

theorem or2_is (a b : Int) (g : Nat) (w : World) (h0 : w.cell? ⟨g, 0, none⟩ = some (.int .i64 a)) (h1 : w.cell? ⟨g, 1, none⟩ = some (.int .i64 b)) {y : Int} (hy : orI a b = y) :
    Calls Try.prog 14 #[.slice (some ⟨g, 0, none⟩) 2 2] w fun e w' => e = .returned (.int .i64 y) ∧ w' = w := by
  subst hy
  by_cases ha : a = 0
  · subst ha
    rw [orI_z]
    by_cases hb : b = 0
    · subst hb
      go_enter Try.func14, Try.ntmps14
      go_wp2
      refine wp_loop_rounds 3 ?_
      rw [rounds_succ]
      go_wp2
      rw [rounds_succ]
      go_wp2
      rw [rounds_succ]
      go_wp2
      go_ret
      exact ⟨rfl, rfl⟩
    · have hbn : (b != 0) = true := by simpa using hb
      go_enter Try.func14, Try.ntmps14
      go_wp2
      refine wp_loop_rounds 3 ?_
      rw [rounds_succ]
      go_wp2
      rw [rounds_succ]
      go_wp2
      go_ret
      exact ⟨rfl, rfl⟩
  · rw [orI_nz ha]
    have han : (a != 0) = true := by simpa using ha
    go_enter Try.func14, Try.ntmps14
    go_wp2
    refine wp_loop_rounds 3 ?_
    rw [rounds_succ]
    go_wp2
    go_ret
    exact ⟨rfl, rfl⟩

theorem or3_is (a b c : Int) (g : Nat) (w : World) (h0 : w.cell? ⟨g, 0, none⟩ = some (.int .i64 a)) (h1 : w.cell? ⟨g, 1, none⟩ = some (.int .i64 b)) (h2 : w.cell? ⟨g, 2, none⟩ = some (.int .i64 c)) {y : Int} (hy : orI a (orI b c) = y) :
    Calls Try.prog 14 #[.slice (some ⟨g, 0, none⟩) 3 3] w fun e w' => e = .returned (.int .i64 y) ∧ w' = w := by
  subst hy
  by_cases ha : a = 0
  · subst ha
    rw [orI_z]
    by_cases hb : b = 0
    · subst hb
      rw [orI_z]
      by_cases hc : c = 0
      · subst hc
        go_enter Try.func14, Try.ntmps14
        go_wp2
        refine wp_loop_rounds 4 ?_
        rw [rounds_succ]
        go_wp2
        rw [rounds_succ]
        go_wp2
        rw [rounds_succ]
        go_wp2
        rw [rounds_succ]
        go_wp2
        go_ret
        exact ⟨rfl, rfl⟩
      · have hcn : (c != 0) = true := by simpa using hc
        go_enter Try.func14, Try.ntmps14
        go_wp2
        refine wp_loop_rounds 4 ?_
        rw [rounds_succ]
        go_wp2
        rw [rounds_succ]
        go_wp2
        rw [rounds_succ]
        go_wp2
        go_ret
        exact ⟨rfl, rfl⟩
    · rw [orI_nz hb]
      have hbn : (b != 0) = true := by simpa using hb
      go_enter Try.func14, Try.ntmps14
      go_wp2
      refine wp_loop_rounds 4 ?_
      rw [rounds_succ]
      go_wp2
      rw [rounds_succ]
      go_wp2
      go_ret
      exact ⟨rfl, rfl⟩
  · rw [orI_nz ha]
    have han : (a != 0) = true := by simpa using ha
    go_enter Try.func14, Try.ntmps14
    go_wp2
    refine wp_loop_rounds 4 ?_
    rw [rounds_succ]
    go_wp2
    go_ret
    exact ⟨rfl, rfl⟩

theorem two_new (W : World) (a b : Int) : (W.alloc (.cells #[.int .i64 a, .int .i64 b] 3)).cell? ⟨W.heap.size, 0, none⟩ = some (.int .i64 a) ∧ (W.alloc (.cells #[.int .i64 a, .int .i64 b] 3)).cell? ⟨W.heap.size, 1, none⟩ = some (.int .i64 b) := by
  have h := new_same W (.cells #[.int .i64 a, .int .i64 b] 3)
  exact ⟨(cell_of h).trans rfl, (cell_of h).trans rfl⟩
theorem three_new (W : World) (a b c : Int) : (W.alloc (.cells #[.int .i64 a, .int .i64 b, .int .i64 c] 3)).cell? ⟨W.heap.size, 0, none⟩ = some (.int .i64 a) ∧ (W.alloc (.cells #[.int .i64 a, .int .i64 b, .int .i64 c] 3)).cell? ⟨W.heap.size, 1, none⟩ = some (.int .i64 b) ∧ (W.alloc (.cells #[.int .i64 a, .int .i64 b, .int .i64 c] 3)).cell? ⟨W.heap.size, 2, none⟩ = some (.int .i64 c) := by
  have h := new_same W (.cells #[.int .i64 a, .int .i64 b, .int .i64 c] 3)
  exact ⟨(cell_of h).trans rfl, (cell_of h).trans rfl, (cell_of h).trans rfl⟩

theorem size_two (w : World) (o1 o2 : Obj) : ((w.alloc o1).alloc o2).heap.size = w.heap.size + 1 + 1 := by
  show ((w.heap.push o1).push o2).size = _
  rw [Array.size_push, Array.size_push]
theorem or3_here (w : World) (o1 o2 : Obj) {c1 c2 c3 r : Int} (hy : orI c1 (orI c2 c3) = r) :
    Calls Try.prog 14 #[.slice (some ⟨w.heap.size + 1 + 1, 0, none⟩) 3 3] (((w.alloc o1).alloc o2).alloc (.cells #[.int .i64 c1, .int .i64 c2, .int .i64 c3] 3)).drew fun e w' => e = .returned (.int .i64 r) ∧ w' = (((w.alloc o1).alloc o2).alloc (.cells #[.int .i64 c1, .int .i64 c2, .int .i64 c3] 3)).drew := by
  have h := three_new ((w.alloc o1).alloc o2) c1 c2 c3
  rw [size_two] at h
  exact or3_is c1 c2 c3 _ (((w.alloc o1).alloc o2).alloc (.cells #[.int .i64 c1, .int .i64 c2, .int .i64 c3] 3)).drew h.1 h.2.1 h.2.2 hy

set_option maxHeartbeats 2000000 in
theorem cmpD_is (x y : Dd) (w : World) {r : Int} (hr : cmpD x y = r) : Calls Try.prog 11 #[.agg #[.int .i64 x.s, .int .i64 x.g, .int .i64 x.a], .agg #[.int .i64 y.s, .int .i64 y.g, .int .i64 y.a]] w fun e w' => e = .returned (.int .i64 r) ∧ Hid (Gr w w') := by
  obtain ⟨xs, xg, xa⟩ := x
  obtain ⟨ys, yg, ya⟩ := y
  obtain ⟨c1, h1⟩ : ∃ c1, cmpI xg yg = c1 := ⟨_, rfl⟩
  obtain ⟨c2, h2⟩ : ∃ c2, cmpI ya xa = c2 := ⟨_, rfl⟩
  obtain ⟨c3, h3⟩ : ∃ c3, cmpI xs ys = c3 := ⟨_, rfl⟩
  have HO : Hid (orI c1 (orI c2 c3) = r) := hid (by rw [← h1, ← h2, ← h3]; exact hr)
  have H1 := hid h1
  have H2 := hid h2
  have H3 := hid h3
  clear h1 h2 h3 hr
  go_enter Try.func11, Try.ntmps11
  go_upto_region 1 with fail
  go_region_held3 (fun W => W.cell? ⟨w.heap.size, 0, none⟩ = some (.int .i64 xs) ∧ W.cell? ⟨w.heap.size, 1, none⟩ = some (.int .i64 xg) ∧ W.cell? ⟨w.heap.size, 2, none⟩ = some (.int .i64 xa) ∧ W.cell? ⟨w.heap.size + 1, 0, none⟩ = some (.int .i64 ys) ∧ W.cell? ⟨w.heap.size + 1, 1, none⟩ = some (.int .i64 yg) ∧ W.cell? ⟨w.heap.size + 1, 2, none⟩ = some (.int .i64 ya)) (go_keep) (first
    | (go_at_call 15; with_reducible (refine (compare_is _ _ _ H1.out).mono ?_); rintro e w9 ⟨rfl, rfl⟩)
    | (go_at_call 15; with_reducible (refine (compare_is _ _ _ H2.out).mono ?_); rintro e w9 ⟨rfl, rfl⟩)
    | (go_at_call 15; with_reducible (refine (compare_is _ _ _ H3.out).mono ?_); rintro e w9 ⟨rfl, rfl⟩)
    | (go_at_call 14; with_reducible (refine (or3_here w _ _ HO.out).mono ?_); rintro e w9 ⟨rfl, rfl⟩))
  all_goals go_wp2_with fail
  all_goals go_ret
  all_goals exact ⟨rfl, hid ((Gr.alloc _ _).trans ((Gr.alloc _ _).trans ((Gr.alloc _ _).trans (Gr.drew _))))⟩

end Go.Proofs.Ytodhganfjeojoaa
