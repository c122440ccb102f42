/-
  What the chapter itself names, and others: awake.
-/
import Derived.Test.YthdiajdphnjdoaaAs
import Derived.Test.YthdiajdphnjdoaaRu
import Derived.Handy
import Derived.Deep.CutRange
namespace Go.Proofs.Ythdiajdphnjdoaa
open Go.RowKit
set_option linter.unusedVariables false

set_option maxHeartbeats 4000000 in
/-- A gate of its own: one variable more. -/
theorem and_new {B : BT} {gb n : Nat} {cs : List (List Int)} {val : Nat → Bool} {is : List Int} (w : World) (g : Good n cs val is) (h : Gt B gb w n cs) (hn : n ≤ 10000) (a b : Int) (ha : rng n a) (hb : rng n b)
    (q1 : (a == 1) = false) (q2 : (b == 1) = false) (nb' : Int) (hnb : nb' = notF b) (q3 : (a == nb') = false) (q4 : (a == 0) = false) (q5 : (a == b) = false) (q6 : (b == 0) = false) :
    Calls Try.prog 17 #[.pointer (some ⟨gb, 0, none⟩), .int .i64 a, .int .i64 b] w fun e w' => ∃ y, e = .returned (.int .i64 y) ∧ Hid (∃ cs' val', More n cs val is (n + 1) cs' val' ∧ Gt B gb w' (n + 1) cs' ∧ rng (n + 1) y ∧ hd val' y = (hd val a && hd val b) ∧ FG B w w') := by
  have RA := hid ha
  have RB := hid hb
  have HG := hid g
  have G := hid h
  have HP := hid h.vq
  have HN := hid hn
  have HH := hid (have_yes (n := n) (xs := [a, b]) (by simp [ha, hb]))
  obtain ⟨a0, a1⟩ := rng_fit ha hn
  obtain ⟨b0, b1⟩ := rng_fit hb hn
  have na := hid (rng_fit (rng_not ha) hn)
  have nb := hid (rng_fit (rng_not hb) hn)
  have HNB := hid hnb
  clear ha hb g h hn hnb
  have HL : Hid (cs.length ≤ 60000) := hid (by have := HG.out.len; have := HN.out; omega)
  have HF := hid (FG.refl (B := B) w)
  go_enter Try.func17, Try.ntmps17
  go_wp2_with (first
    | (go_at_call 26; with_reducible (refine (have_two _ _ n HP.out HN.out a b ⟨a0, a1⟩ ⟨b0, b1⟩).mono ?_); rintro e w1 ⟨rfl, hb1⟩; rw [HH.out])
    | (go_at_call 23; with_reducible (refine (output_any _ (G.out.below hb3) HN.out).mono ?_); rintro e w3 ⟨cb, y, rfl, hy, y0, y1, G, X, F⟩; have F := hid ((FG.below hb3).trans F.out); have ny := hid (fit_not (show -9223372036854775808 ≤ y by omega) y1))
    | (go_at_call 31; with_reducible (refine (add_two _ G.out X.out (Nat.le_trans HL.out (by omega)) y a b ⟨by omega, y1⟩ ⟨a0, a1⟩ ⟨b0, b1⟩).mono ?_); rintro e w4 ⟨rfl, G, X, F2⟩; have F := hid (F.out.trans F2.out); clear F2)
    | (go_at_call 25; with_reducible (refine (not_any _ _ (by assumption)).mono ?_); rintro e w2 ⟨rfl, hb2⟩; first | (rw [← HNB.out]; have hb3 := Below.next hb1.out hb2) | (have G := hid (G.out.below hb2); have X := hid (X.out.below hb2); have F := hid (F.out.trans (FG.below hb2))))
    | (go_at_call 31; with_reducible (refine (add_one _ G.out X.out (by have := HL.out; simp only [len_one]; omega) _ _ ny.out (by first | exact na.out | exact nb.out)).mono ?_); rintro e w4 ⟨rfl, G, X, F2⟩; have F := hid (F.out.trans F2.out); clear F2))
  go_ret
  refine ⟨_, rfl, hid ⟨_, _, HG.out.and RA.out RB.out, ?_, by rw [hy.out]; exact y_rng n, by rw [hy.out]; exact hd_new _ _ _, F.out⟩⟩
  rw [← and_list n cs y a b hy.out]
  exact G.out

theorem input_gt {B : BT} {gb n : Nat} {cs : List (List Int)} (w : World) (h : Gt B gb w n cs) (hn : n ≤ 10000) (y : Int) (hy : y = 2 * (n : Int)) :
    Calls Try.prog 10 #[.pointer (some ⟨gb, 0, none⟩)] w fun e w' => e = .returned (.int .i64 y) ∧ Hid (Gt B gb w' (n + 1) cs) ∧ Hid (FG B w w') := by
  obtain ⟨v, c0, c1, f0, f1, ho⟩ := h.cells
  refine (input_any gb n w c0 f0 (by omega)).mono ?_
  rintro e w' ⟨rfl, rfl⟩
  exact ⟨by rw [hy], hid h.var.1, hid h.var.2⟩

theorem vars_gt {B : BT} {gb n : Nat} {cs : List (List Int)} (w : World) (h : Gt B gb w n cs) : Calls Try.prog 15 #[.pointer (some ⟨gb, 0, none⟩)] w fun e w' => e = .returned (.int .i64 n) ∧ w' = w := by
  obtain ⟨v, c0, c1, f0, f1, ho⟩ := h.cells
  exact vars_any gb n w c0

theorem knF_full {n : Nat} {x : Int} (h : rng n x) : knF n (fun _ => true) x = true := by simp [knF, okF_rng.2 h]
theorem isF_full {n : Nat} {val : Nat → Bool} {x : Int} (h : rng n x) : isF n (fun _ => true) val x = hd val x := is_hd h (fun _ _ _ => rfl) rfl

theorem holds_full {w : World} {kb ib n : Nat} {val : Nat → Bool} (hv : Vs w kb ib n (fun _ => true) val) (hn : n ≤ 10000) {x : Int} (hx : rng n x) {b : Bool} (hb : hd val x = b) :
    Calls Try.prog 22 #[.agg #[.slice (some ⟨kb, 0, none⟩) n n, .slice (some ⟨ib, 0, none⟩) n n], .int .i64 x] w fun e w' => e = .returned (.tuple #[.bool b, .bool true]) ∧ Hid (Below w.heap.size w w') := by
  refine (holds_any w kb ib n _ _ hv hn x (rng_fit hx hn).2).mono ?_
  rintro e w' ⟨rfl, h⟩
  exact ⟨by rw [isF_full hx, knF_full hx, hb], h⟩

/-- The truths of the chapter's own words: the first input holds, the second does not. -/
def vA : Nat → Bool := upV (upV (fun _ => true) 1 true) 2 false
theorem e1 {cs cs' : List (List Int)} {v4 v6 : Nat → Bool} {is : List Int} (h : ∀ i, i < 3 + 1 → v6 i = v4 i) (m : More 3 cs vA is (3 + 1) cs' v4) : v6 1 = true := by rw [h 1 (by omega), m.agree 1 (by omega)]; rfl
theorem e2 {cs cs' : List (List Int)} {v4 v6 : Nat → Bool} {is : List Int} (h : ∀ i, i < 3 + 1 → v6 i = v4 i) (m : More 3 cs vA is (3 + 1) cs' v4) : v6 2 = false := by rw [h 2 (by omega), m.agree 2 (by omega)]; rfl
theorem e3 {cs cs' : List (List Int)} {v4 : Nat → Bool} {is : List Int} (m : More 3 cs vA is (3 + 1) cs' v4) : (hd v4 2 && hd v4 0) = true := by
  rw [hd_agree (n := 3) m.agree (by unfold rng; omega), hd_agree (n := 3) m.agree (by unfold rng; omega)]; decide
theorem good_a : Good 3 [[0]] vA [2, 4] := by
  have := (Good.start.input true).input false
  exact this

theorem run_two {n : Nat} {cs : List (List Int)} {val : Nat → Bool} (w : World) (g : Good n cs val [2, 4]) (hn : n ≤ 10000) (go_ : Option Addr) (k : Nat) (hk : k = cs.length) (hg : Grid (w.alloc (.cells #[.int .i64 2, .int .i64 5] 3)) go_ k k cs) (h1 : val 1 = true) (h2 : val 2 = false) (h3 : 3 ≤ n) :
    Calls Try.prog 21 #[.int .i64 n, .slice (some ⟨w.heap.size, 0, none⟩) 2 2, .slice go_ k k] (w.alloc (.cells #[.int .i64 2, .int .i64 5] 3)) fun e w' => ∃ kb ib, e = .returned (.tuple #[.agg #[.slice (some ⟨kb, 0, none⟩) n n, .slice (some ⟨ib, 0, none⟩) n n], .bool true]) ∧ Hid (Vs w' kb ib n (fun _ => true) val) ∧ Hid (Below w.heap.size w w') := by
  have b1 : Below w.heap.size w (w.alloc (.cells #[.int .i64 2, .int .i64 5] 3)) := (Below.refl _ _).alloc (Nat.le_refl _) _
  refine (run_any _ n hn _ 2 2 [2, 5] (row_two w 2 5 (by omega) (by omega)) go_ k k cs hg val [2, 4] g ?_ ?_).mono ?_
  · intro h hh
    simp only [List.mem_cons, List.not_mem_nil, or_false] at hh
    rcases hh with rfl | rfl
    · exact ⟨by unfold rng; omega, by simp [hd, h1]⟩
    · exact ⟨by unfold rng; omega, by simp [hd, h2]⟩
  · intro x hx
    simp only [List.mem_cons, List.not_mem_nil, or_false] at hx
    rcases hx with rfl | rfl
    · exact ⟨2, by simp, rfl⟩
    · exact ⟨5, by simp, by decide⟩
  · rintro e w' ⟨kb, ib, he, hv, hb⟩
    exact ⟨kb, ib, he, hv, hid (Below.next b1 hb.out)⟩

theorem GEnd.get {B : BT} {gb n : Nat} {cs : List (List Int)} {val : Nat → Bool} {is : List Int} {r : Bool} {w w' : World} {y : Int} (h : GEnd B gb n cs val is r w w' y) :
    ∃ (n' : Nat) (cs' : List (List Int)) (val' : Nat → Bool), n ≤ n' ∧ n' ≤ n + 1 ∧ Hid (Good n' cs' val' is) ∧ Hid (∀ i, i < n → val' i = val i) ∧ Hid (Gt B gb w' n' cs') ∧ Hid (rng n' y) ∧ Hid (hd val' y = r) ∧ Hid (FG B w w') := by
  obtain ⟨n', cs', val', h1, h2, h3, h4, h5⟩ := h
  exact ⟨n', cs', val', h1.lo, h1.hi, h1.good, h1.agree, h2, h3, h4, h5⟩

theorem clauses_gt {B : BT} {gb n : Nat} {cs : List (List Int)} {val : Nat → Bool} {is : List Int} (w : World) (h : Gt B gb w n cs) (g : Good n cs val is) (hn : n ≤ 10000) :
    Calls Try.prog 16 #[.pointer (some ⟨gb, 0, none⟩)] w fun e w' => ∃ ao k, e = .returned (.slice ao k k) ∧ Hid (k = cs.length) ∧ Hid (Grid w ao k k cs) ∧ w' = w :=
  clauses_any w h g.ne (by have := g.len; omega)

set_option maxHeartbeats 4000000 in
theorem awake_any (w : World) : Calls Try.prog 6 #[] w fun e w' => e = .returned (.bool true) ∧ Hid (Below w.heap.size w w') := by
  have GA := hid good_a
  have ha : Hid ((hd vA 2 && hd vA 4) = false) := hid (by decide)
  have hx5 : bits .xor .i64 4 1 = 5 := by decide +kernel
  go_enter Try.func6, Try.ntmps6
  go_upto_region 11 with (first
    | (go_at_call 7; with_reducible (refine (new_any _).mono ?_); rintro e w1 ⟨gb, rfl, G, F⟩)
    | (go_at_call 10; with_reducible (refine (input_gt _ G.out (by omega) 2 (by omega)).mono ?_); rintro e w2 ⟨rfl, G, F2⟩; have F := hid (F.out.trans F2.out); clear F2)
    | (go_at_call 10; with_reducible (refine (input_gt _ G.out (by omega) 4 (by omega)).mono ?_); rintro e w3 ⟨rfl, G, F2⟩; have F := hid (F.out.trans F2.out); clear F2)
    | (go_at_call 17; with_reducible (refine (and_new _ GA.out G.out (by omega) 2 4 (by unfold rng; omega) (by unfold rng; omega) (by decide) (by decide) 5 (by decide) (by decide) (by decide) (by decide) (by decide)).mono ?_); rintro e w4 ⟨y, rfl, hend⟩; obtain ⟨cs4, v4, M4, G, RY, HY, F2⟩ := hend.out; have G := hid G; have RY := hid RY; have HY := hid HY; have M4 := hid M4; have F := hid (F.out.trans F2); clear F2 hend)
    | (go_at_call 9; with_reducible (refine (true_any gb _).mono ?_); rintro e w5 ⟨rfl, rfl⟩)
    | (go_at_call 17; with_reducible (refine (and_any _ M4.out.good G.out (by omega) 2 0 (by unfold rng; omega) (by unfold rng; omega)).mono ?_); rintro e w6 ⟨z, rfl, hend⟩; obtain ⟨n6, cs6, v6, lo6, hi6, g6, ag6, G, RZ, HZ, F2⟩ := hend.out.get; have F := hid (F.out.trans F2.out); clear F2 hend; have n64 : ¬ (n6 : Int) < 4 := (by omega))
    | (go_at_call 15; with_reducible (refine (vars_gt _ G.out).mono ?_); rintro e w7 ⟨rfl, rfl⟩)
    | (go_at_call 16; with_reducible (refine (clauses_gt _ (G.out.below ((Below.refl _ _).alloc (Nat.le_refl _) _)) g6.out (by omega)).mono ?_); rintro e w8 ⟨ao, k, rfl, hk, hg, rfl⟩)
    | (go_at_call 21; with_reducible (refine (run_two _ g6.out (by omega) ao k hk.out hg.out (e1 ag6.out M4.out) (e2 ag6.out M4.out) (by omega)).mono ?_); rintro e w9 ⟨kb, ib, rfl, hv, hb⟩; have F := hid (F.out.trans (FG.below hb.out)); have G := hid (G.out.below hb.out)))
  have hn6 : n6 ≤ 10000 := by omega
  have bb : Below w9.heap.size w9 (w9.alloc (.cells #[.slice (some ⟨kb, 0, none⟩) n6 n6, .slice (some ⟨ib, 0, none⟩) n6 n6] 45)) := (Below.refl _ _).alloc (Nat.le_refl _) _
  obtain ⟨d0, d1⟩ := box_cells w9 (.slice (some ⟨kb, 0, none⟩) n6 n6) (.slice (some ⟨ib, 0, none⟩) n6 n6)
  have HV := hid (hv.out.keep bb)
  have G := hid (G.out.below bb)
  have F := hid (F.out.trans (FG.below bb))
  have RY6 : Hid (rng n6 y) := hid (rng_more RY.out (by omega))
  have HY6 : Hid (hd v6 y = false) := hid (by rw [hd_agree ag6.out RY.out, HY.out, ha.out])
  have HZ6 : Hid (hd v6 z = true) := hid (by rw [HZ.out]; exact e3 M4.out)
  have R06 : Hid (rng n6 0) := hid (by unfold rng; omega)
  have H06 : Hid (hd v6 0 = true) := hid (hd_zero g6.out)
  have A1 := hid (have_no (n := n6) (xs := [-1, 2]) (x := -1) (by simp) (by unfold rng; omega))
  have A2 := hid (have_no (n := n6) (xs := [notF 2, notF (2 * (n6 : Int))]) (x := notF (2 * (n6 : Int))) (by simp) (nrng_not (by unfold rng; omega)))
  have A3 := hid (have_no (n := n6) (xs := [2, 4, -2]) (x := -2) (by simp) (by unfold rng; omega))
  generalize (w9.alloc (.cells #[.slice (some ⟨kb, 0, none⟩) n6 n6, .slice (some ⟨ib, 0, none⟩) n6 n6] 45)) = wz at d0 d1 HV G F ⊢
  generalize w9.heap.size = vb at d0 d1 ⊢
  clear bb hb hv
  go_wp2_with (first
    | (go_at_call 22; with_reducible (refine (holds_full HV.out hn6 RY6.out HY6.out).mono ?_); rintro e wx ⟨rfl, hb⟩; have d0 := (hb.out.cell (cell_lt d0)).trans d0; have d1 := (hb.out.cell (cell_lt d1)).trans d1; have HV := hid (HV.out.keep hb.out); have G := hid (G.out.below hb.out); have F := hid (F.out.trans (FG.below hb.out)))
    | (go_at_call 22; with_reducible (refine (holds_full HV.out hn6 RZ.out HZ6.out).mono ?_); rintro e wu ⟨rfl, hb⟩; have d0 := (hb.out.cell (cell_lt d0)).trans d0; have d1 := (hb.out.cell (cell_lt d1)).trans d1; have HV := hid (HV.out.keep hb.out); have G := hid (G.out.below hb.out); have F := hid (F.out.trans (FG.below hb.out))))
  haveI : Inhabited (BW wu) := ⟨⟨wu, Below.refl _ _⟩⟩
  have X0 := BW.cell d0
  have X1 := BW.cell d1
  refine wp_region_below (by kernel_rfl) (by kernel_rfl) ?_
  repeat (go_big_quiet_step (first
    | (go_at_call 9; exact bw_same (true_any gb _))
    | (go_at_call 22; exact bw_of (holds_full (HV.out.keep (BW.be _)) hn6 R06.out H06.out))
    | fail))
  refine wpQuiet_nil ?_
  intro _ hw
  obtain ⟨p, hw2⟩ := hw
  subst hw2
  have G := hid (G.out.below p.be)
  have F := hid (F.out.trans (FG.below p.be))
  clear d0 d1 X0 X1
  go_wp2_with (first
    | (go_at_call 17; with_reducible (refine (and_bad _ _ n6 G.out.vq hn6 (-1) 2 ⟨by omega, by omega⟩ ⟨by omega, by omega⟩ A1.out).mono ?_); rintro e wx ⟨rfl, hb⟩; have G := hid (G.out.below hb.out); have F := hid (F.out.trans (FG.below hb.out)))
    | (go_at_call 18; with_reducible (refine (or_bad _ _ n6 G.out.vq hn6 2 (2 * (n6 : Int)) ⟨by omega, by omega⟩ ⟨by omega, by omega⟩ A2.out).mono ?_); rintro e wx ⟨rfl, hb⟩; have G := hid (G.out.below hb.out); have F := hid (F.out.trans (FG.below hb.out)))
    | (go_at_call 19; with_reducible (refine (ite_bad _ _ n6 G.out.vq hn6 2 4 (-2) ⟨by omega, by omega⟩ ⟨by omega, by omega⟩ ⟨by omega, by omega⟩ A3.out).mono ?_); rintro e wx ⟨rfl, hb⟩; have G := hid (G.out.below hb.out); have F := hid (F.out.trans (FG.below hb.out))))
  go_ret
  exact ⟨rfl, hid (F.out.be rfl (Below.refl _ _))⟩

end Go.Proofs.Ythdiajdphnjdoaa
