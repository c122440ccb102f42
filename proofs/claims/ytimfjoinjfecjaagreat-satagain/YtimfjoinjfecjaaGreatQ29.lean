/-
  Which of two literals comes first in what is learned.
  reasons: the clauses that played a part.
-/
import Derived.Test.YtimfjoinjfecjaaGreatQ18
import Derived.Test.YtimfjoinjfecjaaGreatQ28
import Derived.Test.YtimfjoinjfecjaaGreatQ26
import Derived.Test.YtimfjoinjfecjaaGreatQ06
import Derived.Test.YtimfjoinjfecjaaGreatQ27

namespace Go.Proofs.YtimfjoinjfecjaaGreat
open Go.RowKit Go.Sort
set_option linter.unusedVariables false

/-- So many draws, and blocks more behind all. -/
def Gr (w w' : World) : Prop := ∃ q os, w' = grow (w.drewN q) os

theorem Gr.refl (w : World) : Gr w w := ⟨0, #[], by rw [grow_empty]; rfl⟩
theorem Gr.trans {a b c : World} (h : Gr a b) (k : Gr b c) : Gr a c := by
  obtain ⟨q, os, rfl⟩ := h
  obtain ⟨q', os', rfl⟩ := k
  refine ⟨q + q', os ++ os', ?_⟩
  show grow (grow ((a.drewN q).drewN q') os) os' = _
  rw [grow_grow, World.drewN_drewN]
theorem Gr.alloc (w : World) (o : Obj) : Gr w (w.alloc o) := ⟨0, #[o], by rw [alloc_eq_grow]; rfl⟩
theorem Gr.drew (w : World) : Gr w w.drew := ⟨1, #[], by rw [grow_empty]; rfl⟩
theorem Gr.below {w w' : World} (h : Gr w w') : Below w.heap.size w w' := by
  obtain ⟨q, os, rfl⟩ := h
  exact ⟨rfl, rfl, rfl, by rw [size_grow]; exact Nat.le_add_right _ _, fun j hj => heap_grow_old (w.drewN q) os hj⟩

theorem split_gr (l : Int) (h : ¬ l < 0) (hu : l ≤ 9223372036854775807) (w : World) : Calls Tryz.prog 41 #[.int .i64 l] w fun e w' => e = .returned (.agg #[.int .i64 (l / 2), .bool (l % 2 == 1)]) ∧ Gr w w' := by
  go_enter Tryz.func41, Tryz.ntmps41
  go_wp2
  go_returns
  exact ⟨rfl, Gr.alloc _ _⟩

theorem var_gr (m u : Nat) (hm : m / 2 = u) (hu : (m : Int) ≤ 9223372036854775807) (w : World) : Calls Tryz.prog 24 #[.int .i64 m] w fun e w' => e = .returned (.int .i64 u) ∧ Hid (Gr w w') := by
  have HE : Hid ((m : Int) / 2 = u) := hid (by omega)
  have f0 := field0
  have h0 : ¬ ((m : Int) < 0) := by omega
  clear hm
  go_enter Tryz.func24, Tryz.ntmps24
  go_wp2_with (go_at_call 41; refine (split_gr _ h0 hu _).mono ?_; rintro e w' ⟨rfl, hb⟩)
  go_returns
  exact ⟨by rw [HE.out]; rfl, hb⟩

/-- Where the way's block and the trail stand. -/
structure Lv (k : SK) (kt : K) (L : List E) (lev : Nat) (p : V) (w : World) : Prop where
  c0 : w.cell? ⟨k.SB, 0, none⟩ = some (.pointer (some ⟨kt.OB, 0, none⟩))
  t : Trl kt w L lev p

theorem Lv.below {k : SK} {kt : K} {L : List E} {lev : Nat} {p : V} {w w' : World} (h : Lv k kt L lev p w) (b : Below w.heap.size w w') : Lv k kt L lev p w' := ⟨(b.cell (cell_lt h.c0)).trans h.c0, h.t.below b⟩

section
variable {k : SK} {w0 w w1 w' : World} {kt : K} {L : List E} {lev : Nat} {p : V} {cls : List (List Int)} {s s' : PS} {v v' : SV} {n : Nat}

theorem Cm.lvl (c : Cm k w0 kt L lev p cls) (h : Rn k w0 n w s v) : Lv k kt L lev p w := ⟨(c.cell h).1, c.trl h⟩

theorem levelOf_is (h : Lv k kt L lev p w) (m : Nat) (hx : (m : Int) ≤ 9223372036854775807) {y : Int} (hy : levelF L ((m / 2 : Nat) : Int) = y) :
    Calls Tryz.prog 125 #[.pointer (some ⟨k.SB, 0, none⟩), .int .i64 m] w fun e w' => e = .returned (.int .i64 y) ∧ Hid (Gr w w') := by
  obtain ⟨u, hu⟩ : ∃ u, m / 2 = u := ⟨_, rfl⟩
  rw [hu] at hy
  have HU := hid hu
  have HY := hid hy
  have HL := hid (h.below (below_drew w))
  have c0 := h.c0
  clear h hu hy
  go_enter Tryz.func125, Tryz.ntmps125
  go_upto_region 1 with fail
  go_region_with (first
    | (go_at_call 24; with_reducible (refine (var_gr _ _ HU.out hx _).mono ?_); rintro e w2 ⟨rfl, b2⟩; have L2 := hid (HL.out.below b2.out.below); have c02 := L2.out.c0)
    | (go_at_call 88; with_reducible (refine (level_is L2.out.t _ HY.out).mono ?_); rintro e w2 ⟨rfl, rfl⟩))
  all_goals go_wp2_with fail
  all_goals go_ret
  all_goals exact ⟨rfl, (Gr.drew w).trans b2.out⟩

def cmpI (a b : Int) : Int := if a < b then -1 else if b < a then 1 else 0

theorem isNaN_is (x : Int) (w : World) : Calls Tryz.prog 144 #[.int .i64 x] w fun e w' => e = .returned (.bool false) ∧ w' = w := by
  have hx : (x != x) = false := by simp
  go_enter Tryz.func144, Tryz.ntmps144
  go_wp2
  go_ret
  exact ⟨rfl, rfl⟩

theorem compare_is (a b : Int) (w : World) {y : Int} (hy : cmpI a b = y) : Calls Tryz.prog 124 #[.int .i64 a, .int .i64 b] w fun e w' => e = .returned (.int .i64 y) ∧ w' = w := by
  subst hy
  by_cases h1 : a < b
  · have e1 : cmpI a b = -1 := by unfold cmpI; rw [if_pos h1]
    rw [e1]
    go_enter Tryz.func124, Tryz.ntmps124
    go_wp2_with (go_at_call 144; with_reducible (refine (isNaN_is _ _).mono ?_); rintro e w ⟨rfl, rfl⟩)
    go_ret
    exact ⟨rfl, rfl⟩
  · by_cases h2 : b < a
    · have e1 : cmpI a b = 1 := by unfold cmpI; rw [if_neg h1, if_pos h2]
      rw [e1]
      go_enter Tryz.func124, Tryz.ntmps124
      go_wp2_with (go_at_call 144; with_reducible (refine (isNaN_is _ _).mono ?_); rintro e w ⟨rfl, rfl⟩)
      go_ret
      exact ⟨rfl, rfl⟩
    · have e1 : cmpI a b = 0 := by unfold cmpI; rw [if_neg h1, if_neg h2]
      rw [e1]
      go_enter Tryz.func124, Tryz.ntmps124
      go_wp2_with (go_at_call 144; with_reducible (refine (isNaN_is _ _).mono ?_); rintro e w ⟨rfl, rfl⟩)
      go_ret
      exact ⟨rfl, rfl⟩

def orI (a b : Int) : Int := if a ≠ 0 then a else b

theorem or_is (a b : Int) (g : Nat) (w : World) (h0 : w.cell? ⟨g, 0, none⟩ = some (.int .i64 a)) (h1 : w.cell? ⟨g, 1, none⟩ = some (.int .i64 b)) {y : Int} (hy : orI a b = y) :
    Calls Tryz.prog 123 #[.slice (some ⟨g, 0, none⟩) 2 2] w fun e w' => e = .returned (.int .i64 y) ∧ w' = w := by
  subst hy
  by_cases ha : a = 0
  · have e1 : orI a b = b := by unfold orI; rw [if_neg (by simpa using ha)]
    rw [e1]
    subst ha
    by_cases hb : b = 0
    · subst hb
      go_enter Tryz.func123, Tryz.ntmps123
      go_wp2
      refine wp_loop_rounds 3 ?_
      rw [rounds_succ]
      go_wp2
      rw [rounds_succ]
      go_wp2
      rw [rounds_succ]
      go_wp2
      go_ret
      exact ⟨rfl, rfl⟩
    · have hbn : (b != 0) = true := by simpa using hb
      go_enter Tryz.func123, Tryz.ntmps123
      go_wp2
      refine wp_loop_rounds 3 ?_
      rw [rounds_succ]
      go_wp2
      rw [rounds_succ]
      go_wp2
      go_ret
      exact ⟨rfl, rfl⟩
  · have e1 : orI a b = a := by unfold orI; rw [if_pos ha]
    rw [e1]
    have han : (a != 0) = true := by simpa using ha
    go_enter Tryz.func123, Tryz.ntmps123
    go_wp2
    refine wp_loop_rounds 3 ?_
    rw [rounds_succ]
    go_wp2
    go_ret
    exact ⟨rfl, rfl⟩
end

end Go.Proofs.YtimfjoinjfecjaaGreat

namespace Go.Proofs.YtimfjoinjfecjaaGreat
open Go.RowKit Go.Maps
set_option linter.unusedVariables false

def rsnF (L : List E) (lev : Nat) (failed : Int) (met : List Int) : List Int := failed :: (met.filter (fun v => decide (levelF L v = lev))).map (reasonF L)
theorem rsn_yes {L : List E} {lev : Nat} {failed : Int} {met : List Int} {q : Nat} {y : Int} (h : met[q]? = some y) (hl : levelF L y = lev) : rsnF L lev failed (met.take (q + 1)) = rsnF L lev failed (met.take q) ++ [reasonF L y] := by
  unfold rsnF; rw [List.take_add_one, h]; simp [List.filter_append, hl]
theorem rsn_no {L : List E} {lev : Nat} {failed : Int} {met : List Int} {q : Nat} {y : Int} (h : met[q]? = some y) (hl : ¬ levelF L y = lev) : rsnF L lev failed (met.take (q + 1)) = rsnF L lev failed (met.take q) := by
  unfold rsnF; rw [List.take_add_one, h]; simp [List.filter_append, hl]
theorem rsn_len (L : List E) (lev : Nat) (failed : Int) (met : List Int) : (rsnF L lev failed met).length ≤ met.length + 1 := by
  unfold rsnF; simp only [List.length_cons, List.length_map]; have := List.length_filter_le (fun v => decide (levelF L v = lev)) met; omega

section
variable {c : SC} {w0 w w' : World} {g g' : G} {s s' : SS} {m m' : MV}

theorem one_own (w : World) (x : Int) : OwnL (w.alloc (.cells #[.int .i64 x] 3)) w.heap.size (.slice (some ⟨w.heap.size, 0, none⟩) 1 1) [x] :=
  ⟨rfl, .inr ⟨w.heap.size, 1, #[.int .i64 x], rfl, Nat.le_refl _, new_same w _, Nat.le_refl _, by unfold maxLen; omega, rfl, rfl⟩⟩

set_option maxHeartbeats 4000000 in
theorem reasons_is (h : Sm c w0 g s m w) {ao : Option Addr} {n cap : Nat} {xs : List Int} (row : GVt w0 w m.ow [.slice ao n cap] [xs]) (failed : Int) (hn : n ≤ 100000) :
    Calls Tryz.prog 54 #[.pointer (some ⟨c.SB, 0, none⟩), .int .i64 failed, .slice ao n cap] w fun e w' => ∃ b k p, e = .returned (.slice (some ⟨b, 0, none⟩) k p) ∧ Hid (OwnL w' w.heap.size (.slice (some ⟨b, 0, none⟩) k p) (rsnF s.L s.lev failed xs)) ∧ Hid (Below w.heap.size w w') := by
  obtain ⟨lev, hlev⟩ : ∃ lev, s.lev = lev := ⟨_, rfl⟩
  have c0 := h.c0
  have H := hid h
  have R := hid row.one
  rw [hlev]
  have HL := hid hlev
  clear h row hlev
  have b1 : Below w.heap.size w (w.alloc (.cells #[.int .i64 failed] 3)) := by go_grown
  have O1 := hid (one_own w failed)
  go_enter Tryz.func54, Tryz.ntmps54
  go_wp2
  generalize hw1 : w.alloc (.cells #[.int .i64 failed] 3) = w1 at *
  have B1 := hid b1
  clear hw1 b1
  go_loopw [7, 14] (fun v i wr => ∃ (q b k p : Nat), q ≤ n ∧ i = .int .i64 q ∧ v = .slice (some ⟨b, 0, none⟩) k p ∧ Hid (OwnL wr w.heap.size (.slice (some ⟨b, 0, none⟩) k p) (rsnF s.L lev failed (xs.take q))) ∧ Hid (Below w.heap.size w wr)) (fun _ i _ => n - (intOf i).toNat)
  case atStart => exact ⟨0, _, 1, 1, Nat.zero_le _, rfl, rfl, O1, B1⟩
  case round =>
    clear O1 B1
    obtain ⟨q, b, k, p, hq, rfl, rfl, o1, bw⟩ := hrel
    by_cases hlt : q < n
    · have hlt' : (q : Int) < n := by omega
      obtain ⟨rb, off, y, rfl, hc, hy, y0, y1⟩ := (R.out.keep bw.out).at hlt
      have d0 := bl_cell bw.out c0
      obtain ⟨z, hz⟩ : ∃ z, levelF s.L y = z := ⟨_, rfl⟩
      have HZ := hid hz
      have T1 := hid (H.out.W.j.t.below (bw.out.trans ((below_drew wr).mono bw.out.size)))
      by_cases hl : z = lev
      · have hb : (z == (lev : Int)) = true := by simpa using hl
        have hk := hid (own_row o1.out).1
        obtain ⟨r, hr⟩ : ∃ r, reasonF s.L y = r := ⟨_, rfl⟩
        have HR := hid hr
        have hB : w.heap.size ≤ wr.drew.heap.size := bw.out.size
        obtain ⟨v7, w7, r7, o7, g7, n7⟩ := run_num (w1 := wr.drew) (w := (wr.drew.alloc (.cells #[.int .i64 r] 3))) 0 r (by go_grown) w.heap.size (.slice (some ⟨b, 0, none⟩) k p) (rsnF s.L lev failed (xs.take q)) (OwnL.same o1.out (fun _ _ => rfl)) wr.drew.heap.size (cell_of (o := 0) (new_same wr.drew _)) (by have := rsn_len s.L lev failed (xs.take q); rw [List.length_take] at this; omega) hB
        obtain ⟨b7, p7, rfl⟩ := own_posL o7
        have R7 : Hid (∀ ty, (Builtin.append_ #[42, 42] ty #[.slice (some ⟨b, 0, none⟩) k p, .slice (some ⟨wr.drew.heap.size, 0, none⟩) 1 1]).run Tryz.prog (wr.drew.alloc (.cells #[.int .i64 r] 3)) = .ok (.slice (some ⟨b7, 0, none⟩) ((rsnF s.L lev failed (xs.take q)).length + 1) p7) w7) := hid (fun ty => r7)
        have O7 : Hid (OwnL w7 w.heap.size (.slice (some ⟨b7, 0, none⟩) ((rsnF s.L lev failed (xs.take q)).length + 1) p7) (rsnF s.L lev failed (xs.take (q + 1)))) := hid (by rw [rsn_yes hy.out (by rw [hz]; exact hl), hr]; exact o7)
        have B7 : Hid (Below w.heap.size w w7) := hid ((bw.out.trans ((below_drew wr).mono bw.out.size)).trans (below_grown (w := wr.drew) g7 (fun j hj => (own_lt o1.out hj).1) bw.out.size))
        clear o7 g7 n7 r7 hr hz o1
        go_wp2
        go_region_with (first
          | (go_at_call 88; with_reducible (refine (level_is T1.out y HZ.out).mono ?_); rintro e w5 ⟨rfl, rfl⟩)
          | (go_at_call 32; with_reducible (refine (levels_is T1.out).mono ?_); rw [HL.out]; rintro e w5 ⟨rfl, rfl⟩))
        all_goals go_wp2_with (first
          | (go_at_call 89; with_reducible (refine (reason_is T1.out y HR.out).mono ?_); rintro e w6 ⟨rfl, rfl⟩)
          | (at_builtin; refine list_of (t := 42) (v := .slice (some ⟨b, 0, none⟩) k p) (u := .slice (some ⟨wr.drew.heap.size, 0, none⟩) 1 1) rfl _ _ rfl rfl rfl (R7.out _) ?_))
        all_goals go_roundw
        all_goals first
          | exact ⟨q + 1, b7, _, p7, by omega, by go_num, rfl, O7, B7⟩
          | (simp only [intOf]; omega)
      · have hb : (z == (lev : Int)) = false := by simpa using hl
        have O2 : Hid (OwnL wr.drew w.heap.size (.slice (some ⟨b, 0, none⟩) k p) (rsnF s.L lev failed (xs.take (q + 1)))) := hid (by rw [rsn_no hy.out (by rw [hz]; exact hl)]; exact OwnL.same o1.out (fun _ _ => rfl))
        have B2 : Hid (Below w.heap.size w wr.drew) := hid (bw.out.trans ((below_drew wr).mono bw.out.size))
        clear hz o1 hl
        go_wp2
        go_region_with (first
          | (go_at_call 88; with_reducible (refine (level_is T1.out y HZ.out).mono ?_); rintro e w5 ⟨rfl, rfl⟩)
          | (go_at_call 32; with_reducible (refine (levels_is T1.out).mono ?_); rw [HL.out]; rintro e w5 ⟨rfl, rfl⟩))
        all_goals go_wp2
        all_goals go_roundw
        all_goals first
          | exact ⟨q + 1, b, k, p, by omega, by go_num, rfl, O2, B2⟩
          | (simp only [intOf]; omega)
    · have HT : Hid (xs.take q = xs) := hid (List.take_of_length_le (by have := R.out.1; omega))
      have O2 : Hid (OwnL wr w.heap.size (.slice (some ⟨b, 0, none⟩) k p) (rsnF s.L lev failed xs)) := hid (by have := o1.out; rw [HT.out] at this; exact this)
      clear o1 HT
      go_wp2
      go_ret
      exact ⟨b, k, p, rfl, O2, bw⟩
end
end Go.Proofs.YtimfjoinjfecjaaGreat
