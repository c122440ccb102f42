/-
  Which of two literals comes first in what is learned.
-/
import Derived.Test.YtikdmgemhfmipaaGreatAJ
import Derived.Test.YtikdmgemhfmipaaGreatShelf
namespace Go.Proofs.YtikdmgemhfmipaaGreat
open Go.RowKit Go.Sort
set_option linter.unusedVariables false

/-- So many draws, and blocks more behind all. -/
def Gr (w w' : World) : Prop := ∃ q os, w' = grow (w.drewN q) os

theorem Gr.refl (w : World) : Gr w w := ⟨0, #[], by rw [grow_empty]; rfl⟩
theorem Gr.trans {a b c : World} (h : Gr a b) (k : Gr b c) : Gr a c := by
  obtain ⟨q, os, rfl⟩ := h
  obtain ⟨q', os', rfl⟩ := k
  refine ⟨q + q', os ++ os', ?_⟩
  show grow (grow ((a.drewN q).drewN q') os) os' = _
  rw [grow_grow, World.drewN_drewN]
theorem Gr.alloc (w : World) (o : Obj) : Gr w (w.alloc o) := ⟨0, #[o], by rw [alloc_eq_grow]; rfl⟩
theorem Gr.drew (w : World) : Gr w w.drew := ⟨1, #[], by rw [grow_empty]; rfl⟩
theorem Gr.below {w w' : World} (h : Gr w w') : Below w.heap.size w w' := by
  obtain ⟨q, os, rfl⟩ := h
  exact ⟨rfl, rfl, rfl, by rw [size_grow]; exact Nat.le_add_right _ _, fun j hj => heap_grow_old (w.drewN q) os hj⟩

theorem split_gr (l : Int) (h : ¬ l < 0) (hu : l ≤ 9223372036854775807) (w : World) : Calls Tryz.prog 51 #[.int .i64 l] w fun e w' => e = .returned (.agg #[.int .i64 (l / 2), .bool (l % 2 == 1)]) ∧ Gr w w' := by
  go_enter Tryz.func51, Tryz.ntmps51
  go_wp2
  go_returns
  exact ⟨rfl, Gr.alloc _ _⟩

theorem var_gr (m u : Nat) (hm : m / 2 = u) (hu : (m : Int) ≤ 9223372036854775807) (w : World) : Calls Tryz.prog 31 #[.int .i64 m] w fun e w' => e = .returned (.int .i64 u) ∧ Hid (Gr w w') := by
  have HE : Hid ((m : Int) / 2 = u) := hid (by omega)
  have f0 := field0
  have h0 : ¬ ((m : Int) < 0) := by omega
  clear hm
  go_enter Tryz.func31, Tryz.ntmps31
  go_wp2_with (go_at_call 51; refine (split_gr _ h0 hu _).mono ?_; rintro e w' ⟨rfl, hb⟩)
  go_returns
  exact ⟨by rw [HE.out]; rfl, hb⟩

/-- Where the way's block and the trail stand. -/
structure Lv (k : SK) (kt : K) (L : List E) (lev : Nat) (p : V) (w : World) : Prop where
  c0 : w.cell? ⟨k.SB, 0, none⟩ = some (.pointer (some ⟨kt.OB, 0, none⟩))
  t : Trl kt w L lev p

theorem Lv.below {k : SK} {kt : K} {L : List E} {lev : Nat} {p : V} {w w' : World} (h : Lv k kt L lev p w) (b : Below w.heap.size w w') : Lv k kt L lev p w' := ⟨(b.cell (cell_lt h.c0)).trans h.c0, h.t.below b⟩

section
variable {k : SK} {w0 w w1 w' : World} {kt : K} {L : List E} {lev : Nat} {p : V} {cls : List (List Int)} {s s' : PS} {v v' : SV} {n : Nat}

theorem Cm.lvl (c : Cm k w0 kt L lev p cls) (h : Rn k w0 n w s v) : Lv k kt L lev p w := ⟨(c.cell h).1, c.trl h⟩

theorem levelOf_is (h : Lv k kt L lev p w) (m : Nat) (hx : (m : Int) ≤ 9223372036854775807) {y : Int} (hy : levelF L ((m / 2 : Nat) : Int) = y) :
    Calls Tryz.prog 58 #[.pointer (some ⟨k.SB, 0, none⟩), .int .i64 m] w fun e w' => e = .returned (.int .i64 y) ∧ Hid (Gr w w') := by
  obtain ⟨u, hu⟩ : ∃ u, m / 2 = u := ⟨_, rfl⟩
  rw [hu] at hy
  have HU := hid hu
  have HY := hid hy
  have HL := hid (h.below (below_drew w))
  have c0 := h.c0
  clear h hu hy
  go_enter Tryz.func58, Tryz.ntmps58
  go_upto_region 1 with fail
  go_region_with (first
    | (go_at_call 31; with_reducible (refine (var_gr _ _ HU.out hx _).mono ?_); rintro e w2 ⟨rfl, b2⟩; have L2 := hid (HL.out.below b2.out.below); have c02 := L2.out.c0)
    | (go_at_call 26; with_reducible (refine (level_is L2.out.t _ HY.out).mono ?_); rintro e w2 ⟨rfl, rfl⟩))
  all_goals go_wp2_with fail
  all_goals go_ret
  all_goals exact ⟨rfl, (Gr.drew w).trans b2.out⟩

def cmpI (a b : Int) : Int := if a < b then -1 else if b < a then 1 else 0

theorem isNaN_is (x : Int) (w : World) : Calls Tryz.prog 79 #[.int .i64 x] w fun e w' => e = .returned (.bool false) ∧ w' = w := by
  have hx : (x != x) = false := by simp
  go_enter Tryz.func79, Tryz.ntmps79
  go_wp2
  go_ret
  exact ⟨rfl, rfl⟩

theorem compare_is (a b : Int) (w : World) {y : Int} (hy : cmpI a b = y) : Calls Tryz.prog 57 #[.int .i64 a, .int .i64 b] w fun e w' => e = .returned (.int .i64 y) ∧ w' = w := by
  subst hy
  by_cases h1 : a < b
  · have e1 : cmpI a b = -1 := by unfold cmpI; rw [if_pos h1]
    rw [e1]
    go_enter Tryz.func57, Tryz.ntmps57
    go_wp2_with (go_at_call 79; with_reducible (refine (isNaN_is _ _).mono ?_); rintro e w ⟨rfl, rfl⟩)
    go_ret
    exact ⟨rfl, rfl⟩
  · by_cases h2 : b < a
    · have e1 : cmpI a b = 1 := by unfold cmpI; rw [if_neg h1, if_pos h2]
      rw [e1]
      go_enter Tryz.func57, Tryz.ntmps57
      go_wp2_with (go_at_call 79; with_reducible (refine (isNaN_is _ _).mono ?_); rintro e w ⟨rfl, rfl⟩)
      go_ret
      exact ⟨rfl, rfl⟩
    · have e1 : cmpI a b = 0 := by unfold cmpI; rw [if_neg h1, if_neg h2]
      rw [e1]
      go_enter Tryz.func57, Tryz.ntmps57
      go_wp2_with (go_at_call 79; with_reducible (refine (isNaN_is _ _).mono ?_); rintro e w ⟨rfl, rfl⟩)
      go_ret
      exact ⟨rfl, rfl⟩

def orI (a b : Int) : Int := if a ≠ 0 then a else b

theorem or_is (a b : Int) (g : Nat) (w : World) (h0 : w.cell? ⟨g, 0, none⟩ = some (.int .i64 a)) (h1 : w.cell? ⟨g, 1, none⟩ = some (.int .i64 b)) {y : Int} (hy : orI a b = y) :
    Calls Tryz.prog 56 #[.slice (some ⟨g, 0, none⟩) 2 2] w fun e w' => e = .returned (.int .i64 y) ∧ w' = w := by
  subst hy
  by_cases ha : a = 0
  · have e1 : orI a b = b := by unfold orI; rw [if_neg (by simpa using ha)]
    rw [e1]
    subst ha
    by_cases hb : b = 0
    · subst hb
      go_enter Tryz.func56, Tryz.ntmps56
      go_wp2
      refine wp_loop_rounds 3 ?_
      rw [rounds_succ]
      go_wp2
      rw [rounds_succ]
      go_wp2
      rw [rounds_succ]
      go_wp2
      go_ret
      exact ⟨rfl, rfl⟩
    · have hbn : (b != 0) = true := by simpa using hb
      go_enter Tryz.func56, Tryz.ntmps56
      go_wp2
      refine wp_loop_rounds 3 ?_
      rw [rounds_succ]
      go_wp2
      rw [rounds_succ]
      go_wp2
      go_ret
      exact ⟨rfl, rfl⟩
  · have e1 : orI a b = a := by unfold orI; rw [if_pos ha]
    rw [e1]
    have han : (a != 0) = true := by simpa using ha
    go_enter Tryz.func56, Tryz.ntmps56
    go_wp2
    refine wp_loop_rounds 3 ?_
    rw [rounds_succ]
    go_wp2
    go_ret
    exact ⟨rfl, rfl⟩
end

end Go.Proofs.YtikdmgemhfmipaaGreat
