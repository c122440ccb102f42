/-
  The closure that tells which of two literals comes first; the order that it tells.
-/
import Derived.Test.YtimfjoinjfecjaaGreatQ29

namespace Go.Proofs.YtimfjoinjfecjaaGreat
open Go.RowKit Go.Sort
set_option linter.unusedVariables false

def cmpF (L : List E) (x y : Nat) : Int := orI (cmpI (levelF L ((y / 2 : Nat) : Int)) (levelF L ((x / 2 : Nat) : Int))) (cmpI (x : Int) (y : Int))

section
variable {k : SK} {w0 w w1 w' : World} {kt : K} {L : List E} {lev : Nat} {p : V} {cls : List (List Int)} {s s' : PS} {v v' : SV} {n : Nat}

theorem two_new (W : World) (a b : Int) : (W.alloc (.cells #[.int .i64 a, .int .i64 b] 3)).cell? ⟨W.heap.size, 0, none⟩ = some (.int .i64 a) ∧ (W.alloc (.cells #[.int .i64 a, .int .i64 b] 3)).cell? ⟨W.heap.size, 1, none⟩ = some (.int .i64 b) := by
  have h := new_same W (.cells #[.int .i64 a, .int .i64 b] 3)
  exact ⟨(cell_of h).trans rfl, (cell_of h).trans rfl⟩

theorem lv_step (h : Lv k kt L lev p w) {BX : Nat} (hbx : w.cell? ⟨BX, 0, none⟩ = some (.pointer (some ⟨k.SB, 0, none⟩))) (g : Gr w w1) : Lv k kt L lev p w1 ∧ w1.cell? ⟨BX, 0, none⟩ = some (.pointer (some ⟨k.SB, 0, none⟩)) :=
  ⟨h.below g.below, (g.below.cell (cell_lt hbx)).trans hbx⟩

theorem gr_step {w2 : World} (g : Gr w.drew w2) : Gr w w2 := (Gr.drew w).trans g

set_option maxHeartbeats 2000000 in
theorem closure_is (h : Lv k kt L lev p w) {BX : Nat} (hbx : w.cell? ⟨BX, 0, none⟩ = some (.pointer (some ⟨k.SB, 0, none⟩))) (x y : Nat) (hx : (x : Int) ≤ 9223372036854775807) (hy : (y : Int) ≤ 9223372036854775807) :
    Calls Tryz.prog 122 #[.int .i64 x, .int .i64 y, .pointer (some ⟨BX, 0, none⟩)] w fun e w' => e = .returned (.int .i64 (cmpF L x y)) ∧ Gr w w' := by
  obtain ⟨a, ha⟩ : ∃ a, levelF L ((x / 2 : Nat) : Int) = a := ⟨_, rfl⟩
  obtain ⟨b, hb⟩ : ∃ b, levelF L ((y / 2 : Nat) : Int) = b := ⟨_, rfl⟩
  obtain ⟨c1, h1⟩ : ∃ c1, cmpI b a = c1 := ⟨_, rfl⟩
  obtain ⟨c2, h2⟩ : ∃ c2, cmpI (x : Int) (y : Int) = c2 := ⟨_, rfl⟩
  obtain ⟨o, ho⟩ : ∃ o, orI c1 c2 = o := ⟨_, rfl⟩
  have HF : Hid (cmpF L x y = o) := hid (by unfold cmpF; rw [ha, hb, h1, h2, ho])
  have HA := hid ha
  have HB := hid hb
  have H1 := hid h1
  have H2 := hid h2
  have HO := hid ho
  have HL := hid (h.below (below_drew w))
  have hbx0 : w.drew.cell? ⟨BX, 0, none⟩ = some (.pointer (some ⟨k.SB, 0, none⟩)) := hbx
  have HN := hid (fun W => two_new W c1 c2)
  clear h ha hb h1 h2 ho
  go_enter Tryz.func122, Tryz.ntmps122
  go_upto_region 1 with fail
  go_region_with (first
    | (go_at_call 125; with_reducible (refine (levelOf_is HL.out _ hx HA.out).mono ?_); rintro e w2 ⟨rfl, b2⟩; have s2 := lv_step HL.out hbx0 b2.out; obtain ⟨l2, x2⟩ := s2; have L2 := hid l2; clear l2; have G2 := hid (gr_step b2.out))
    | (go_at_call 125; with_reducible (refine (levelOf_is HL.out _ hy HB.out).mono ?_); rintro e w2 ⟨rfl, b2⟩; have s2 := lv_step HL.out hbx0 b2.out; obtain ⟨l2, x2⟩ := s2; have L2 := hid l2; clear l2; have G2 := hid (gr_step b2.out))
    | (go_at_call 125; with_reducible (refine (levelOf_is L2.out _ hx HA.out).mono ?_); rintro e w3 ⟨rfl, b3⟩; have G3 := hid (G2.out.trans b3.out))
    | (go_at_call 125; with_reducible (refine (levelOf_is L2.out _ hy HB.out).mono ?_); rintro e w3 ⟨rfl, b3⟩; have G3 := hid (G2.out.trans b3.out))
    | (go_at_call 124; with_reducible (refine (compare_is _ _ _ H1.out).mono ?_); rintro e w9 ⟨rfl, rfl⟩)
    | (go_at_call 124; with_reducible (refine (compare_is _ _ _ H2.out).mono ?_); rintro e w9 ⟨rfl, rfl⟩)
    | (go_at_call 123; with_reducible (refine (or_is c1 c2 _ _ (HN.out _).1 (HN.out _).2 HO.out).mono ?_); rintro e w9 ⟨rfl, rfl⟩))
  all_goals go_wp2_with fail
  all_goals go_ret
  all_goals exact ⟨by rw [HF.out]; rfl, G3.out.trans (Gr.alloc _ _)⟩
end

end Go.Proofs.YtimfjoinjfecjaaGreat
