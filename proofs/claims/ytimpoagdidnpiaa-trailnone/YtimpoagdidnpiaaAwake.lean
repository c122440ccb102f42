/-
  awake: the chapter's example, and others.
-/
import Derived.Test.YtimpoagdidnpiaaDoB
namespace Go.Proofs.Ytimpoagdidnpiaa
open Go.RowKit
set_option linter.unusedVariables false

section
variable {k : K} {w : World} {L : List E} {lev : Nat} {p : V}

theorem back_at (t : Trl k w L lev p) (x : Int) {L' : List E} {v' m : Nat} {G : List Int} (hL : backL L lev x = L') (hv : backV lev x = v') (hG : backG L lev x = G) (hm : G.length = m) :
    Calls Try.prog 20 #[.pointer (some ⟨k.OB, 0, none⟩), .int .i64 x] w fun e w' => ∃ ao c p', e = .returned (.slice ao m c) ∧ Hid (Row w' ao m G) ∧ Hid (Trl k w' L' v' p') ∧ Hid (Lo k w w') ∧ Hid (Fr k p p' w w') := by
  refine (back_is t x).mono fun e w' h => ?_
  obtain ⟨ao, n, c, p', rfl, h, hn⟩ := h
  have h := h.out
  have hn := hn.out
  rw [hG, hm] at hn
  subst hn
  have r := Row.of (LRow.of_own h.row)
  have t' := h.trl
  rw [hG] at r
  rw [hL, hv] at t'
  exact ⟨ao, c, p', rfl, r, t', h.lo, h.fr⟩

theorem lits_at (t : Trl k w L lev p) {m : Nat} (hm : L.length = m) : Calls Try.prog 18 #[.pointer (some ⟨k.OB, 0, none⟩)] w fun e w' => ∃ ao, e = .returned (.slice ao m m) ∧ Hid (Row w ao m (litsF L) ∧ p.l.ownBlock = (Value.slice ao m m).ownBlock) ∧ w' = w := by
  subst hm
  refine (lits_is t).mono fun e w' h => ?_
  obtain ⟨ao, rfl, h, rfl⟩ := h
  exact ⟨ao, rfl, ⟨Row.of h.out.1, h.out.2⟩, rfl⟩
end

theorem row_one (w : World) (y : Int) : Row (w.alloc (.cells #[.int .i64 y] 3)) (some ⟨w.heap.size, 0, none⟩) 1 [y] := by
  refine ⟨rfl, fun j x hx => ⟨_, rfl, ?_⟩⟩
  rw [cell_of (new_same w _)]
  match j, hx with
  | 0, hx => simp at hx; subst hx; rfl

theorem new_three (w : World) : Calls Try.prog 7 #[.int .i64 3] w fun e w' => ∃ k : K, e = .returned (.pointer (some ⟨k.OB, 0, none⟩)) ∧ Hid (Trl k w' [] 0 noV) ∧ Hid (k.n = 3) ∧ Hid (k.B = w.heap.size) ∧ Hid (Below w.heap.size w w') := by
  refine (new_is 3 w).mono fun e w' h => ?_
  obtain ⟨k, rfl, h1, h2, h3, h4⟩ := h
  exact ⟨k, rfl, h1, h2, h3, h4⟩

def lA : List E := [⟨0, 0, 5⟩]
def lB : List E := [⟨0, 0, 5⟩, ⟨3, 1, -1⟩]

theorem aw1 : mayF 3 [] 0 = true := by decide
theorem aw2 : addL 3 [] 0 0 5 = lA := rfl
theorem aw3 : mayF 3 lA 3 = true := by decide
theorem aw4 : addL 3 lA 3 (0 + 1) (-1) = lB := rfl
theorem aw5 : decV 3 lA 0 3 = 1 := by decide
theorem aw6 : mayF 3 lB 2 = false := by decide
theorem aw7 : addL 3 lB 2 1 1 = lB := rfl
theorem aw8 : valueF lB 0 = 1 := by decide
theorem aw9 : valueF lB 1 = -1 := by decide
theorem aw10 : levelF lB 1 = 1 := by decide
theorem aw11 : reasonF lB 0 = 5 := by decide
theorem aw12 : lB.length = 2 := rfl
theorem aw13 : backL lB 1 0 = lA := rfl
theorem aw14 : backV 1 0 = 0 := by decide
theorem aw15 : backG lB 1 0 = [1] := by decide
theorem aw16 : ([1] : List Int).length = 1 := rfl
theorem aw17 : sameF [1] [1] = true := by decide
theorem aw18 : valueF lA 3 = 0 := by decide
theorem aw19 : levelF lA 1 = -1 := by decide
theorem aw20 : backL lA 0 0 = lA := rfl
theorem aw21 : backV 0 0 = 0 := by decide
theorem aw22 : backG lA 0 0 = [] := by decide
theorem aw23 : ([] : List Int).length = 0 := rfl

set_option maxHeartbeats 4000000 in
theorem awake_any (w : World) : Calls Try.prog 6 #[] w fun e w' => e = .returned (.bool true) ∧ Hid (Below w.heap.size w w') := by
  go_enter Try.func6, Try.ntmps6
  go_wp2_with (first
    | (go_at_call 7; with_reducible (refine (new_three _).mono ?_); rintro e w1 ⟨k, rfl, o1, hn, hB, b1⟩; have hk := Hid.out hn)
    | (go_at_call 21; with_reducible (refine (assign_is o1.out 0 5 (by decide) (b := true) (L' := lA) (by rw [hk]; exact aw1) (by rw [hk]; exact aw2)).mono ?_); rintro e w2 ⟨p2, rfl, o2, f2⟩)
    | (go_at_call 22; with_reducible (refine (decide_is o2.out 3 (by decide) (b := true) (L' := lB) (lev' := 1) (by rw [hk]; exact aw3) (by rw [hk]; exact aw4) (by rw [hk]; exact aw5)).mono ?_); rintro e w3 ⟨p3, rfl, o3, f3⟩)
    | (go_at_call 21; with_reducible (refine (assign_is o3.out 2 1 (by decide) (b := false) (L' := lB) (by rw [hk]; exact aw6) (by rw [hk]; exact aw7)).mono ?_); rintro e w4 ⟨p4, rfl, o4, f4⟩)
    | (go_at_call 11; with_reducible (refine (value_is o4.out 0 (by decide) aw8).mono ?_); rintro e w5 ⟨rfl, b5⟩; have o5 := hid (o4.out.below b5.out))
    | (go_at_call 11; with_reducible (refine (value_is o5.out 1 (by decide) aw9).mono ?_); rintro e w6 ⟨rfl, b6⟩; have o6 := hid (o5.out.below b6.out))
    | (go_at_call 13; with_reducible (refine (level_is o6.out 1 aw10).mono ?_); rintro e w6 ⟨rfl, rfl⟩)
    | (go_at_call 15; with_reducible (refine (reason_is o6.out 0 aw11).mono ?_); rintro e w6 ⟨rfl, rfl⟩)
    | (go_at_call 18; with_reducible (refine (lits_at o6.out aw12).mono ?_); rintro e w6 ⟨ao6, rfl, h6, rfl⟩)
    | (go_at_call 20; with_reducible (refine (back_at o6.out 0 aw13 aw14 aw15 aw16).mono ?_); rintro e w7 ⟨ao7, c7, p7, rfl, r7, o7, l7, f7⟩)
    | (go_at_call 17; with_reducible (refine (same_any _ _ _ _ _ _ _ _ _ (r7.out.below (below_alloc w7 (.cells #[.int .i64 1] 3))) (row_one w7 1) (by decide) (by decide) aw17).mono ?_); rintro e w8 ⟨rfl, b8⟩; have b8' := hid (Below.next (below_alloc w7 (.cells #[.int .i64 1] 3)) b8.out); have o8 := hid (o7.out.below b8'.out))
    | (go_at_call 10; with_reducible (refine (levels_is o8.out).mono ?_); rintro e w8 ⟨rfl, rfl⟩)
    | (go_at_call 11; with_reducible (refine (value_is o8.out 3 (by decide) aw18).mono ?_); rintro e w9 ⟨rfl, b9⟩; have o9 := hid (o8.out.below b9.out))
    | (go_at_call 13; with_reducible (refine (level_is o9.out 1 aw19).mono ?_); rintro e w9 ⟨rfl, rfl⟩)
    | (go_at_call 20; with_reducible (refine (back_at o9.out 0 aw20 aw21 aw22 aw23).mono ?_); rintro e w10 ⟨ao10, c10, p10, rfl, r10, o10, l10, f10⟩))
  go_ret
  exact ⟨rfl, hid (o1.out.be ((((((((f2.out.trans f3.out).trans f4.out).trans (Fr.below b5.out)).trans (Fr.below b6.out)).trans f7.out).trans (Fr.below b8'.out)).trans (Fr.below b9.out)).trans f10.out) hB.out b1.out)⟩

end Go.Proofs.Ytimpoagdidnpiaa
