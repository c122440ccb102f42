/-
  The document's Decide, Lits, Back.
-/
import Derived.Test.YtimpoagdidnpiaaRmake
namespace Go.Proofs.Ytimpoagdidnpiaa
open Go.RowKit
set_option linter.unusedVariables false

theorem ReEnd.shape {rv : Value} {L' : List E} {w : World} {rv' : Value} {w' : World} (h : ReEnd rv L' w rv' w') : ∃ ao cap, rv' = .slice ao L'.length cap := by
  obtain ⟨ao, cap, e, _⟩ := h.1.shape; exact ⟨ao, cap, e⟩

theorem ReEnd.be {rv : Value} {L' : List E} {w : World} {rv' : Value} {w' : World} (h : ReEnd rv L' w rv' w') : Below w.heap.size w w' := h.2.2

section
variable {w : World} {rv : Value} {L : List E} {n lev : Nat}

theorem rassign_at (s : RS w rv L n lev) (l r : Int) (hu : l ≤ 9223372036854775807) (g : Nat) (lv : Int) (hg : lv = g) {b : Bool} (hb : mayF n L l = b) {L' : List E} (hL : addL n L l g r = L') :
    Calls Try.prog 23 #[.agg #[.int .i64 n, rv, .int .i64 lv], .int .i64 l, .int .i64 r] w fun e w' => ∃ ao c, e = .returned (.tuple #[.agg #[.int .i64 n, .slice ao L'.length c, .int .i64 lv], .bool b]) ∧ Hid (ReEnd rv L' w (.slice ao L'.length c) w') := by
  refine (rassign_any s l r hu g lv hg hb).mono fun e w' h => ?_
  obtain ⟨rv', rfl, h⟩ := h
  rw [hL] at h
  obtain ⟨ao, c, rfl⟩ := h.shape
  exact ⟨ao, c, rfl, h⟩

/-- The level is written into the call's own box. -/
theorem up_level {w3 : World} {c c' : Array Value} (s : RS w rv L n lev) (b : Below w.heap.size w w3) (k1 : w3.heap[w.heap.size]? = some (.cells c 28 (0, 0))) (k2 : w3.heap[w.heap.size + 1]? = some (.cells c' 28 (0, 0))) (x : Int) :
    RS (w3.setCell ⟨w.heap.size, 2, none⟩ (.int .i64 x)) rv L n 0 ∧ (w3.setCell ⟨w.heap.size, 2, none⟩ (.int .i64 x)).heap[w.heap.size + 1]? = some (.cells c' 28 (0, 0)) ∧ Below w.heap.size w (w3.setCell ⟨w.heap.size, 2, none⟩ (.int .i64 x)) := by
  refine ⟨⟨(s.ro.below b).put1 k1 _, s.hb, s.hl, by omega, s.hn⟩, ?_, b.setCell (p := ⟨w.heap.size, 2, none⟩) (Nat.le_refl _) _⟩
  rw [set_other _ (by show w.heap.size + 1 ≠ w.heap.size; omega)]; exact k2

theorem re_from {w w3 w' : World} {rv rv' : Value} {L' : List E} {r : Nat} {c : Array Value} {p q s : Value} (b : Below w.heap.size w w3) (h : ReEnd rv L' w3 rv' w') (hr : w'.heap[r]? = some (.cells c 28 (0, 0))) (hlo : w.heap.size ≤ r) : ReEnd rv L' w rv' (((w'.setCell ⟨r, 0, none⟩ p).setCell ⟨r, 1, none⟩ q).setCell ⟨r, 2, none⟩ s) :=
  ⟨h.1.put3 hr _ _ _, fun j hj => (h.2.1 j hj).elim .inl (fun e => .inr (Nat.le_trans b.size e)), put3_below (Below.next b h.2.2) hlo _ _ _⟩

set_option maxHeartbeats 2000000 in
theorem rdecide_any (s : RS w rv L n lev) (l : Int) (hu : l ≤ 9223372036854775807) {b : Bool} (hb : mayF n L l = b) :
    Calls Try.prog 24 #[.agg #[.int .i64 n, rv, .int .i64 lev], .int .i64 l] w fun e w' => ∃ rv', e = .returned (.tuple #[.agg #[.int .i64 n, rv', .int .i64 (decV n L lev l)], .bool b]) ∧ ReEnd rv (addL n L l (lev + 1) (-1)) w rv' w' := by
  obtain ⟨ao, cap, rfl, _⟩ := s.ro.shape
  have HS := hid s
  have hl := s.hl
  have hv := s.hv
  clear s
  cases b
  · have HB := hid hb
    have HA : Hid (addL n L l (lev + 1) (-1) = L ∧ decV n L lev l = lev) := hid ⟨by simp [addL, hb], by simp [decV, hb]⟩
    clear hb
    go_enter Try.func24, Try.ntmps24
    go_wp2_with (go_at_call 33; with_reducible (refine (rmay_any (HS.out.below (by go_grown)) _ hu _ HB.out).mono ?_); rintro e w3 ⟨rfl, b3⟩; have h3 := two_boxes b3.out; obtain ⟨k1, k2, b4⟩ := h3; have k3 := box_cells k1; obtain ⟨⟨d0, d1, d2⟩, d3, d4, d5⟩ := k3; have k4 := box_cells k2; obtain ⟨⟨r0, r1, r2⟩, r3, r4, r5⟩ := k4)
    refine bodyPost_ret (results_box2 rfl _ _ (w.heap.size + 1) (.int .i64 n) (.slice ao L.length cap) (.int .i64 lev) rfl (by simp [go_sem, r0]) (by simp [go_sem, r1]) (by simp [go_sem, r2])) rfl ?_
    exact ⟨_, by rw [HA.out.2]; rfl, by rw [HA.out.1]; exact re_same HS.out.ro b4 k2 (by omega)⟩
  · have HB := hid hb
    have HA : Hid (decV n L lev l = lev + 1) := hid (by simp [decV, hb])
    obtain ⟨L', hL'⟩ : ∃ L', addL n L l (lev + 1) (-1) = L' := ⟨_, rfl⟩
    have HL := hid hL'
    clear hb hL'
    go_enter Try.func24, Try.ntmps24
    go_wp2_with (first
      | (go_at_call 33; with_reducible (refine (rmay_any (HS.out.below (by go_grown)) _ hu _ HB.out).mono ?_); rintro e w3 ⟨rfl, b3⟩; have h3 := two_boxes b3.out; obtain ⟨k1, k2, b4⟩ := h3; have k3 := box_cells k1; obtain ⟨⟨d0, d1, d2⟩, d3, d4, d5⟩ := k3; have hh := hid (up_level HS.out b4 k1 k2 ((lev : Int) + 1)))
      | (go_at_call 23; with_reducible (refine (rassign_at hh.out.1 l (-1) hu (lev + 1) ((lev : Int) + 1) (by omega) HB.out HL.out).mono ?_); rintro e w6 ⟨ao6, c6, rfl, h6⟩; have q6 := box_keep hh.out.2.1 h6.out.be; have k4 := box_cells q6; obtain ⟨⟨r0, r1, r2⟩, r3, r4, r5⟩ := k4))
    refine bodyPost_ret (results_box2 rfl _ _ (w.heap.size + 1) (.int .i64 n) (.slice ao6 L'.length c6) (.int .i64 ((lev : Int) + 1)) rfl (by simp [go_sem, r0]) (by simp [go_sem, r1]) (by simp [go_sem, r2])) rfl ?_
    exact ⟨_, by rw [HA.out]; rfl, by rw [HL.out]; exact re_from hh.out.2.2 h6.out q6 (by omega)⟩
end

end Go.Proofs.Ytimpoagdidnpiaa
