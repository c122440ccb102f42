/-
  The document's may, Value, Level, Reason, New.
-/
import Derived.Test.YtimpoagdidnpiaaRef
namespace Go.Proofs.Ytimpoagdidnpiaa
open Go.RowKit
set_option linter.unusedVariables false

theorem at_is_none {L : List E} {v i : Int} (h : AtEnd L v i) (ha : atF L v = none) : i = -1 := by
  rcases h with h | ⟨q, e, _, _, h⟩
  · exact h.1
  · rw [ha] at h; cases h
theorem at_is_some {L : List E} {v i : Int} {e : E} (h : AtEnd L v i) (ha : atF L v = some e) : ∃ q : Nat, i = q ∧ Hid (L[q]? = some e) := by
  rcases h with h | ⟨q, e', h1, h2, h⟩
  · rw [ha] at h; cases h.2
  · rw [ha] at h; cases h; exact ⟨q, h1, h2⟩

theorem box_after {w w1 : World} {a b c : Value} {T : TypeId} (h : Below (w.alloc (.cells #[a, b, c] T)).heap.size (w.alloc (.cells #[a, b, c] T)) w1) : w1.cell? ⟨w.heap.size, 0, none⟩ = some a ∧ w1.cell? ⟨w.heap.size, 1, none⟩ = some b ∧ w1.cell? ⟨w.heap.size, 2, none⟩ = some c := by
  have e : w1.heap[w.heap.size]? = some (.cells #[a, b, c] T (0, 0)) := by rw [h.block _ (by simp)]; exact new_same w _
  exact ⟨by rw [cell_of e]; rfl, by rw [cell_of e]; rfl, by rw [cell_of e]; rfl⟩
theorem len_of {α : Type} {L : List α} {q : Nat} {e : α} (h : L[q]? = some e) : (q : Int) < L.length := by have := (List.getElem?_eq_some_iff.1 h).1; omega

/-- The document's trail, in memory. -/
structure RS (w : World) (rv : Value) (L : List E) (n lev : Nat) : Prop where
  ro : RO w rv L
  hb : ∀ e ∈ L, e.l ≤ 2097153
  hl : L.length ≤ 1048576
  hv : lev ≤ L.length
  hn : n ≤ 1048576

theorem RS.below {w w' : World} {rv : Value} {L : List E} {n lev : Nat} (s : RS w rv L n lev) (b : Below w.heap.size w w') : RS w' rv L n lev := ⟨s.ro.below b, s.hb, s.hl, s.hv, s.hn⟩

section
variable {w : World} {rv : Value} {L : List E} {n lev : Nat}

theorem rat_at (s : RS w rv L n lev) (nn ll v : Int) : Calls Try.prog 29 #[.agg #[.int .i64 nn, rv, .int .i64 ll], .int .i64 v] w fun e w' => ∃ i, e = .returned (.int .i64 i) ∧ Hid (AtEnd L v i) ∧ Hid (Below w.heap.size w w') := rat_any s.ro s.hb s.hl nn ll v

theorem rmay_any (s : RS w rv L n lev) (l : Int) (hu : l ≤ 9223372036854775807) (lv : Int) {b : Bool} (hb : mayF n L l = b) : Calls Try.prog 33 #[.agg #[.int .i64 n, rv, .int .i64 lv], .int .i64 l] w fun e w' => e = .returned (.bool b) ∧ Hid (Below w.heap.size w w') := by
  obtain ⟨ao, cap, rfl, _⟩ := s.ro.shape
  have HS := hid (s.below (w' := w.alloc (.cells #[.int .i64 n, .slice ao L.length cap, .int .i64 lv] 28)) (by go_grown))
  have hn := s.hn
  clear s
  subst hb
  by_cases h0 : l < 0
  · have HM : Hid (mayF n L l = false) := hid (may_out (.inl h0))
    have h0' : ¬ 0 ≤ l := by omega
    go_enter Try.func33, Try.ntmps33
    go_wp2
    go_ret
    exact ⟨by rw [HM.out]; rfl, hid (by go_grown)⟩
  · have h0' : 0 ≤ l := by omega
    by_cases h1 : l / 2 < n
    · cases ha : atF L (l / 2)
      · have HM : Hid (mayF n L l = true) := hid (by simp [mayF, ha, h0', h1])
        have HA := hid ha
        clear ha
        go_enter Try.func33, Try.ntmps33
        go_wp2_with (go_at_call 29; with_reducible (refine (rat_at HS.out _ _ _).mono ?_); rintro e w1 ⟨i, rfl, hi, b1⟩; have hi1 := at_is_none hi.out HA.out; subst hi1)
        go_ret
        exact ⟨by rw [HM.out]; rfl, hid (Below.next (by go_grown) b1.out)⟩
      · rename_i e0
        have HM : Hid (mayF n L l = false) := hid (by simp [mayF, ha])
        have HA := hid ha
        clear ha
        go_enter Try.func33, Try.ntmps33
        go_wp2_with (go_at_call 29; with_reducible (refine (rat_at HS.out _ _ _).mono ?_); rintro e w1 ⟨i, rfl, hi, b1⟩; have hi1 := at_is_some hi.out HA.out; obtain ⟨q, rfl, hq⟩ := hi1)
        go_ret
        exact ⟨by rw [HM.out]; simp, hid (Below.next (by go_grown) b1.out)⟩
    · have HM : Hid (mayF n L l = false) := hid (may_out (.inr (by omega)))
      go_enter Try.func33, Try.ntmps33
      go_wp2
      go_ret
      exact ⟨by rw [HM.out]; rfl, hid (by go_grown)⟩

theorem rvalue_any (s : RS w rv L n lev) (l : Int) (hu : l ≤ 9223372036854775807) (nn lv : Int) {y : Int} (hy : valueF L l = y) : Calls Try.prog 12 #[.agg #[.int .i64 nn, rv, .int .i64 lv], .int .i64 l] w fun e w' => e = .returned (.int .i64 y) ∧ Hid (Below w.heap.size w w') := by
  obtain ⟨ao, cap, rfl, _⟩ := s.ro.shape
  have HS := hid (s.below (w' := w.alloc (.cells #[.int .i64 nn, .slice ao L.length cap, .int .i64 lv] 28)) (by go_grown))
  clear s
  subst hy
  by_cases h0 : l < 0
  · have HM : Hid (valueF L l = 0) := hid (value_neg h0)
    go_enter Try.func12, Try.ntmps12
    go_wp2
    go_ret
    exact ⟨by rw [HM.out]; rfl, hid (by go_grown)⟩
  · cases ha : atF L (l / 2)
    · have HM : Hid (valueF L l = 0) := hid (by simp [valueF, h0, ha])
      have HA := hid ha
      clear ha
      go_enter Try.func12, Try.ntmps12
      go_wp2_with (go_at_call 29; with_reducible (refine (rat_at HS.out _ _ _).mono ?_); rintro e w1 ⟨i, rfl, hi, b1⟩; have hi1 := at_is_none hi.out HA.out; subst hi1)
      go_ret
      exact ⟨by rw [HM.out]; rfl, hid (Below.next (by go_grown) b1.out)⟩
    · rename_i e0
      have HA := hid ha
      by_cases he : (e0.l : Int) = l
      · have HM : Hid (valueF L l = 1) := hid (by simp [valueF, h0, ha, he])
        have he' : ((e0.l : Int) == l) = true := by simpa using he
        clear ha he
        go_enter Try.func12, Try.ntmps12
        go_wp2_with (go_at_call 29; with_reducible (refine (rat_at HS.out _ _ _).mono ?_); rintro e w1 ⟨i, rfl, hi, b1⟩; have hi1 := at_is_some hi.out HA.out; obtain ⟨q, rfl, hq⟩ := hi1; have bx := box_after b1.out; obtain ⟨d0, d1, d2⟩ := bx; have cc := (HS.out.below b1.out).ro.at hq.out; obtain ⟨g, rfl, x0, x1, x2⟩ := cc; have hql := len_of hq.out)
        go_ret
        exact ⟨by rw [HM.out]; rfl, hid (Below.next (by go_grown) b1.out)⟩
      · have HM : Hid (valueF L l = -1) := hid (by simp [valueF, h0, ha, he])
        have he' : ((e0.l : Int) == l) = false := by simpa using he
        clear ha he
        go_enter Try.func12, Try.ntmps12
        go_wp2_with (go_at_call 29; with_reducible (refine (rat_at HS.out _ _ _).mono ?_); rintro e w1 ⟨i, rfl, hi, b1⟩; have hi1 := at_is_some hi.out HA.out; obtain ⟨q, rfl, hq⟩ := hi1; have bx := box_after b1.out; obtain ⟨d0, d1, d2⟩ := bx; have cc := (HS.out.below b1.out).ro.at hq.out; obtain ⟨g, rfl, x0, x1, x2⟩ := cc; have hql := len_of hq.out)
        go_ret
        exact ⟨by rw [HM.out]; rfl, hid (Below.next (by go_grown) b1.out)⟩

theorem rlevel_any (s : RS w rv L n lev) (v : Int) (nn lv : Int) {y : Int} (hy : levelF L v = y) : Calls Try.prog 14 #[.agg #[.int .i64 nn, rv, .int .i64 lv], .int .i64 v] w fun e w' => e = .returned (.int .i64 y) ∧ Hid (Below w.heap.size w w') := by
  obtain ⟨ao, cap, rfl, _⟩ := s.ro.shape
  have HS := hid (s.below (w' := w.alloc (.cells #[.int .i64 nn, .slice ao L.length cap, .int .i64 lv] 28)) (by go_grown))
  clear s
  subst hy
  by_cases h0 : v < 0
  · have HM : Hid (levelF L v = -1) := hid (by simp [levelF, at_neg h0])
    have h0' : ¬ 0 ≤ v := by omega
    go_enter Try.func14, Try.ntmps14
    go_wp2_with (go_at_call 29; with_reducible (refine (rat_at HS.out _ _ _).mono ?_); rintro e w1 ⟨i, rfl, hi, b1⟩)
    go_ret
    exact ⟨by rw [HM.out]; rfl, hid (Below.next (by go_grown) b1.out)⟩
  · have h0' : 0 ≤ v := by omega
    cases ha : atF L v
    · have HM : Hid (levelF L v = -1) := hid (by simp [levelF, ha])
      have HA := hid ha
      clear ha
      go_enter Try.func14, Try.ntmps14
      go_wp2_with (go_at_call 29; with_reducible (refine (rat_at HS.out _ _ _).mono ?_); rintro e w1 ⟨i, rfl, hi, b1⟩; have hi1 := at_is_none hi.out HA.out; subst hi1)
      go_ret
      exact ⟨by rw [HM.out]; rfl, hid (Below.next (by go_grown) b1.out)⟩
    · rename_i e0
      have HM : Hid (levelF L v = (e0.g : Int)) := hid (by simp [levelF, ha])
      have HA := hid ha
      clear ha
      go_enter Try.func14, Try.ntmps14
      go_wp2_with (go_at_call 29; with_reducible (refine (rat_at HS.out _ _ _).mono ?_); rintro e w1 ⟨i, rfl, hi, b1⟩; have hi1 := at_is_some hi.out HA.out; obtain ⟨q, rfl, hq⟩ := hi1; have bx := box_after b1.out; obtain ⟨d0, d1, d2⟩ := bx; have cc := (HS.out.below b1.out).ro.at hq.out; obtain ⟨g, rfl, x0, x1, x2⟩ := cc; have hql := len_of hq.out)
      go_ret
      exact ⟨by rw [HM.out]; rfl, hid (Below.next (by go_grown) b1.out)⟩

theorem rreason_any (s : RS w rv L n lev) (v : Int) (nn lv : Int) {y : Int} (hy : reasonF L v = y) : Calls Try.prog 16 #[.agg #[.int .i64 nn, rv, .int .i64 lv], .int .i64 v] w fun e w' => e = .returned (.int .i64 y) ∧ Hid (Below w.heap.size w w') := by
  obtain ⟨ao, cap, rfl, _⟩ := s.ro.shape
  have HS := hid (s.below (w' := w.alloc (.cells #[.int .i64 nn, .slice ao L.length cap, .int .i64 lv] 28)) (by go_grown))
  clear s
  subst hy
  by_cases h0 : v < 0
  · have HM : Hid (reasonF L v = -1) := hid (by simp [reasonF, at_neg h0])
    have h0' : ¬ 0 ≤ v := by omega
    go_enter Try.func16, Try.ntmps16
    go_wp2_with (go_at_call 29; with_reducible (refine (rat_at HS.out _ _ _).mono ?_); rintro e w1 ⟨i, rfl, hi, b1⟩)
    go_ret
    exact ⟨by rw [HM.out]; rfl, hid (Below.next (by go_grown) b1.out)⟩
  · have h0' : 0 ≤ v := by omega
    cases ha : atF L v
    · have HM : Hid (reasonF L v = -1) := hid (by simp [reasonF, ha])
      have HA := hid ha
      clear ha
      go_enter Try.func16, Try.ntmps16
      go_wp2_with (go_at_call 29; with_reducible (refine (rat_at HS.out _ _ _).mono ?_); rintro e w1 ⟨i, rfl, hi, b1⟩; have hi1 := at_is_none hi.out HA.out; subst hi1)
      go_ret
      exact ⟨by rw [HM.out]; rfl, hid (Below.next (by go_grown) b1.out)⟩
    · rename_i e0
      have HM : Hid (reasonF L v = e0.r) := hid (by simp [reasonF, ha])
      have HA := hid ha
      clear ha
      go_enter Try.func16, Try.ntmps16
      go_wp2_with (go_at_call 29; with_reducible (refine (rat_at HS.out _ _ _).mono ?_); rintro e w1 ⟨i, rfl, hi, b1⟩; have hi1 := at_is_some hi.out HA.out; obtain ⟨q, rfl, hq⟩ := hi1; have bx := box_after b1.out; obtain ⟨d0, d1, d2⟩ := bx; have cc := (HS.out.below b1.out).ro.at hq.out; obtain ⟨g, rfl, x0, x1, x2⟩ := cc; have hql := len_of hq.out)
      go_ret
      exact ⟨by rw [HM.out]; rfl, hid (Below.next (by go_grown) b1.out)⟩

end

/-! ### New -/
theorem rnew_any (x : Int) (w : World) : Calls Try.prog 8 #[.int .i64 x] w fun e w' => e = .returned (.agg #[.int .i64 (cntF x), .slice none 0 0, .int .i64 0]) ∧ Hid (Below w.heap.size w w') := by
  by_cases h0 : x < 0
  · have HC : Hid (cntF x = 0) := hid (by simp [cntF, h0])
    go_enter Try.func8, Try.ntmps8
    go_wp2
    go_returns
    exact ⟨by rw [HC.out]; rfl, hid (by go_grown)⟩
  · by_cases h1 : 1048576 < x
    · have HC : Hid (cntF x = 0) := hid (by simp [cntF, h1])
      go_enter Try.func8, Try.ntmps8
      go_wp2
      go_returns
      exact ⟨by rw [HC.out]; rfl, hid (by go_grown)⟩
    · have HC : Hid ((cntF x : Int) = x) := hid (by simp only [cntF]; rw [if_neg (by omega)]; omega)
      go_enter Try.func8, Try.ntmps8
      go_wp2
      go_returns
      exact ⟨by rw [HC.out], hid (by go_grown)⟩

theorem rs_new (w : World) (n : Nat) (hn : n ≤ 1048576) : RS w (.slice none 0 0) [] n 0 := ⟨World.ownsRow_nil _ _ _ _, by simp, by simp, by simp, hn⟩

end Go.Proofs.Ytimpoagdidnpiaa
