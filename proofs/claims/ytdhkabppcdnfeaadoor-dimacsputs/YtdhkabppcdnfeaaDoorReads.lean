/-
  Read, of the program.
-/
import Derived.Test.YtdhkabppcdnfeaaDoorRefuse
namespace Go.Proofs.YtdhkabppcdnfeaaDoor
open Go.RowKit
set_option linter.unusedVariables false

theorem one_new (w : World) (o : Obj) : Below w.heap.size w (w.alloc o) := (Below.refl _ _).alloc (Nat.le_refl _) _

theorem ErrT.keep {w w' : World} (h : ErrT w) (b : Below w.heap.size w w') : ErrT w' := (b.cell (cell_lt h)).trans h

theorem as_got (m : ByteArray) (tb : Nat) (old : Value) (w : World) (hg : ErrT w) (ht0 : w.cell? ⟨tb, 0, none⟩ = some old) (hf0 : w.frozen? ⟨tb, 0, none⟩ = false) :
    Calls Tryd.prog 20 #[.iface 50 (.agg #[.string m]), .iface 52 (.pointer (some ⟨tb, 0, none⟩))] w fun ev w' => ev = .returned (.bool true) ∧ w'.cell? ⟨tb, 0, none⟩ = some (.string m) ∧ Hid (w.grownBy w' (some tb)) := by
  refine (as_hit m tb old w hg ht0 hf0).mono fun e w' ⟨he, hw⟩ => ?_
  subst hw
  have htl : tb < w.heap.size := cell_lt ht0
  have hb : ∀ (a : World) o, Below w.heap.size w a → Below w.heap.size w (a.alloc o) := fun a o h => h.alloc h.size o
  have h4 := hb _ (.cells #[.string m] 50) (hb _ (.cells #[.pointer (some ⟨4, 52, none⟩), .pointer (some ⟨w.heap.size, 0, none⟩), .int .u64 150] 68) (hb _ (.cells #[.pointer (some ⟨4, 52, none⟩), .pointer (some ⟨w.heap.size, 0, none⟩), .int .u64 150] 68) (hb _ (.cells #[.pointer (some ⟨tb, 0, none⟩)] 52) (Below.refl _ _))))
  refine ⟨he, World.cell?_setCell_same _ _ _ ((h4.cell htl).trans ht0), ?_⟩
  exact grown_two (grown_below h4 _) (grown_set _ _ _)

theorem errno_any (m : ByteArray) (w : World) : Calls Tryd.prog 21 #[.agg #[.string m]] w fun e w' => e = .returned (.int .i64 7) ∧ Hid (Below w.heap.size w w') := by
  go_enter Tryd.func21, Tryd.ntmps21
  go_wp2
  go_ret
  exact ⟨rfl, one_new _ _⟩

theorem read_ok (s : List UInt8) (v : Nat) (l : List (List Int)) (w : World) (hb : s.length ≤ 1000000) (hr : readP s = some (v, l)) :
    Calls Tryd.prog 19 #[.string ⟨s.toArray⟩] w fun e w' => ∃ ao cap, e = .returned (.tuple #[.int .i64 v, .slice ao l.length cap, .nilIface]) ∧ Hid (Grid w' ao l.length cap l) ∧ Hid (Below w.heap.size w w') := by
  refine (read_all s w hb).mono fun e w' he => ?_
  rcases he with ⟨v', l', e1, ao, cap, e2, h2, h3⟩ | ⟨e1, _⟩
  · rw [hr] at e1
    simp only [Option.some.injEq, Prod.mk.injEq] at e1
    obtain ⟨rfl, rfl⟩ := e1
    exact ⟨ao, cap, e2, h2, h3⟩
  · rw [hr] at e1; cases e1

theorem read_bad (s : List UInt8) (w : World) (hb : s.length ≤ 1000000) (hr : readP s = none) :
    Calls Tryd.prog 19 #[.string ⟨s.toArray⟩] w fun e w' => ∃ m, e = .returned (.tuple #[.int .i64 0, .slice none 0 0, .iface 50 (.agg #[.string m])]) ∧ Hid (Below w.heap.size w w') := by
  refine (read_all s w hb).mono fun e w' he => ?_
  rcases he with ⟨v', l', e1, _⟩ | ⟨_, m, e2, h3⟩
  · rw [hr] at e1; cases e1
  · exact ⟨m, e2, h3⟩

set_option maxHeartbeats 4000000 in
theorem Read_ok (s : List UInt8) (v : Nat) (l : List (List Int)) (w : World) (hb : s.length ≤ 1000000) (hr : readP s = some (v, l)) :
    Calls Tryd.prog 10 #[.string ⟨s.toArray⟩] w fun e w' => ∃ ao cap, e = .returned (.tuple #[.int .i64 v, .slice ao l.length cap, .int .i64 0]) ∧ Hid (Grid w' ao l.length cap l) ∧ Hid (Below w.heap.size w w') := by
  have HR := hid hr
  clear hr
  go_enter Tryd.func10, Tryd.ntmps10
  go_wp2_with (first
    | (go_at_call 19; with_reducible (refine (read_ok s v l _ hb HR.out).mono ?_); rintro e w1 ⟨ao, cap, rfl, hg1, hb1⟩)
    | (go_at_call 20; refine (as_nil _ _).mono ?_; rintro e w2 ⟨rfl, rfl⟩))
  go_ret3
  have b2 := one_new w1 (.cells #[.string ⟨#[]⟩] 50)
  exact ⟨ao, cap, rfl, hg1.out.keep b2, Below.next hb1.out b2⟩

set_option maxHeartbeats 4000000 in
theorem Read_bad (s : List UInt8) (w : World) (hb : s.length ≤ 1000000) (hr : readP s = none) (he : ErrT w) :
    Calls Tryd.prog 10 #[.string ⟨s.toArray⟩] w fun e w' => e = .returned (.tuple #[.int .i64 0, .slice none 0 0, .int .i64 7]) ∧ Hid (Below w.heap.size w w') := by
  have HR := hid hr
  have HT := hid he
  clear hr he
  go_enter Tryd.func10, Tryd.ntmps10
  go_wp2_with (first
    | (go_at_call 19; with_reducible (refine (read_bad s _ hb HR.out).mono ?_); rintro e w1 ⟨m, rfl, hb1⟩)
    | (go_at_call 20; refine (as_got m w1.heap.size (.string ⟨#[]⟩) _ ((HT.out.keep hb1.out).keep (one_new w1 (.cells #[.string ⟨#[]⟩] 50))) (by simp) (by simp)).mono ?_; rintro e w2 ⟨rfl, hc2, hg2⟩)
    | (go_at_call 21; refine (errno_any m _).mono ?_; rintro e w3 ⟨rfl, hb3⟩))
  go_ret3
  have b2 : Below w1.heap.size w1 w2 := (one_new w1 (.cells #[.string ⟨#[]⟩] 50)).trans (below_own hg2.out (fun j hj => by cases hj; exact Nat.le_refl _) (by simp))
  exact ⟨rfl, Below.next (Below.next hb1.out b2) hb3.out⟩

end Go.Proofs.YtdhkabppcdnfeaaDoor
