/-
  Terms that are none: the walk.
-/
import Derived.Test.YtfbnlhgpknialaaNil
import Derived.Test.YtfbnlhgpknialaaAwake
namespace Go.Proofs.Ytfbnlhgpknialaa
open Go.RowKit Go.Maps
set_option linter.unusedVariables false

theorem size_up {w w2 w3 : World} {o : Obj} (h2 : Below (w.alloc o).heap.size (w.alloc o) w2) (h3 : Below w2.heap.size w2 w3) : w.heap.size < w3.heap.size := by
  have := h2.size; have := h3.size; simp at *; omega

set_option maxHeartbeats 2000000 in
theorem none_walk (d : Dd) (w : World) :
    Calls Try.prog 5 #[.agg #[.int .i64 d.kd, .int .i64 d.w, .int .i64 d.a, .int .i64 d.b, .int .i64 d.c, .int .u64 d.x]] w fun e w' => e = .returned (.bool true) ∧ Below w.heap.size w w' := by
  go_enter Try.func5, Try.ntmps5
  go_wp2_with (first
    | (go_at_call 13; with_reducible (refine (made_nil d _).mono ?_); rintro e w2 ⟨rfl, b2⟩; have d1 := b2.out.cell (show (⟨w.heap.size, 2, none⟩ : Addr).block < _ by simp))
    | (go_at_call 8; with_reducible (refine (node_none _ _).mono ?_); rintro e w3 ⟨rfl, b3⟩; have d2 := b3.out.cell (show (⟨w.heap.size, 2, none⟩ : Addr).block < _ by have := b2.out.size; simp at this ⊢; omega); have hlt : w.heap.size < w3.heap.size := size_up b2.out b3.out; have HB := hid (Below.next (Below.next (Below.next (show Below w.heap.size w (w.alloc _) by go_grown) b2.out) b3.out) (show Below w3.heap.size w3 (w3.alloc (.cells #[.int .i64 0, .int .i64 0, .int .i64 0, .int .i64 0, .int .i64 0, .int .u64 0] 32)) by go_grown)))
    | (go_at_call 9; with_reducible (refine (width_none _ _).mono ?_); rintro e w4 ⟨rfl, b4⟩)
    | (go_at_call 14; with_reducible (refine (len_none _).mono ?_); rintro e w5 ⟨rfl, rfl⟩)
    | (go_at_call 6; with_reducible (refine (awake_any _).mono ?_); rintro e w6 ⟨rfl, b6⟩))
  go_ret
  exact ⟨rfl, Below.next (Below.next HB.out b4.out) b6.out⟩

end Go.Proofs.Ytfbnlhgpknialaa
