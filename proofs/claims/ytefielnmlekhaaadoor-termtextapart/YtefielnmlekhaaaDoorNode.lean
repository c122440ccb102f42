/-
  Node, Width; New.
-/
import Derived.Test.YtefielnmlekhaaaDoorLooks
namespace Go.Proofs.YtefielnmlekhaaaDoor
open Go.RowKit Go.Maps
set_option linter.unusedVariables false

theorem has1 {p : Value} {w : World} {N : List Nd} (hL : Calls Tryd.prog 19 #[p] w fun e w' => e = .returned (.int .i64 N.length) ∧ w' = w) (b : Nat) (x : Int) (hx : w.cell? ⟨b, 0, none⟩ = some (.int .i64 x)) :
    Calls Tryd.prog 27 #[p, .slice (some ⟨b, 0, none⟩) 1 1] w fun e w' => e = .returned (.bool (isN N x)) ∧ w' = w := by
  refine (has_gen hL b 1 [x] (fun j hj => ?_) (by simp) (by simp)).mono fun e w' h => ?_
  · obtain rfl : j = 0 := by simpa using hj
    exact hx
  · rw [h.1]; exact ⟨by simp [allN], h.2⟩
theorem has2 {p : Value} {w : World} {N : List Nd} (hL : Calls Tryd.prog 19 #[p] w fun e w' => e = .returned (.int .i64 N.length) ∧ w' = w) (b : Nat) (x y : Int) (hx : w.cell? ⟨b, 0, none⟩ = some (.int .i64 x)) (hy : w.cell? ⟨b, 1, none⟩ = some (.int .i64 y)) :
    Calls Tryd.prog 27 #[p, .slice (some ⟨b, 0, none⟩) 2 2] w fun e w' => e = .returned (.bool (isN N x && isN N y)) ∧ w' = w := by
  refine (has_gen hL b 2 [x, y] (fun j hj => ?_) (by simp) (by simp)).mono fun e w' h => ?_
  · have : j = 0 ∨ j = 1 := by simp at hj; omega
    rcases this with rfl | rfl
    · exact hx
    · exact hy
  · rw [h.1]; exact ⟨by simp [allN], h.2⟩
theorem has3 {p : Value} {w : World} {N : List Nd} (hL : Calls Tryd.prog 19 #[p] w fun e w' => e = .returned (.int .i64 N.length) ∧ w' = w) (b : Nat) (x y z : Int) (hx : w.cell? ⟨b, 0, none⟩ = some (.int .i64 x)) (hy : w.cell? ⟨b, 1, none⟩ = some (.int .i64 y)) (hz : w.cell? ⟨b, 2, none⟩ = some (.int .i64 z)) :
    Calls Tryd.prog 27 #[p, .slice (some ⟨b, 0, none⟩) 3 3] w fun e w' => e = .returned (.bool (isN N x && (isN N y && isN N z))) ∧ w' = w := by
  refine (has_gen hL b 3 [x, y, z] (fun j hj => ?_) (by simp) (by simp)).mono fun e w' h => ?_
  · have : j = 0 ∨ j = 1 ∨ j = 2 := by simp at hj; omega
    rcases this with rfl | rfl | rfl
    · exact hx
    · exact hy
    · exact hz
  · rw [h.1]; exact ⟨by simp [allN], h.2⟩

/-! ### a struct that is handed back -/
theorem load32 (w : World) (r : Nat) (a b c d e f : Value) (h0 : w.cell? ⟨r, 0, none⟩ = some a) (h1 : w.cell? ⟨r, 1, none⟩ = some b) (h2 : w.cell? ⟨r, 2, none⟩ = some c) (h3 : w.cell? ⟨r, 3, none⟩ = some d) (h4 : w.cell? ⟨r, 4, none⟩ = some e) (h5 : w.cell? ⟨r, 5, none⟩ = some f) :
    (loadVar 63 ⟨r, 0, none⟩).run Tryd.prog w = .ok (.agg #[a, b, c, d, e, f]) w := by
  simp [go_sem, loadVar, h0, h1, h2, h3, h4, h5]

theorem results_node {fn : Func} {p u : Tmp} (h : fn.results = #[.cell p 63, .tmp u]) (tmps : Array Value) (w : World) (r : Nat) (a b c d e f : Value) (ht : tmps.getD p undef = .pointer (some ⟨r, 0, none⟩))
    (h0 : w.cell? ⟨r, 0, none⟩ = some a) (h1 : w.cell? ⟨r, 1, none⟩ = some b) (h2 : w.cell? ⟨r, 2, none⟩ = some c) (h3 : w.cell? ⟨r, 3, none⟩ = some d) (h4 : w.cell? ⟨r, 4, none⟩ = some e) (h5 : w.cell? ⟨r, 5, none⟩ = some f) :
    (results fn tmps).run Tryd.prog w = .ok (.tuple #[.agg #[a, b, c, d, e, f], tmps.getD u undef]) w := by
  rw [Array.getD_eq_getD_getElem?] at ht
  simp only [results, h]
  simp [Result.andThen, ht, load32 w r a b c d e f h0 h1 h2 h3 h4 h5, asAddr]

theorem node_none (w : World) (id : Int) : Calls Tryd.prog 42 #[.pointer none, .int .i64 id] w fun e w' => e = .returned (.tuple #[.agg #[.int .i64 0, .int .i64 0, .int .i64 0, .int .i64 0, .int .i64 0, .int .u64 0], .bool false]) ∧ Hid (Below w.heap.size w w') := by
  have HN : Hid (isN [] id = false) := hid (by simp [isN])
  go_enter Tryd.func42, Tryd.ntmps42
  go_wp2_with (go_at_call 27; with_reducible (refine (has1 (N := []) (len_none _) _ id (by simp)).mono ?_); rintro e w2 ⟨rfl, rfl⟩; rw [HN.out])
  refine bodyPost_ret (results_node rfl _ _ w.heap.size (.int .i64 0) (.int .i64 0) (.int .i64 0) (.int .i64 0) (.int .i64 0) (.int .u64 0) rfl (by simp [go_sem]) (by simp [go_sem]) (by simp [go_sem]) (by simp [go_sem]) (by simp [go_sem]) (by simp [go_sem])) rfl ?_
  exact ⟨rfl, hid (by go_grown)⟩

theorem node_raw {k : K} {w : World} {N : List Nd} {ws : List Int} {nv : Value} {mo : Option Nat} {P : Nat → Prop} (s : Raw k w N ws nv mo P) (id : Int) : Calls Tryd.prog 42 #[.pointer (some ⟨k.DB, 0, none⟩), .int .i64 id] w fun e w' =>
    e = .returned (.tuple #[.agg #[.int .i64 (ndA N id).op, .int .i64 (ndA N id).wd, .int .i64 (ndA N id).a, .int .i64 (ndA N id).b, .int .i64 (ndA N id).c, .int .u64 (ndA N id).v], .bool (isN N id)]) ∧ Hid (Below w.heap.size w w') := by
  have HS := hid s
  cases hi : isN N id
  · have HN := hid hi
    rw [ndA_no hi]
    clear s hi
    go_enter Tryd.func42, Tryd.ntmps42
    go_wp2_with (go_at_call 27; with_reducible (refine (has1 (N := N) (len_raw (HS.out.below (by go_grown))) _ id (by simp)).mono ?_); rintro e w2 ⟨rfl, rfl⟩; rw [HN.out])
    refine bodyPost_ret (results_node rfl _ _ w.heap.size (.int .i64 0) (.int .i64 0) (.int .i64 0) (.int .i64 0) (.int .i64 0) (.int .u64 0) rfl (by simp [go_sem]) (by simp [go_sem]) (by simp [go_sem]) (by simp [go_sem]) (by simp [go_sem]) (by simp [go_sem])) rfl ?_
    exact ⟨rfl, hid (by go_grown)⟩
  · have HN := hid hi
    obtain ⟨i, rfl, hl⟩ := isN_yes hi
    have hl' : (i : Int) < N.length := by omega
    obtain ⟨ao, c, rfl, _⟩ := own_shape6 s.ow
    obtain ⟨g, rfl, e0, e1, e2, e3, e4, e5⟩ := cell_at s.ow hl
    have c1 := s.c1
    have hg := cell_lt e0
    have hd := cell_lt c1
    simp only [] at hg hd
    have hne : ¬ g = w.heap.size := by omega
    generalize ndA N (i : Int) = n at *
    clear s hi
    go_enter Tryd.func42, Tryd.ntmps42
    go_wp2_with (go_at_call 27; with_reducible (refine (has1 (N := N) (len_raw (HS.out.below (by go_grown))) _ i (by simp)).mono ?_); rintro e w2 ⟨rfl, rfl⟩; rw [HN.out])
    refine bodyPost_ret (results_node rfl _ _ w.heap.size (.int .i64 n.op) (.int .i64 n.wd) (.int .i64 n.a) (.int .i64 n.b) (.int .i64 n.c) (.int .u64 n.v) rfl (by simp [go_sem]) (by simp [go_sem]) (by simp [go_sem]) (by simp [go_sem]) (by simp [go_sem]) (by simp [go_sem])) rfl ?_
    exact ⟨rfl, hid (by go_grown)⟩

theorem node_any {k : K} {w : World} {N : List Nd} {P : Nat → Prop} (s : Dg k w N P) (id : Int) : Calls Tryd.prog 42 #[.pointer (some ⟨k.DB, 0, none⟩), .int .i64 id] w fun e w' =>
    e = .returned (.tuple #[.agg #[.int .i64 (ndA N id).op, .int .i64 (ndA N id).wd, .int .i64 (ndA N id).a, .int .i64 (ndA N id).b, .int .i64 (ndA N id).c, .int .u64 (ndA N id).v], .bool (isN N id)]) ∧ Hid (Below w.heap.size w w') := by
  obtain ⟨_, nv, mo, s⟩ := s
  exact node_raw s id

theorem width_none (w : World) (id : Int) : Calls Tryd.prog 28 #[.pointer none, .int .i64 id] w fun e w' => e = .returned (.int .i64 0) ∧ Hid (Below w.heap.size w w') := by
  go_enter Tryd.func28, Tryd.ntmps28
  go_wp2_with (go_at_call 42; with_reducible (refine (node_none _ id).mono ?_); rintro e w2 ⟨rfl, b2⟩)
  go_ret
  exact ⟨rfl, hid (Below.next b2.out (by go_grown))⟩

theorem width_raw {k : K} {w : World} {N : List Nd} {ws : List Int} {nv : Value} {mo : Option Nat} {P : Nat → Prop} (s : Raw k w N ws nv mo P) (id : Int) : Calls Tryd.prog 28 #[.pointer (some ⟨k.DB, 0, none⟩), .int .i64 id] w fun e w' => e = .returned (.int .i64 (wdF N id)) ∧ Hid (Below w.heap.size w w') := by
  have HS := hid s
  clear s
  show Calls Tryd.prog 28 _ w fun e w' => e = .returned (.int .i64 (ndA N id).wd) ∧ Hid (Below w.heap.size w w')
  go_enter Tryd.func28, Tryd.ntmps28
  go_wp2_with (go_at_call 42; with_reducible (refine (node_raw HS.out id).mono ?_); rintro e w2 ⟨rfl, b2⟩)
  go_ret
  exact ⟨rfl, hid (Below.next b2.out (by go_grown))⟩

theorem width_any {k : K} {w : World} {N : List Nd} {P : Nat → Prop} (s : Dg k w N P) (id : Int) : Calls Tryd.prog 28 #[.pointer (some ⟨k.DB, 0, none⟩), .int .i64 id] w fun e w' => e = .returned (.int .i64 (wdF N id)) ∧ Hid (Below w.heap.size w w') := by
  obtain ⟨_, nv, mo, s⟩ := s
  exact width_raw s id

end Go.Proofs.YtefielnmlekhaaaDoor
