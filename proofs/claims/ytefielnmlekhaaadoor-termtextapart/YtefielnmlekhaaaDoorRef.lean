/-
  The document's terms: Is, Width, New; made.
-/
import Derived.Test.YtefielnmlekhaaaDoorNode
import Derived.Maps.AppendAt
namespace Go.Proofs.YtefielnmlekhaaaDoor
open Go.RowKit Go.Maps
set_option linter.unusedVariables false

theorem load27 (w : World) (r : Nat) (x y : Value) (hx : w.cell? ⟨r, 0, none⟩ = some x) (hy : w.cell? ⟨r, 1, none⟩ = some y) : (loadVar 27 ⟨r, 0, none⟩).run Tryd.prog w = .ok (.agg #[x, y]) w := by
  simp [go_sem, loadVar, hx, hy]
theorem results_box {fn : Func} {p : Tmp} (h : fn.results = #[.cell p 27]) (tmps : Array Value) (w : World) (r : Nat) (x y : Value) (ht : tmps.getD p undef = .pointer (some ⟨r, 0, none⟩)) (hx : w.cell? ⟨r, 0, none⟩ = some x) (hy : w.cell? ⟨r, 1, none⟩ = some y) :
    (results fn tmps).run Tryd.prog w = .ok (.agg #[x, y]) w := by
  rw [Array.getD_eq_getD_getElem?] at ht
  simp only [results, h]
  simp [ht, load27 w r x y hx hy, asAddr]
theorem results_box3 {fn : Func} {p u t : Tmp} (h : fn.results = #[.cell p 27, .tmp u, .tmp t]) (tmps : Array Value) (w : World) (r : Nat) (x y : Value) (ht : tmps.getD p undef = .pointer (some ⟨r, 0, none⟩)) (hx : w.cell? ⟨r, 0, none⟩ = some x) (hy : w.cell? ⟨r, 1, none⟩ = some y) :
    (results fn tmps).run Tryd.prog w = .ok (.tuple #[.agg #[x, y], tmps.getD u undef, tmps.getD t undef]) w := by
  rw [Array.getD_eq_getD_getElem?] at ht
  simp only [results, h]
  simp [Result.andThen, ht, load27 w r x y hx hy, asAddr]
theorem results_pbox {fn : Func} {p u : Tmp} (h : fn.results = #[.tmp u, .cell p 27]) (tmps : Array Value) (w : World) (r : Nat) (x y : Value) (ht : tmps.getD p undef = .pointer (some ⟨r, 0, none⟩)) (hx : w.cell? ⟨r, 0, none⟩ = some x) (hy : w.cell? ⟨r, 1, none⟩ = some y) :
    (results fn tmps).run Tryd.prog w = .ok (.tuple #[tmps.getD u undef, .agg #[x, y]]) w := by
  rw [Array.getD_eq_getD_getElem?] at ht
  simp only [results, h]
  simp [Result.andThen, ht, load27 w r x y hx hy, asAddr]

/-- The document's terms in memory: the row ao, c. -/
def RD (w : World) (ao : Option Addr) (c : Nat) (N : List Nd) : Prop := w.ownsRow 0 63 6 (.slice ao N.length c) N.length (flat N)

theorem RD.below {w w' : World} {ao : Option Addr} {c : Nat} {N : List Nd} (s : RD w ao c N) (b : Below w.heap.size w w') : RD w' ao c N := own_keep s (grown_below b) (fun j hj => by cases hj)
theorem RD.at {w : World} {ao : Option Addr} {c : Nat} {N : List Nd} (h : RD w ao c N) {i : Nat} (hi : i < N.length) :
    ∃ g, ao = some ⟨g, 0, none⟩ ∧ w.cell? ⟨g, i * 6, none⟩ = some (.int .i64 (ndA N i).op) ∧ w.cell? ⟨g, i * 6 + 1, none⟩ = some (.int .i64 (ndA N i).wd) ∧ w.cell? ⟨g, i * 6 + 2, none⟩ = some (.int .i64 (ndA N i).a) ∧
      w.cell? ⟨g, i * 6 + 3, none⟩ = some (.int .i64 (ndA N i).b) ∧ w.cell? ⟨g, i * 6 + 4, none⟩ = some (.int .i64 (ndA N i).c) ∧ w.cell? ⟨g, i * 6 + 5, none⟩ = some (.int .u64 (ndA N i).v) := cell_at h hi

theorem ris_any {w : World} (ao : Option Addr) (c M : Nat) (N : List Nd) (id : Int) : Calls Tryd.prog 22 #[.agg #[.slice ao N.length c, .int .i64 M], .int .i64 id] w fun e w' => e = .returned (.bool (isN N id)) ∧ Hid (w' = w.alloc (.cells #[.slice ao N.length c, .int .i64 M] 27)) := by
  by_cases h0 : 0 ≤ id
  · by_cases h1 : id < N.length
    · have HV : Hid (isN N id = true) := hid (by simp [isN]; omega)
      go_enter Tryd.func22, Tryd.ntmps22
      go_wp2
      go_ret
      exact ⟨by rw [HV.out]; simp, rfl⟩
    · have HV : Hid (isN N id = false) := hid (by simp [isN]; omega)
      go_enter Tryd.func22, Tryd.ntmps22
      go_wp2
      go_ret
      exact ⟨by rw [HV.out]; simp, rfl⟩
  · have HV : Hid (isN N id = false) := hid (by simp [isN]; omega)
    go_enter Tryd.func22, Tryd.ntmps22
    go_wp2
    go_ret
    exact ⟨by rw [HV.out]; rfl, rfl⟩

theorem ris_is {w : World} {ao : Option Addr} {c M : Nat} {N : List Nd} (id : Int) {b : Bool} (hb : isN N id = b) : Calls Tryd.prog 22 #[.agg #[.slice ao N.length c, .int .i64 M], .int .i64 id] w fun e w' => e = .returned (.bool b) ∧ Hid (Below w.heap.size w w') := by
  subst hb
  refine (ris_any ao c M N id).mono fun e w' h => ⟨h.1, ?_⟩
  rw [h.2.out]; exact hid (by go_grown)

theorem rwidth_is {w : World} {ao : Option Addr} {c M : Nat} {N : List Nd} (s : RD w ao c N) (id : Int) {x : Int} (hx : wdF N id = x) : Calls Tryd.prog 55 #[.agg #[.slice ao N.length c, .int .i64 M], .int .i64 id] w fun e w' => e = .returned (.int .i64 x) ∧ Hid (Below w.heap.size w w') := by
  cases hi : isN N id
  · rw [wdF_no hi] at hx
    subst hx
    have HI := hid hi
    clear s hi
    go_enter Tryd.func55, Tryd.ntmps55
    go_wp2_with (go_at_call 22; with_reducible (refine (ris_is id HI.out).mono ?_); rintro e w2 ⟨rfl, b2⟩)
    go_ret
    exact ⟨rfl, hid (Below.next (by go_grown) b2.out)⟩
  · obtain ⟨i, rfl, hl⟩ := isN_yes hi
    have hl' : (i : Int) < N.length := by omega
    obtain ⟨g, rfl, e0, e1, e2, e3, e4, e5⟩ := s.at hl
    have hx2 : (ndA N (i : Int)).wd = x := hx
    rw [hx2] at e1
    have HI := hid hi
    have hg := cell_lt e1
    simp only [] at hg
    clear hx hi e0 e2 e3 e4 e5
    go_enter Tryd.func55, Tryd.ntmps55
    go_wp2_with (go_at_call 22; with_reducible (refine (ris_is (i : Int) HI.out).mono ?_); rintro e w2 ⟨rfl, b2⟩; have d1 := b2.out.cell (show (⟨w.heap.size, 0, none⟩ : Addr).block < _ by simp); have d2 := b2.out.cell (show (⟨g, i * 6 + 1, none⟩ : Addr).block < _ by simp; omega))
    go_ret
    exact ⟨rfl, hid (Below.next (by go_grown) b2.out)⟩

end Go.Proofs.YtefielnmlekhaaaDoor
