/-
  room: where the facts of literals are to lie.
-/
import Derived.Test.YtdkkdfgaponlbaaEnter
import Derived.Deep.OwnRows
namespace Go.Proofs.Ytdkkdfgaponlbaa
open Go.RowKit Go.Maps
set_option linter.unusedVariables false

/-- The result's block, and behind it the two numbers. -/
def RM (w : World) (r : Nat) (n top : Int) : Prop := w.heap[r]? = some (.cells #[.slice none 0 0, .map none] 55 (0, 0)) ∧ w.heap[r + 1]? = some (.cells #[.int .i64 n] 3 (0, 0)) ∧ w.heap[r + 1 + 1]? = some (.cells #[.int .i64 top] 3 (0, 0))

theorem RM.n {w : World} {b : Nat} {n top : Int} (h : RM w b n top) : w.cell? ⟨b + 1, 0, none⟩ = some (.int .i64 n) := by rw [cell_of h.2.1]; rfl
theorem RM.t {w : World} {b : Nat} {n top : Int} (h : RM w b n top) : w.cell? ⟨b + 1 + 1, 0, none⟩ = some (.int .i64 top) := by rw [cell_of h.2.2]; rfl
theorem RM.fn {w : World} {b : Nat} {n top : Int} (h : RM w b n top) : w.frozen? ⟨b + 1, 0, none⟩ = false := frozen_of h.2.1
theorem RM.ft {w : World} {b : Nat} {n top : Int} (h : RM w b n top) : w.frozen? ⟨b + 1 + 1, 0, none⟩ = false := frozen_of h.2.2
theorem RM.setn {w : World} {b : Nat} {n top : Int} (h : RM w b n top) (m : Int) : RM (w.setCell ⟨b + 1, 0, none⟩ (.int .i64 m)) b m top :=
  ⟨by rw [Below.heap_setCell _ _ _ _ (show b ≠ b + 1 by omega)]; exact h.1, by rw [set_same h.2.1]; rfl, by rw [Below.heap_setCell _ _ _ _ (show b + 1 + 1 ≠ b + 1 by omega)]; exact h.2.2⟩
theorem RM.sett {w : World} {b : Nat} {n top : Int} (h : RM w b n top) (m : Int) : RM (w.setCell ⟨b + 1 + 1, 0, none⟩ (.int .i64 m)) b n m :=
  ⟨by rw [Below.heap_setCell _ _ _ _ (show b ≠ b + 1 + 1 by omega)]; exact h.1, by rw [Below.heap_setCell _ _ _ _ (show b + 1 ≠ b + 1 + 1 by omega)]; exact h.2.1, by rw [set_same h.2.2]; rfl⟩
theorem RM.res {w : World} {b : Nat} {n top : Int} (h : RM w b n top) : w.cell? ⟨b, 0, none⟩ = some (.slice none 0 0) ∧ w.cell? ⟨b, 1, none⟩ = some (.map none) ∧ w.frozen? ⟨b, 0, none⟩ = false ∧ w.frozen? ⟨b, 1, none⟩ = false :=
  ⟨by rw [cell_of h.1]; rfl, by rw [cell_of h.1]; rfl, frozen_of h.1, frozen_of h.1⟩

def MeEnd (w0 : World) (n : Int) (e : Ending) (w' : World) : Prop := e = .returned (.tuple #[]) ∧ Below w0.heap.size w0 w' ∧ ∃ top : Int, 0 ≤ top ∧ top ≤ 9223372036854775807 ∧ RM w' w0.heap.size n top

set_option maxHeartbeats 1000000 in
theorem measure_any (w0 : World) (a : Option Addr) (m cap : Nat) (xs : List Int) (hr : Row w0 a m cap xs) (w : World) (hb : Below w0.heap.size w0 w) (n : Nat) (top : Int) (rm : RM w w0.heap.size n top) (hn : n + m ≤ 1000000) (t0 : 0 ≤ top) (t1 : top ≤ 9223372036854775807) :
    Calls Try.prog 49 #[.slice a m cap, .pointer (some ⟨w0.heap.size + 1, 0, none⟩), .pointer (some ⟨w0.heap.size + 1 + 1, 0, none⟩)] w fun e w' => MeEnd w0 (n + m : Nat) e w' := by
  have HR := hid hr
  have HB := hid hb
  have HRM := hid rm
  have c1 := rm.n
  have c2 := rm.fn
  have hmx := hr.max
  clear hr hb rm
  go_enter Try.func49, Try.ntmps49
  go_wp2
  go_loopw [5, 12] (fun _ j wr => ∃ (q : Nat) (tp : Int), q ≤ m ∧ j = .int .i64 q ∧ 0 ≤ tp ∧ tp ≤ 9223372036854775807 ∧ Hid (RM wr w0.heap.size (n + m : Nat) tp) ∧ Hid (Below w0.heap.size w0 wr)) (fun _ j _ => m - (intOf j).toNat)
  case atStart => exact ⟨0, top, Nat.zero_le _, rfl, t0, t1, hid (by have := HRM.out.setn ((n : Int) + m); push_cast; exact this), hid (HB.out.setCell (Nat.le_succ _) _)⟩
  case round =>
    clear HRM HB c1 c2 t0 t1
    obtain ⟨q, tp, hq, rfl, t0, t1, hrm, hb⟩ := hrel
    have c1 := hrm.out.t
    have c2 := hrm.out.ft
    by_cases hlt : q < m
    · obtain ⟨b1, off1, y, rfl, hc1, hy, y0, y1⟩ := (HR.out.keep hb.out).at hlt
      by_cases hle : tp < y
      · go_wp2
        go_roundw
        case rel => exact ⟨q + 1, y, by omega, by go_num, by omega, y1, hid (hrm.out.sett y), hid (hb.out.setCell (by show w0.heap.size ≤ w0.heap.size + 1 + 1; omega) _)⟩
        case measure => simp [intOf]; omega
      · go_wp2
        go_roundw
        case rel => exact ⟨q + 1, tp, by omega, by go_num, t0, t1, hid (hrm.out.sett tp), hid (hb.out.setCell (by show w0.heap.size ≤ w0.heap.size + 1 + 1; omega) _)⟩
        case measure => simp [intOf]; omega
    · go_wp2
      go_end0
      exact ⟨rfl, hb.out, tp, t0, t1, hrm.out⟩

theorem me_at (w0 : World) (a : Option Addr) (m cap : Nat) (xs : List Int) (hr : Row w0 a m cap xs) (w : World) (hb : Below w0.heap.size w0 w) (n : Nat) (top : Int) (rm : RM w w0.heap.size n top) (hn : n + m ≤ 1000000) (t0 : 0 ≤ top) (t1 : top ≤ 9223372036854775807) :
    Calls Try.prog 49 #[.slice a m cap, .pointer (some ⟨w0.heap.size + 1, 0, none⟩), .pointer (some ⟨w0.heap.size + 1 + 1, 0, none⟩)] w fun e w' => ∃ top' : Int, e = .returned (.tuple #[]) ∧ Hid (Below w0.heap.size w0 w') ∧ Hid (RM w' w0.heap.size (n + m : Nat) top') ∧ Hid (0 ≤ top' ∧ top' ≤ 9223372036854775807) := by
  refine (measure_any w0 a m cap xs hr w hb n top rm hn t0 t1).mono fun e w' he => ?_
  obtain ⟨h1, h2, tp, h3, h4, h5⟩ := he
  exact ⟨tp, h1, h2, h5, h3, h4⟩

theorem RM.keep {w w' : World} {b : Nat} {n top : Int} (h : RM w b n top) (hb : Below w.heap.size w w') : RM w' b n top :=
  ⟨by rw [hb.block _ (blk_lt h.1)]; exact h.1, by rw [hb.block _ (blk_lt h.2.1)]; exact h.2.1, by rw [hb.block _ (blk_lt h.2.2)]; exact h.2.2⟩

theorem RM.drew {w : World} {b : Nat} {n top : Int} (h : RM w b n top) : RM w.drew b n top := h

theorem one_new (w : World) (o : Obj) : Below w.heap.size w (w.alloc o) := (Below.refl _ _).alloc (Nat.le_refl _) _

def startW (w : World) : World := ((w.alloc (.cells #[.slice none 0 0, .map none] 55)).alloc (.cells #[.int .i64 0] 3)).alloc (.cells #[.int .i64 0] 3)

theorem rm_start (w : World) : RM (((w.alloc (.cells #[.slice none 0 0, .map none] 55)).alloc (.cells #[.int .i64 0] 3)).alloc (.cells #[.int .i64 0] 3)) w.heap.size (0 : Nat) 0 ∧
    Below w.heap.size w (((w.alloc (.cells #[.slice none 0 0, .map none] 55)).alloc (.cells #[.int .i64 0] 3)).alloc (.cells #[.int .i64 0] 3)) := by
  have b1 := one_new w (.cells #[.slice none 0 0, .map none] 55)
  have b2 := one_new (w.alloc (.cells #[.slice none 0 0, .map none] 55)) (.cells #[.int .i64 0] 3)
  have b3 := one_new ((w.alloc (.cells #[.slice none 0 0, .map none] 55)).alloc (.cells #[.int .i64 0] 3)) (.cells #[.int .i64 0] 3)
  have n1 := new_same w (.cells #[.slice none 0 0, .map none] 55)
  have n2 := new_same (w.alloc (.cells #[.slice none 0 0, .map none] 55)) (.cells #[.int .i64 0] 3)
  have n3 := new_same ((w.alloc (.cells #[.slice none 0 0, .map none] 55)).alloc (.cells #[.int .i64 0] 3)) (.cells #[.int .i64 0] 3)
  have s1 : (w.alloc (.cells #[.slice none 0 0, .map none] 55)).heap.size = w.heap.size + 1 := by simp
  have s2 : ((w.alloc (.cells #[.slice none 0 0, .map none] 55)).alloc (.cells #[.int .i64 0] 3)).heap.size = w.heap.size + 1 + 1 := by simp
  rw [s1] at n2 b2
  rw [s2] at n3 b3
  refine ⟨⟨?_, ?_, n3⟩, Below.next b1 (Below.next (by rw [s1]; exact b2) (by rw [s2]; exact b3))⟩
  · rw [b3.block _ (by omega), b2.block _ (by omega)]; exact n1
  · rw [b3.block _ (by omega)]; exact n2

theorem Try.info72 : (Try.prog.info? 72).map (fun i => (i.zero, i.size, i.bytes)) = some (some (.agg #[.bool false, .int .i64 0, .int .i64 0]), 3, 24) := by kernel_rfl

theorem make63 (c : Int) (N : Nat) (hc : c = N) (hN : N ≤ 1000000) (w : World) : (Instr.makeSlice 52 (.int .i64 c) (.int .i64 c)).run Try.prog w = .ok (.slice (some ⟨w.heap.size, 0, none⟩) N N) (w.alloc (.cells (madeCells #[.bool false, .int .i64 0, .int .i64 0] (N * 3)) 72)) := by
  obtain ⟨i0, hi, hz0, hz1, hz2⟩ := info_parts Try.info72
  subst hc
  have := run_make (P := Try.prog) w 52 72 i0 (.agg #[.bool false, .int .i64 0, .int .i64 0]) Try.underlying52 hi hz0 .i64 .i64 N N (by omega) (Int.le_refl _) (by rw [hz2]; omega) (by omega)
  rw [this, hz1]
  simp [Value.cells]

theorem var_nat (l : Int) (v : Nat) (w : World) (hu : l ≤ 9223372036854775807) (h : varF l = v) : Calls Try.prog 50 #[.int .i64 l] w fun e w' => e = .returned (.int .i64 (v : Int)) ∧ Below w.heap.size w w' := by
  rw [← h]; exact var_any l w hu

def RoomEnd (w : World) (e : Ending) (w' : World) : Prop :=
  ∃ NB MB N : Nat, e = .returned (.agg #[.slice (some ⟨NB, 0, none⟩) N N, .map (some MB)]) ∧ N ≤ 1000000 ∧ w.heap.size ≤ NB ∧ w.heap.size ≤ MB ∧
    w'.heap[NB]? = some (.cells (madeCells #[.bool false, .int .i64 0, .int .i64 0] (N * 3)) 72 (0, 0)) ∧ w'.heap[MB]? = some (.map #[] 0) ∧ Below w.heap.size w w'

theorem room_res {w : World} {r : Nat} {n top : Int} (A : Array Value) (h : RM w r n top) :
    ((w.alloc (.cells A 72)).alloc (.map #[] 0)).cell? ⟨r, 0, none⟩ = some (.slice none 0 0) ∧ ((w.alloc (.cells A 72)).alloc (.map #[] 0)).cell? ⟨r, 1, none⟩ = some (.map none) ∧
    ((w.alloc (.cells A 72)).alloc (.map #[] 0)).frozen? ⟨r, 0, none⟩ = false ∧ ((w.alloc (.cells A 72)).alloc (.map #[] 0)).frozen? ⟨r, 1, none⟩ = false :=
  ((h.keep (one_new w (.cells A 72))).keep (one_new _ (.map #[] 0))).res

theorem room_got {w : World} {r : Nat} {n top : Int} (N : Nat) (A : Array Value) (h : RM w r n top) :
    ((((w.alloc (.cells A 72)).alloc (.map #[] 0)).setCell ⟨r, 0, none⟩ (.slice (some ⟨w.heap.size, 0, none⟩) N N)).setCell ⟨r, 1, none⟩ (.map (some (w.heap.size + 1)))).cell? ⟨r, 0, none⟩ = some (.slice (some ⟨w.heap.size, 0, none⟩) N N) ∧
    ((((w.alloc (.cells A 72)).alloc (.map #[] 0)).setCell ⟨r, 0, none⟩ (.slice (some ⟨w.heap.size, 0, none⟩) N N)).setCell ⟨r, 1, none⟩ (.map (some (w.heap.size + 1)))).cell? ⟨r, 1, none⟩ = some (.map (some (w.heap.size + 1))) := by
  have h1 := set_same (set_same ((h.keep (one_new w (.cells A 72))).keep (one_new _ (.map #[] 0))).1 (o := 0) (.slice (some ⟨w.heap.size, 0, none⟩) N N)) (o := 1) (.map (some (w.heap.size + 1)))
  exact ⟨by rw [cell_of h1]; rfl, by rw [cell_of h1]; rfl⟩

theorem room_end {w wr w3 : World} {N : Nat} {n top : Int} (hrm : RM wr w.heap.size n top) (hb : Below w.heap.size w wr) (hb3 : Below wr.drew.heap.size wr.drew w3) (hN : N ≤ 1000000) :
    RoomEnd w (.returned (.agg #[.slice (some ⟨w3.heap.size, 0, none⟩) N N, .map (some (w3.heap.size + 1))]))
      ((((w3.alloc (.cells (madeCells #[.bool false, .int .i64 0, .int .i64 0] (N * 3)) 72)).alloc (.map #[] 0)).setCell ⟨w.heap.size, 0, none⟩ (.slice (some ⟨w3.heap.size, 0, none⟩) N N)).setCell ⟨w.heap.size, 1, none⟩ (.map (some (w3.heap.size + 1)))) := by
  have hlt : w.heap.size < wr.heap.size := blk_lt hrm.1
  have hs3 : wr.heap.size ≤ w3.heap.size := hb3.size
  have b0 : Below w.heap.size w w3 := hb.trans ⟨hb3.os, hb3.tape, hb3.output, hb3.size, fun j hj => hb3.block j (by show j < wr.heap.size; omega)⟩
  have e1 := new_same w3 (.cells (madeCells #[.bool false, .int .i64 0, .int .i64 0] (N * 3)) 72)
  have e2 := new_same (w3.alloc (.cells (madeCells #[.bool false, .int .i64 0, .int .i64 0] (N * 3)) 72)) (.map #[] 0)
  have es : (w3.alloc (.cells (madeCells #[.bool false, .int .i64 0, .int .i64 0] (N * 3)) 72)).heap.size = w3.heap.size + 1 := by simp
  rw [es] at e2
  refine ⟨w3.heap.size, w3.heap.size + 1, N, rfl, hN, b0.size, by have := b0.size; omega, ?_, ?_, ?_⟩
  · rw [Below.heap_setCell _ _ _ _ (show w3.heap.size ≠ w.heap.size by omega), Below.heap_setCell _ _ _ _ (show w3.heap.size ≠ w.heap.size by omega), (one_new _ (.map #[] 0)).block _ (by rw [es]; omega)]
    exact e1
  · rw [Below.heap_setCell _ _ _ _ (show w3.heap.size + 1 ≠ w.heap.size by omega), Below.heap_setCell _ _ _ _ (show w3.heap.size + 1 ≠ w.heap.size by omega)]
    exact e2
  · exact (((b0.trans ((one_new w3 _).mono (by omega))).trans ((one_new _ _).mono (by rw [es]; omega))).setCell (Nat.le_refl _) _).setCell (Nat.le_refl _) _

set_option maxHeartbeats 1000000 in
theorem room_any (w : World) (la : Option Addr) (n cap : Nat) (L : List (List Int)) (gr : Grid w la n cap L) (sa : Option Addr) (sn scap : Nat) (S : List Int) (hr : Row w sa sn scap S) (hn : n ≤ 100) (hs : sn ≤ 10000) (hl : ∀ c ∈ L, c.length ≤ 1000) :
    Calls Try.prog 39 #[.slice la n cap, .slice sa sn scap] w fun e w' => RoomEnd w e w' := by
  have HGR := hid gr
  have HR := hid hr
  have HL := hid hl
  have HRM := hid (rm_start w).1
  have HB := hid (rm_start w).2
  have hmm := @run_makeMap Try.prog
  clear gr hr hl
  go_enter Try.func39, Try.ntmps39
  go_wp2_with (go_at_call 49; with_reducible (refine (me_at w sa sn scap S HR.out _ HB.out 0 0 HRM.out (by omega) (by omega) (by omega)).mono ?_); rintro e w1 ⟨tp, rfl, hb1, hrm1, htp⟩)
  go_loopw [9, 17] (fun _ j wr => ∃ (q cn : Nat) (tp : Int), q ≤ n ∧ j = .int .i64 q ∧ cn ≤ 10000 + q * 1000 ∧ Hid (0 ≤ tp ∧ tp ≤ 9223372036854775807) ∧ Hid (RM wr w.heap.size cn tp) ∧ Hid (Below w.heap.size w wr)) (fun _ j _ => n - (intOf j).toNat)
  case atStart => exact ⟨0, sn, tp, Nat.zero_le _, rfl, by omega, htp, hid (by have := hrm1.out; rwa [Nat.zero_add] at this), hb1⟩
  case round =>
    clear HRM HB hb1 hrm1 htp
    obtain ⟨q, cn, tp, hq, rfl, hcn, htp, hrm, hb⟩ := hrel
    by_cases hlt : q < n
    · obtain ⟨b1, off1, a1, m1, c1, ys, rfl, hc1, hy, hrow⟩ := HGR.out.at hlt
      have hc2 := (hb.out.cell (cell_lt hc1)).trans hc1
      have hm1 : m1 ≤ 1000 := by have := HL.out ys (List.mem_of_getElem? hy.out); have := hrow.out.1; omega
      clear hc1
      go_wp2_with (go_at_call 49; with_reducible (refine (me_at w a1 m1 c1 ys hrow.out _ hb.out cn tp hrm.out (by omega) htp.out.1 htp.out.2).mono ?_); rintro e w2 ⟨tp2, rfl, hb2, hrm2, htp2⟩)
      go_roundw
      case rel => exact ⟨q + 1, cn + m1, tp2, by omega, by go_num, by omega, htp2, hrm2, hb2⟩
      case measure => simp [intOf]; omega
    · obtain ⟨V, hV⟩ : ∃ V : Nat, varF tp = V := Int.eq_ofNat_of_zero_le (by have := htp.out.1; simp only [varF]; rw [if_neg (by omega)]; omega)
      have HV := hid hV
      have c1 := hrm.out.t
      clear hV
      have c0 := hrm.out.n
      have x1 : IntKind.i64.wrap (2 * (cn : Int)) = 2 * cn := by rw [IntKind.wrap_i64]; omega
      by_cases hVc : V ≤ 2 * cn
      · have hm1 := make63 (2 * ((V : Int) + 1)) (2 * (V + 1)) (by push_cast; omega) (by omega)
        have hVc' : (V : Int) ≤ 2 * cn := by omega
        have x2 : IntKind.i64.wrap ((V : Int) + 1) = V + 1 := by rw [IntKind.wrap_i64]; omega
        go_wp2
        go_region_with (go_at_call 50; with_reducible (refine (var_nat _ _ _ htp.out.2 HV.out).mono ?_); rintro e w3 ⟨rfl, hb3⟩; have hrm3 := hid (hrm.out.drew.keep hb3); have c2 := hrm3.out.n)
        all_goals obtain ⟨f0, f1, f2, f3⟩ := room_res (madeCells #[.bool false, .int .i64 0, .int .i64 0] (2 * (V + 1) * 3)) hrm3.out
        all_goals go_wp2
        all_goals obtain ⟨g0, g1⟩ := room_got (2 * (V + 1)) (madeCells #[.bool false, .int .i64 0, .int .i64 0] (2 * (V + 1) * 3)) hrm3.out
        all_goals refine bodyPost_ret (v := .agg #[.slice (some ⟨w3.heap.size, 0, none⟩) (2 * (V + 1)) (2 * (V + 1)), .map (some (w3.heap.size + 1))]) (by simp [results, Try.results39, go_sem, g0, g1]) rfl ?_
        all_goals exact room_end (N := 2 * (V + 1)) hrm.out hb.out hb3 (by omega)
      · have hm1 := make63 (2 * (2 * (cn : Int) + 1)) (2 * (2 * cn + 1)) (by push_cast; omega) (by omega)
        have hVc' : ¬ (V : Int) ≤ 2 * cn := by omega
        have x2 : IntKind.i64.wrap (2 * (cn : Int) + 1) = 2 * cn + 1 := by rw [IntKind.wrap_i64]; omega
        go_wp2
        go_region_with (go_at_call 50; with_reducible (refine (var_nat _ _ _ htp.out.2 HV.out).mono ?_); rintro e w3 ⟨rfl, hb3⟩; have hrm3 := hid (hrm.out.drew.keep hb3); have c2 := hrm3.out.n)
        all_goals obtain ⟨f0, f1, f2, f3⟩ := room_res (madeCells #[.bool false, .int .i64 0, .int .i64 0] (2 * (2 * cn + 1) * 3)) hrm3.out
        all_goals go_wp2
        all_goals obtain ⟨g0, g1⟩ := room_got (2 * (2 * cn + 1)) (madeCells #[.bool false, .int .i64 0, .int .i64 0] (2 * (2 * cn + 1) * 3)) hrm3.out
        all_goals refine bodyPost_ret (v := .agg #[.slice (some ⟨w3.heap.size, 0, none⟩) (2 * (2 * cn + 1)) (2 * (2 * cn + 1)), .map (some (w3.heap.size + 1))]) (by simp [results, Try.results39, go_sem, g0, g1]) rfl ?_
        all_goals exact room_end (N := 2 * (2 * cn + 1)) hrm.out hb.out hb3 (by omega)

end Go.Proofs.Ytdkkdfgaponlbaa
