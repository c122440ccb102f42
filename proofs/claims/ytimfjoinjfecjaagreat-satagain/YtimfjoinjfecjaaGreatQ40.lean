/-
  What is known of a clause that was learned is kept.
-/
import Derived.Test.YtimfjoinjfecjaaGreatQ26

namespace Go.Proofs.YtimfjoinjfecjaaGreat
open Go.RowKit Go.Maps
set_option linter.unusedVariables false

section
variable {c : SC} {w0 w w' : World} {g g' : G} {s s' : SS} {m m' : MV}

set_option maxRecDepth 20000 in
set_option maxHeartbeats 2000000 in
theorem sadd_is (h : Sm c w0 g s m w) (f : Fa) (hl : s.fs.length ≤ 1000000) (hn : s.ns.length ≤ 1000000) (hf : c.fst ≤ 1000000) :
    Calls Tryz.prog 55 #[.pointer (some ⟨c.SB, 4, none⟩), .agg #[.int .i64 f.s, .int .i64 f.g, .int .i64 f.a]] w fun e w' => e = .returned (.tuple #[]) ∧ Nx c w0 w m g (saddF c s f) w' := by
  obtain ⟨fl, hfl⟩ : ∃ fl, s.fs.length = fl := ⟨_, rfl⟩
  obtain ⟨h1, k1⟩ := h.below (w' := w.alloc (.cells #[.int .i64 f.s, .int .i64 f.g, .int .i64 f.a] 105)) (by go_grown)
  have H1 := hid h1
  have K1 := hid k1
  obtain ⟨fa, fcap, efv⟩ : ∃ fa fcap, m.fv = .slice fa fl fcap := by
    rcases h.fa.1.2 with ⟨e, e2⟩ | ⟨b, cap, cur, e, _⟩
    · exact ⟨none, 0, by rw [e, ← hfl, e2]⟩
    · exact ⟨_, cap, by rw [e, hfl]⟩
  have hnl : ∀ j, m.nv.ownBlock = some j → j < w.heap.size := fun j e => (h.nu.1.lt e).2
  have e0 : (w.alloc (.cells #[.int .i64 f.s, .int .i64 f.g, .int .i64 f.a] 105)).heap[w.heap.size]? = some (.cells #[.int .i64 f.s, .int .i64 f.g, .int .i64 f.a] 105 (0, 0)) := new_same w _
  have hlt := h.sb_lt
  clear h h1 k1
  go_enter Tryz.func55, Tryz.ntmps55
  go_upto_region 1 with fail
  generalize hw1 : w.alloc (.cells #[.int .i64 f.s, .int .i64 f.g, .int .i64 f.a] 105) = w1 at *
  have hb1 := H1.out.b0.size
  obtain ⟨v5, w5, r5, o5, g5, n5⟩ := run_num (w1 := w1) (w := (w1.alloc (.cells #[.int .i64 (IntKind.i64.wrap ((c.fst : Int) + (fl : Int)))] 3)).drew) 0 (IntKind.i64.wrap ((c.fst : Int) + (fl : Int))) (by go_grown) w0.heap.size m.nv s.ns H1.out.nu.1 w1.heap.size (one_new_cell w1 _ _) hn hb1
  obtain ⟨b5, p5, rfl⟩ := own_posL o5
  have R5 : Hid (∀ ty, (Builtin.append_ #[42, 42] ty #[m.nv, .slice (some ⟨w1.heap.size, 0, none⟩) 1 1]).run Tryz.prog (w1.alloc (.cells #[.int .i64 (IntKind.i64.wrap ((c.fst : Int) + (fl : Int)))] 3)).drew = .ok (.slice (some ⟨b5, 0, none⟩) (s.ns.length + 1) p5) w5) := hid (fun ty => r5)
  rw [show IntKind.i64.wrap ((c.fst : Int) + (fl : Int)) = ((c.fst + s.fs.length : Nat) : Int) from by rw [IntKind.wrap_i64, hfl]; omega] at o5
  obtain ⟨q5, h6, k6⟩ := H1.out.addn o5 g5 n5
  have d4 := H1.out.c4
  have d5 := H1.out.c5
  have d6 := H1.out.c6
  simp only [efv] at d5
  have lt1 := H1.out.sb_lt
  have z6 : w5.cell? ⟨c.SB, 6, none⟩ = some m.nv := by rw [cell_of q5]; rfl
  have y6 : w5.frozen? ⟨c.SB, 6, none⟩ = false := frozen_of q5
  have hbx : (w5.setCell ⟨c.SB, 6, none⟩ (.slice (some ⟨b5, 0, none⟩) (s.ns.length + 1) p5)).heap[w.heap.size]? = some (.cells #[.int .i64 f.s, .int .i64 f.g, .int .i64 f.a] 105 (0, 0)) := by
    rw [set_other _ (by show _ ≠ c.SB; omega), g5.block _ (blk_lt e0) (fun e => by have := hnl _ e.symm; omega)]; exact e0
  have HX := hid hbx
  have H6 := hid h6
  have K6 := hid k6
  clear hbx q5 h6 k6 o5 g5 n5 r5
  go_region_law (refine step_of (t := 42) (v := m.nv) (u := .slice (some ⟨w1.heap.size, 0, none⟩) 1 1) rfl _ _ rfl rfl rfl (R5.out _) ?_)
  all_goals
    generalize hw6 : w5.setCell ⟨c.SB, 6, none⟩ (.slice (some ⟨b5, 0, none⟩) (s.ns.length + 1) p5) = w6 at *
    clear hw6 z6 y6 d4 d5 d6 e0 hw1 R5
    have hb6 := H6.out.b0.size
    have x0 : w6.cell? ⟨w.heap.size, 0, none⟩ = some (.int .i64 f.s) := by rw [cell_of HX.out]; rfl
    have x1 : w6.cell? ⟨w.heap.size, 1, none⟩ = some (.int .i64 f.g) := by rw [cell_of HX.out]; rfl
    have x2 : w6.cell? ⟨w.heap.size, 2, none⟩ = some (.int .i64 f.a) := by rw [cell_of HX.out]; rfl
    have hxl := blk_lt HX.out
    have hE : (w6.alloc (.cells #[.int .i64 f.s, .int .i64 f.g, .int .i64 f.a] 105)).heap[w6.heap.size]? = some (.cells #[.int .i64 f.s, .int .i64 f.g, .int .i64 f.a] 105 (0, 0)) := new_same w6 _
    obtain ⟨v7, w7, r7, o7, g7, n7⟩ := run_fact (w1 := w6) (w := (w6.alloc (.cells #[.int .i64 f.s, .int .i64 f.g, .int .i64 f.a] 105)).drew) 0 f (by go_grown) w0.heap.size m.fv s.fs H6.out.fa.1 w6.heap.size (cell_of (o := 0) hE) (cell_of (o := 1) hE) (cell_of (o := 2) hE) hl hb6
    obtain ⟨b7, p7, rfl⟩ := own_pos o7
    have R7 : Hid (∀ ty, (Builtin.append_ #[57, 57] ty #[.slice fa fl fcap, .slice (some ⟨w6.heap.size, 0, none⟩) 1 1]).run Tryz.prog (w6.alloc (.cells #[.int .i64 f.s, .int .i64 f.g, .int .i64 f.a] 105)).drew = .ok (.slice (some ⟨b7, 0, none⟩) (s.fs.length + 1) p7) w7) := hid (fun ty => by rw [← efv]; exact r7)
    obtain ⟨q7, h8, k8⟩ := H6.out.addf o7 g7 n7
    have z5 := H6.out.c5
    simp only [efv] at z5
    have y5 : w7.cell? ⟨c.SB, 5, none⟩ = some (.slice fa fl fcap) := by rw [cell_of q7, ← efv]; rfl
    have u5 : w7.frozen? ⟨c.SB, 5, none⟩ = false := frozen_of q7
    have lt6 := H6.out.sb_lt
    have HF := hid (show Nx c w0 w m g (saddF c s f) (w7.setCell ⟨c.SB, 5, none⟩ (.slice (some ⟨b7, 0, none⟩) (s.fs.length + 1) p7)) from ⟨_, h8, (K1.out.trans K6.out).trans k8⟩)
    clear H6 H1 K1 K6 HX q7 h8 k8 o7 g7 n7 r7 hE
    go_upto_region 2 with fail
    go_region_law (refine step_of (t := 57) (v := .slice fa fl fcap) (u := .slice (some ⟨w6.heap.size, 0, none⟩) 1 1) rfl _ _ rfl rfl rfl (R7.out _) ?_)
    all_goals go_end0
    all_goals exact ⟨rfl, by rw [← hfl]; exact HF.out⟩

end
end Go.Proofs.YtimfjoinjfecjaaGreat
