/-
  Whether two lists hold the same truths; the closure that tells which of two places is ahead; the sort by it.
-/
import Derived.Test.YtodhganfjeojoaaBetter
import Derived.Test.YtodhganfjeojoaaShelf
namespace Go.Proofs.Ytodhganfjeojoaa
open Go.RowKit Go.Sort
set_option linter.unusedVariables false

set_option maxHeartbeats 1000000 in
theorem bools_same (g k n c d : Nat) (B : Nat → Bool) (w : World) (h : Bls w g n B) (q : Bls w k n B) (hn : n ≤ 100) :
    Calls Try.prog 8 #[.slice (some ⟨g, 0, none⟩) n c, .slice (some ⟨k, 0, none⟩) n d] w fun e w' => e = .returned (.bool true) ∧ Hid (Below w.heap.size w w') := by
  have HR := hid h
  have GR := hid q
  clear h q
  go_enter Try.func8, Try.ntmps8
  go_wp2
  go_loopw [5] (fun i wr => ∃ k : Nat, k ≤ n ∧ i = .int .i64 k ∧ Hid (Below w.heap.size w wr)) (fun i _ => n - (intOf i).toNat)
  case atStart => exact ⟨0, Nat.zero_le _, rfl, hid (Below.refl _ _)⟩
  case round =>
    obtain ⟨j, hk, rfl, hb⟩ := hrel
    by_cases hlt : j < n
    · have hc := (HR.out.below hb.out) j hlt
      have gc := (GR.out.below hb.out) j hlt
      go_wp2
      go_region
      all_goals go_wp2
      all_goals go_roundw
      all_goals first | exact ⟨j + 1, by omega, by go_num, hid (by first | exact hb.out | exact hb.out.drew | exact hb.out.drew.drew)⟩ | (simp [intOf]; omega)
    · go_wp2
      go_ret
      exact ⟨rfl, hb⟩

section
variable {w w' : World} {ao : Option Addr} {n cap BX : Nat} {D : Nat → Dd}

theorem two_at (W : World) (a b : Int) {y : Int} (hy : orI a b = y) : Calls Try.prog 14 #[.slice (some ⟨W.heap.size, 0, none⟩) 2 2] (W.alloc (.cells #[.int .i64 a, .int .i64 b] 3)) fun e w' => e = .returned (.int .i64 y) ∧ w' = W.alloc (.cells #[.int .i64 a, .int .i64 b] 3) :=
  or2_is a b _ _ (two_new W a b).1 (two_new W a b).2 hy

theorem gr_cell {a : Addr} {v : Value} (g : Gr w w') (h : w.cell? a = some v) : w'.cell? a = some v := (g.below.cell (cell_lt h)).trans h

set_option maxHeartbeats 2000000 in
theorem closure_is (h : Deeds w ao n D) (hbx : w.cell? ⟨BX, 0, none⟩ = some (.slice ao n cap)) (x y : Nat) (hx : x < n) (hy : y < n) (hn : n ≤ 100) :
    Calls Try.prog 13 #[.int .i64 x, .int .i64 y, .pointer (some ⟨BX, 0, none⟩)] w fun e w' => e = .returned (.int .i64 (ahdC D x y)) ∧ Gr w w' := by
  obtain ⟨b, off, rfl, x0, x1, x2⟩ := h.at hx
  obtain ⟨b', off', e', y0, y1, y2⟩ := h.at hy
  cases e'
  obtain ⟨dx, ex⟩ : ∃ d, D x = d := ⟨_, rfl⟩
  obtain ⟨dy, ey⟩ : ∃ d, D y = d := ⟨_, rfl⟩
  rw [ex] at x0 x1 x2
  rw [ey] at y0 y1 y2
  obtain ⟨c1, h1⟩ : ∃ c1, cmpD dx dy = c1 := ⟨_, rfl⟩
  obtain ⟨c2, h2⟩ : ∃ c2, cmpI (x : Int) (y : Int) = c2 := ⟨_, rfl⟩
  obtain ⟨o, ho⟩ : ∃ o, orI c1 c2 = o := ⟨_, rfl⟩
  have HF : Hid (ahdC D x y = o) := hid (by unfold ahdC; rw [ex, ey, h1, h2, ho])
  have H1 := hid h1
  have H2 := hid h2
  have HO := hid ho
  clear h ex ey h1 h2 ho
  have K : Hid (∀ w2, Gr w w2 → w2.cell? ⟨BX, 0, none⟩ = some (.slice (some ⟨b, off, none⟩) n cap) ∧ w2.cell? ⟨b, off + x * 3, none⟩ = some (.int .i64 dx.s) ∧ w2.cell? ⟨b, off + x * 3 + 1, none⟩ = some (.int .i64 dx.g) ∧ w2.cell? ⟨b, off + x * 3 + 2, none⟩ = some (.int .i64 dx.a) ∧ w2.cell? ⟨b, off + y * 3, none⟩ = some (.int .i64 dy.s) ∧ w2.cell? ⟨b, off + y * 3 + 1, none⟩ = some (.int .i64 dy.g) ∧ w2.cell? ⟨b, off + y * 3 + 2, none⟩ = some (.int .i64 dy.a)) :=
    hid (fun w2 g => ⟨gr_cell g hbx, gr_cell g x0, gr_cell g x1, gr_cell g x2, gr_cell g y0, gr_cell g y1, gr_cell g y2⟩)
  have hxn : (x : Int) < (n : Int) := by omega
  have hyn : (y : Int) < (n : Int) := by omega
  go_enter Try.func13, Try.ntmps13
  go_upto_region 1 with fail
  go_region_held3 (fun W => W.cell? ⟨BX, 0, none⟩ = some (.slice (some ⟨b, off, none⟩) n cap) ∧ W.cell? ⟨b, off + x * 3, none⟩ = some (.int .i64 dx.s) ∧ W.cell? ⟨b, off + x * 3 + 1, none⟩ = some (.int .i64 dx.g) ∧ W.cell? ⟨b, off + x * 3 + 2, none⟩ = some (.int .i64 dx.a) ∧ W.cell? ⟨b, off + y * 3, none⟩ = some (.int .i64 dy.s) ∧ W.cell? ⟨b, off + y * 3 + 1, none⟩ = some (.int .i64 dy.g) ∧ W.cell? ⟨b, off + y * 3 + 2, none⟩ = some (.int .i64 dy.a)) (first | exact K.out _ (Gr.drew w) | exact K.out _ G2.out | exact K.out _ (G2.out.trans (Gr.alloc _ _))) (first
    | (go_at_call 11; with_reducible (refine (cmpD_is dx dy _ H1.out).mono ?_); rintro e w2 ⟨rfl, b2⟩; have G2 := hid ((Gr.drew w).trans b2.out))
    | (go_at_call 15; with_reducible (refine (compare_is _ _ _ H2.out).mono ?_); rintro e w9 ⟨rfl, rfl⟩)
    | (go_at_call 14; with_reducible (refine (two_at _ c1 c2 HO.out).mono ?_); rintro e w9 ⟨rfl, rfl⟩))
  all_goals go_wp2_with fail
  all_goals go_ret
  all_goals exact ⟨by rw [HF.out]; rfl, G2.out.trans (Gr.alloc _ _)⟩

end

end Go.Proofs.Ytodhganfjeojoaa
