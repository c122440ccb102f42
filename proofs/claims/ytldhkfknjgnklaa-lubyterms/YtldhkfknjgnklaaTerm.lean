/-
  Term: the number at a place.
-/
import Derived.Test.YtldhkfknjgnklaaBack
namespace Go.Proofs.Ytldhkfknjgnklaa
open Go.RowKit Go.Shelf
set_option linter.unusedVariables false

attribute [local go_sem] Oper.semAt_some

theorem term_out (i : Int) (h : i < 1 ∨ i > 1099511627776) (w : World) :
    Calls Try.prog 6 #[.int .i64 i] w fun e w' => e = .returned (.int .i64 (termF i)) ∧ Below w.heap.size w w' := by
  rw [termF_out h]
  by_cases h1 : i < 1
  · go_enter Try.func6, Try.ntmps6
    go_wp2
    go_ret
    exact ⟨rfl, Below.refl _ _⟩
  · have h2 : 1099511627776 < i := by omega
    go_enter Try.func6, Try.ntmps6
    go_wp2
    go_ret
    exact ⟨rfl, Below.refl _ _⟩

set_option maxRecDepth 100000 in
set_option maxHeartbeats 2000000 in
theorem term_in (i : Nat) (i1 : 1 ≤ i) (i2 : i ≤ 1099511627776) (w : World) :
    CallsIn Fence.wide 5 Try.prog 6 #[.int .i64 i] w fun e w' => e = .returned (.int .i64 (luby i)) ∧ Below w.heap.size w w' := by
  refine callsIn_of_wp_marks Try.func6 rfl trivial ?_ rfl
  simp only [Try.ntmps6, List.size_toArray, List.length_cons, List.length_nil, Nat.reduceAdd, Nat.reduceSub, Array.replicate_succ, Array.replicate_zero, List.push_toArray, List.append_toArray, List.nil_append, List.cons_append]
  have b1 : ¬ (i : Int) < 1 := by omega
  have b2 : ¬ (1099511627776 : Int) < i := by omega
  gi_wp2_with (refine ⟨trivial, ?_⟩; gi_at_call 12; refine (back_in 4 _ _).mono ?_; rintro e w' ⟨rfl, rfl⟩)
  have hs := (Boxed.new w 3 (.int .i64 i)).alloc (.cells #[.int .i64 i] 3)
  have hb := Boxed.new (w.alloc (.cells #[.int .i64 i] 3)) 3 (.int .i64 i)
  rw [World.size_alloc] at hb
  have hB0 : Below w.heap.size w ((w.alloc (.cells #[.int .i64 i] 3)).alloc (.cells #[.int .i64 i] 3)) := ((Below.refl _ w).alloc (Nat.le_refl _) _).alloc (by simp) _
  refine wpIn_rangeFunc_ownF rfl (by decide) (gf := 14) (lb := #[.pointer (some ⟨w.heap.size + 1, 0, none⟩)]) rfl trivial (enters_of Try.func14 (by kernel_rfl) rfl)
    (back_stops 4 (by decide) (w.heap.size + 1) w.heap.size i i1 i2 _ (by simp) hb.cell) belowK_t (belowK_b (by simp; omega)) (Below.refl _ _) (fun _ => rfl)
    (fun pre W => (W.cell? ⟨w.heap.size, 0, none⟩ = some (.int .i64 (lastOf i pre)) ∧ W.frozen? ⟨w.heap.size, 0, none⟩ = false) ∧ Below w.heap.size w W)
    (fun _ _ _ => False)
    (OwnFrom.and (Own.from (fun s A B row hs hg hr => ⟨cell_kept hs.1 hg hr, (frozen_kept hs.1 hg hr).trans hs.2⟩) _) (ownFrom_below (Nat.le_refl _) (by simp; omega)))
    (fun _ _ _ _ _ hs _ _ => hs)
    ⟨⟨hs.cell, hs.frozen⟩, hB0⟩
    (fun x => { tmps := #[.int .i64 i, undef, .int .i64 0, .pointer (some ⟨w.heap.size, 0, none⟩), .int .i64 x, .int .i64 i, .bool false, .bool false, .int .i64 i, .bool false, .bool false, .int .i64 i, .int .i64 i, .func (.func 14) #[] #[.pointer (some ⟨w.heap.size + 1, 0, none⟩)], .int .i64 x, undef, undef, undef, undef], defers := [] }) ?assign ?body ?done ?stop
  case assign =>
    intro l x W K hK
    gi_wp2
    exact hK
  case body =>
    rintro l pre x W ⟨⟨hc, hf⟩, hB⟩ _
    gi_wp2
    exact ⟨KeepsOthers.setCell _ _ _, (Below.refl w.heap.size W).setCell (p := ⟨w.heap.size, 0, none⟩) (Nat.le_refl _) _, ⟨by rw [lastOf_snoc]; exact World.cell?_setCell_same' _ _ _ (by rw [hc]; rfl), by rw [World.frozen?_setCell]; exact hf⟩, hB.setCell (p := ⟨w.heap.size, 0, none⟩) (Nat.le_refl _) _⟩
  case done =>
    rintro D ys W hD rfl ⟨⟨hc, _⟩, hB⟩ hK
    obtain ⟨f, e1, e2, e3⟩ := last_chain i
    rw [e1] at hc
    have e4 : ((f : Int) + 1) / 2 = (luby i : Int) := by omega
    clear e1 e3
    gi_wp2
    refine ⟨by simp, .inl ⟨_, _, rfl, run_takeDeferred hK, ?_⟩⟩
    exact ⟨_, results_tmp rfl _ _ _, by rw [← e4]; simp, hB.trans (belowK_b (w := w) (Nat.le_refl _) W D _ _ (by simp at hD; omega) hK rfl rfl)⟩
  case stop =>
    rintro D c pre W _ _ h _
    exact h.elim

theorem term_any (i : Int) (w : World) :
    Calls Try.prog 6 #[.int .i64 i] w fun e w' => e = .returned (.int .i64 (termF i)) ∧ Below w.heap.size w w' := by
  by_cases h : i < 1 ∨ i > 1099511627776
  · exact term_out i h w
  · obtain ⟨k, rfl⟩ : ∃ k : Nat, i = k := ⟨i.toNat, by omega⟩
    have c := callsIn_wide.1 (term_in k (by omega) (by omega) w)
    rw [← termF_in (by omega) (by omega)] at c
    exact c

end Go.Proofs.Ytldhkfknjgnklaa
