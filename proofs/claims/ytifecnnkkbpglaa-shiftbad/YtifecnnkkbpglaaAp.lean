/-
  append of one value to a list of the call's own, and in which block the list then lies.
-/
import Derived.Test.YtifecnnkkbpglaaGm
namespace Go.Proofs.Ytifecnnkkbpglaa
open Go.RowKit
set_option linter.unusedVariables false

/-- The list lies where it lay, or in a new block. -/
def Lies (w : World) (v v' : Value) : Prop := ∀ j, v'.ownBlock = some j → v.ownBlock = some j ∨ w.heap.size ≤ j

theorem lies_mono {w w1 : World} {v v' : Value} (h : Lies w v v') (hs : w1.heap.size ≤ w.heap.size) : Lies w1 v v' := fun j hj => or_map (h j hj) id (fun q => by omega)

theorem app_own {w : World} (T E ty : TypeId) (hT : Try.prog.underlying T = some (.slice E)) (z : Value) (sz by_ : Nat) (hz : z.cells.size = sz) (h0 : 0 < sz)
    (hE : (Try.prog.info? E).map (fun i => (i.zero, i.size, i.bytes)) = some (some z, sz, by_)) (hby : by_ ≤ 32)
    (C n : Nat) (v : Value) (xs : List Value) (own : w.ownsRow C E sz v n xs) (ad : Addr) (us : List Value) (hl : us.length = sz) (hu : ∀ y ∈ us, y.oneCell' = true)
    (hc : ∀ j u, us[j]? = some u → w.cell? (ad.add j) = some u) (hbd : n ≤ 100000000) (hC : C ≤ w.heap.size) :
    ∃ v' w', (Builtin.append_ #[T, T] ty #[v, .slice (some ad) 1 1]).run Try.prog w = .ok v' w' ∧ w'.ownsRow C E sz v' (n + 1) (xs ++ us) ∧ w.grownBy w' v.ownBlock ∧ Lies w v v' := by
  obtain ⟨i0, hi, hz0, hz1, hz2⟩ := info_parts hE
  have hmul : (n + 1) * by_ ≤ (n + 1) * 32 := Nat.mul_le_mul_left _ hby
  have hb : (n + 1) * i0.bytes ≤ 140737488355328 := by rw [hz2]; omega
  have hl1 : us.length = 1 * i0.size := by rw [hl, hz1]; omega
  obtain ⟨v', w', hr, h2, h3, _⟩ := run_append_own (P := Try.prog) w C T ty E i0 z sz by_ hT hi hz0 hz1 hz2 hz h0 v n xs own ad 1 1 us (by omega) hc hu (by unfold maxLen; omega) (by omega) hC
  refine ⟨v', w', hr, h2, h3, ?_⟩
  rcases own.2 with ⟨rfl, rfl⟩ | ⟨g, cap, cur, rfl, hbg, hg, hnc, hcm, hcs, htake⟩
  · have hr2 := run_append_nil (P := Try.prog) w T ty E i0 z hT hi hz0 ad 1 1 us hl1 hc (by omega) (by omega) (by omega)
    rw [hr] at hr2
    simp only [Result.ok.injEq] at hr2
    obtain ⟨rfl, _⟩ := hr2
    intro j hj
    simp [Value.ownBlock] at hj
    exact .inr (by omega)
  · by_cases hroom : n + 1 ≤ cap
    · have hfit : n * i0.size + us.length ≤ cur.size := by rw [hl, hcs, hz1]; have := Nat.mul_le_mul_right sz hroom; rw [Nat.add_mul] at this; omega
      have hr2 := run_append_room (P := Try.prog) w T ty E i0 hT hi g n cap cur hg ad 1 1 us hl1 hc hu hroom hfit
      rw [hr] at hr2
      simp only [Result.ok.injEq] at hr2
      obtain ⟨rfl, _⟩ := hr2
      intro j hj
      exact .inl hj
    · have holds : ∀ j u, xs[j]? = some u → w.cell? ((⟨g, 0, none⟩ : Addr).add j) = some u := own.cells (g := g) rfl
      have hr2 := run_append_grow (P := Try.prog) w T ty E i0 z hT hi hz0 ⟨g, 0, none⟩ n cap xs (by rw [own.1, hz1]) holds ad 1 1 us hl1 hc (by omega) (by omega) (growslice_fits (by omega) hb)
      rw [hr] at hr2
      simp only [Result.ok.injEq] at hr2
      obtain ⟨rfl, _⟩ := hr2
      intro j hj
      simp [Value.ownBlock] at hj
      exact .inr (by omega)

theorem new_cells {w : World} {us : List Value} {E : TypeId} : ∀ j u, us[j]? = some u → (w.alloc (.cells us.toArray E)).cell? ((⟨w.heap.size, 0, none⟩ : Addr).add j) = some u := by
  intro j u hj
  have e : (⟨w.heap.size, 0, none⟩ : Addr).add j = ⟨w.heap.size, j, none⟩ := by
    by_cases hz : j = 0
    · subst hz; rfl
    · simp [Addr.add, hz]
  rw [e, cell_of (new_same w _)]
  simpa using hj

/-- One value more. -/
theorem wpList_app {w w1 : World} {ops : Array Oper} {rest : List Oper} {o : Oper} {a : Act} {Q : Exit → Act → World → Prop} (hgd : o.guard = none) (s x : Operand) (T E : TypeId)
    (ho : o.op = .call { callee := .builtin .append, args := #[s, x], argTypes := #[T, T] }) (hT : Try.prog.underlying T = some (.slice E)) (z : Value) (sz by_ : Nat) (hz : z.cells.size = sz) (h0 : 0 < sz)
    (hE : (Try.prog.info? E).map (fun i => (i.zero, i.size, i.bytes)) = some (some z, sz, by_)) (hby : by_ ≤ 32)
    (us : List Value) (hw : w = w1.alloc (.cells us.toArray E)) (hl : us.length = sz) (hu : ∀ y ∈ us, y.oneCell' = true) (C n : Nat) (v : Value) (xs : List Value) (hs : a.eval s = v) (own : w1.ownsRow C E sz v n xs)
    (hx : a.eval x = .slice (some ⟨w1.heap.size, 0, none⟩) 1 1) (hbd : n ≤ 100000000) (hC : C ≤ w1.heap.size)
    (h : ∀ v' w', Hid (w'.ownsRow C E sz v' (n + 1) (xs ++ us)) → Hid (w1.grownBy w' v.ownBlock) → Hid (Lies w1 v v') → wpList Try.prog ops Q rest (a.put o.dst v') w') : wpList Try.prog ops Q (o :: rest) a w := by
  subst hw
  obtain ⟨v', w', hr, h2, h3, h4⟩ := app_own (w := w1.alloc (.cells us.toArray E)) T E o.type hT z sz by_ hz h0 hE hby C n v xs (own.alloc _) ⟨w1.heap.size, 0, none⟩ us hl hu new_cells hbd (by simp; omega)
  have g1 : w1.grownBy (w1.alloc (.cells us.toArray E)) v.ownBlock := World.grownBy_alloc _ _ _
  refine wpList_plain hgd fun _ hK => ?_
  unfold Oper.wp execOp
  simp only [ho, resolve, invoke, builtin, Sem.run_bind, Sem.run_pure, Result.andThen_ok, List.map_toArray, List.map_cons, List.map_nil, hs, hx, hr]
  exact hK _ _ (h v' w' h2 (grown_two g1 h3) (lies_mono h4 (by simp)))

/-- One value more, as a step of a region that draws its order. -/
theorem step_app {w w1 : World} {ops : Array Oper} {o : Oper} {a : Act} {Kc : Act → World → Prop} {Q : Exit → Act → World → Prop} {G : Prop} (hgd : o.guard = none) (s x : Operand) (T E : TypeId)
    (ho : o.op = .call { callee := .builtin .append, args := #[s, x], argTypes := #[T, T] }) (hT : Try.prog.underlying T = some (.slice E)) (z : Value) (sz by_ : Nat) (hz : z.cells.size = sz) (h0 : 0 < sz)
    (hE : (Try.prog.info? E).map (fun i => (i.zero, i.size, i.bytes)) = some (some z, sz, by_)) (hby : by_ ≤ 32)
    (us : List Value) (hw : w = w1.alloc (.cells us.toArray E)) (hl : us.length = sz) (hu : ∀ y ∈ us, y.oneCell' = true) (C n : Nat) (v : Value) (xs : List Value) (hs : a.eval s = v) (own : w1.ownsRow C E sz v n xs)
    (hx : a.eval x = .slice (some ⟨w1.heap.size, 0, none⟩) 1 1) (hbd : n ≤ 100000000) (hC : C ≤ w1.heap.size)
    (h : ∀ v' w', Hid (w'.ownsRow C E sz v' (n + 1) (xs ++ us)) → Hid (w1.grownBy w' v.ownBlock) → Hid (Lies w1 v v') → Kc (a.put o.dst v') w') :
    if Region.wanted o (yielded ops a.tmps) = true then Oper.wp Try.prog o a w Kc Q else G := by
  have hwd : Region.wanted o (yielded ops a.tmps) = true := by simp [Region.wanted, hgd]
  rw [if_pos hwd]
  subst hw
  obtain ⟨v', w', hr, h2, h3, h4⟩ := app_own (w := w1.alloc (.cells us.toArray E)) T E o.type hT z sz by_ hz h0 hE hby C n v xs (own.alloc _) ⟨w1.heap.size, 0, none⟩ us hl hu new_cells hbd (by simp; omega)
  have g1 : w1.grownBy (w1.alloc (.cells us.toArray E)) v.ownBlock := World.grownBy_alloc _ _ _
  unfold Oper.wp execOp
  simp only [ho, resolve, invoke, builtin, Sem.run_bind, Sem.run_pure, Result.andThen_ok, List.map_toArray, List.map_cons, List.map_nil, hs, hx, hr]
  exact h v' w' h2 (grown_two g1 h3) (lies_mono h4 (by simp))

end Go.Proofs.Ytifecnnkkbpglaa
