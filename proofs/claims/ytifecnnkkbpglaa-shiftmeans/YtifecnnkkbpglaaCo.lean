/-
  Copies of rows: append of a row to an empty list, and of a row behind it; one number stored in a copy.
-/
import Derived.Test.YtifecnnkkbpglaaFrame
import Derived.Deep.CutRange
namespace Go.Proofs.Ytifecnnkkbpglaa
open Go.RowKit
set_option linter.unusedVariables false

theorem vq_nil (w : World) : Vq w (.pointer none) 0 := Or.inl ⟨rfl, rfl⟩

/-- An empty list that is not nil. -/
theorem own_empty {w : World} {eb B : Nat} (h : w.heap[eb]? = some (.cells #[] 3 (0, 0))) (hB : B ≤ eb) : Own w B (.slice (some ⟨eb, 0, none⟩) 0 0) [] := by
  refine ⟨⟨rfl, .inr ⟨eb, 0, #[], rfl, hB, h, Nat.le_refl _, by unfold maxLen; omega, rfl, ?_⟩⟩, fun x hx => by simp at hx⟩
  rfl

/-- A row is put behind a list of the call's own, as a step of a region that draws its order. -/
theorem step_ints {w : World} {ops : Array Oper} {o : Oper} {a : Act} {Kc : Act → World → Prop} {Q : Exit → Act → World → Prop} {G : Prop} (hgd : o.guard = none) (s x : Operand)
    (ho : o.op = .call { callee := .builtin .append, args := #[s, x], argTypes := #[29, 29] }) (B : Nat) (v : Value) (xs ys : List Int) (hs : a.eval s = v) (own : Own w B v xs)
    (ad : Addr) (m c : Nat) (hx : a.eval x = .slice (some ad) m c) (row : Row w (some ad) m c ys) (hm : 0 < m) (hbd : xs.length + m ≤ 1000000) (hB : B ≤ w.heap.size)
    (h : ∀ v' w', Hid (Own w' B v' (xs ++ ys)) → Hid (w.grownBy w' v.ownBlock) → Kc (a.put o.dst v') w') :
    if Region.wanted o (yielded ops a.tmps) = true then Oper.wp Try.prog o a w Kc Q else G := by
  have hwd : Region.wanted o (yielded ops a.tmps) = true := by simp [Region.wanted, hgd]
  rw [if_pos hwd]
  obtain ⟨i0, hi, hz0, hz1, hz2⟩ := info_parts Try.info3
  obtain ⟨ad', e, hc⟩ := row_cells row hm
  cases e
  obtain ⟨v', w', hr, h2, h3, _⟩ := run_append_own (P := Try.prog) w B 29 o.type 3 i0 (.int .i64 0) 1 8 Try.underlying29 hi hz0 hz1 hz2 rfl (by decide) v xs.length _ own.1 ad m c (ys.map (Value.int .i64)) (by rw [List.length_map, row.1, Nat.mul_one]) hc (ints_one ys) (by unfold maxLen; omega) (by omega) hB
  unfold Oper.wp execOp
  simp only [ho, resolve, invoke, builtin, Sem.run_bind, Sem.run_pure, Result.andThen_ok, List.map_toArray, List.map_cons, List.map_nil, hs, hx, hr]
  refine h v' w' (show Own w' B v' (xs ++ ys) from ⟨?_, fit_append own.2 row.2.2.2.2.1⟩) h3
  rw [List.length_append, row.1, List.map_append]
  exact h2

theorem row_blk {w : World} {b : Nat} {y : Int} (h : w.heap[b]? = some (.cells #[.int .i64 y] 3 (0, 0))) (hy : -9223372036854775808 ≤ y ∧ y ≤ 9223372036854775807) : Row w (some ⟨b, 0, none⟩) 1 1 [y] := by
  refine ⟨rfl, Nat.le_refl _, by unfold maxLen; omega, fun e => by simp at e, fun x hx => ?_, fun _ => ⟨b, 0, rfl, fun j hj => ?_⟩⟩
  · rw [List.mem_singleton] at hx; subst hx; exact hy
  · obtain rfl : j = 0 := by omega
    rw [cell_of h]; rfl

/-- Where a list of the call's own lies. -/
theorem Own.blk {w : World} {B : Nat} {v : Value} {xs : List Int} (h : Own w B v xs) (h0 : 0 < xs.length) : ∃ g cap cur, v = .slice (some ⟨g, 0, none⟩) xs.length cap ∧ B ≤ g ∧ w.heap[g]? = some (.cells cur 3 (0, 0)) ∧ xs.length ≤ cap ∧ cap ≤ maxLen ∧ ∀ (j : Nat) (x : Int), xs[j]? = some x → cur[j]? = some (.int .i64 x) := by
  rcases h.1.2 with ⟨e, hn⟩ | ⟨g, cap, cur, e, hb, hg, hl, hm, hs, ht⟩
  · omega
  · refine ⟨g, cap, cur, e, hb, hg, hl, hm, fun j x hx => ?_⟩
    have hj := (List.getElem?_eq_some_iff.1 hx).1
    have q := h.1.cells (g := g) (by rw [e]; rfl) j (.int .i64 x) (by rw [List.getElem?_map, hx]; rfl)
    have ad : (⟨g, 0, none⟩ : Addr).add j = ⟨g, j, none⟩ := by
      by_cases hz : j = 0
      · subst hz; rfl
      · simp [Addr.add, hz]
    rw [ad, cell_of hg] at q
    exact q

/-- One of its numbers is another one. -/
theorem stored {w : World} {g cap k : Nat} {cur : Array Value} {xs : List Int} {y : Int} (hg : w.heap[g]? = some (.cells cur 3 (0, 0))) (hf : Fit xs) (h1 : xs.length ≤ cap) (h2 : cap ≤ maxLen) (hc : ∀ (j : Nat) (x : Int), xs[j]? = some x → cur[j]? = some (.int .i64 x))
    (hk : k < xs.length) (hy : -9223372036854775808 ≤ y ∧ y ≤ 9223372036854775807) : Row (w.setCell ⟨g, k, none⟩ (.int .i64 y)) (some ⟨g, 0, none⟩) xs.length cap (xs.set k y) := by
  have hs := set_same (o := k) hg (.int .i64 y)
  refine ⟨by simp, h1, h2, fun e => by simp at e, fun x hx => ?_, fun _ => ⟨g, 0, rfl, fun j hj => ?_⟩⟩
  · rcases List.mem_or_eq_of_mem_set hx with hx | rfl
    · exact hf x hx
    · exact hy
  · rw [Nat.zero_add, cell_of hs]
    have hl : k < cur.size := by
      have e := hc k xs[k] (List.getElem?_eq_getElem hk)
      exact (Array.getElem?_eq_some_iff.1 e).1
    by_cases e : j = k
    · subst e
      simp [hl, hk]
    · have q := hc j xs[j] (List.getElem?_eq_getElem hj)
      rw [Array.getElem?_setIfInBounds_ne (fun q => e q.symm), q]
      rw [List.getD_eq_getElem?_getD, List.getElem?_set_ne (fun q => e q.symm), List.getElem?_eq_getElem hj]; rfl

end Go.Proofs.Ytifecnnkkbpglaa
