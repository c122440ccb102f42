/-
  A list of clauses, copied and with one clause more.
-/
import Derived.Test.YtogjafmpoepgbaaAwake
import Derived.Laws.AppendOwnNone
namespace Go.Proofs.Ytogjafmpoepgbaa
open Go.RowKit
set_option linter.unusedVariables false

theorem Try.info41 : (Try.prog.info? 41).map (fun i => (i.zero, i.size, i.bytes)) = some (some (.slice none 0 0), 1, 24) := by kernel_rfl

/-- The values are lists that lie in memory. -/
def GV (w : World) (vs : List Value) (xss : List (List Int)) : Prop := vs.length = xss.length ∧ ∀ j, j < vs.length → ∃ a m c, vs[j]? = some (.slice a m c) ∧ Row w a m c (xss.getD j [])

theorem GV.keep {w w' : World} {vs : List Value} {xss : List (List Int)} (h : GV w vs xss) (b : Below w.heap.size w w') : GV w' vs xss := by
  refine ⟨h.1, fun j hj => ?_⟩
  obtain ⟨a, m, c, h1, h2⟩ := h.2 j hj
  exact ⟨a, m, c, h1, h2.keep b⟩

theorem Grid.vals {w : World} {ao : Option Addr} {n cap : Nat} {xss : List (List Int)} (h : Grid w ao n cap xss) : ∃ vs, vs.length = n ∧ GV w vs xss ∧ (0 < n → ∃ ad, ao = some ad ∧ ∀ j u, vs[j]? = some u → w.cell? (ad.add j) = some u) := by
  by_cases h0 : 0 < n
  · obtain ⟨b, off, e, hc⟩ := h.2.2.2.2 h0
    refine ⟨(List.range n).map fun j => (w.cell? ⟨b, off + j, none⟩).getD undef, by simp, ⟨by simp [h.1], fun j hj => ?_⟩, fun _ => ⟨_, e, fun j u hj => ?_⟩⟩
    · have hj2 : j < n := by simpa using hj
      obtain ⟨a, m, c, h1, h2⟩ := hc j hj2
      exact ⟨a, m, c, by simp [hj2, h1], h2⟩
    · have hj2 : j < n := by
        have := (List.getElem?_eq_some_iff.1 hj).1; simpa using this
      obtain ⟨a, m, c, h1, h2⟩ := hc j hj2
      simp [hj2, h1] at hj
      rw [← hj, ← h1]
      congr 1
      by_cases hz : j = 0
      · subst hz; rfl
      · simp [Addr.add, hz]
  · refine ⟨[], by simp; omega, ⟨by have := h.1; simp; omega, fun j hj => by simp at hj⟩, fun h => absurd h h0⟩

theorem own_grid {w : World} {B : Nat} {v : Value} {vs : List Value} {xss : List (List Int)} (own : w.ownsRow B 41 1 v vs.length vs) (g : GV w vs xss) : ∃ ao c, v = .slice ao vs.length c ∧ Grid w ao vs.length c xss := by
  rcases own.2 with ⟨rfl, hn⟩ | ⟨gb, cap, cur, rfl, hb, hg, hl, hm, rest⟩
  · rw [hn]
    refine ⟨none, 0, rfl, ⟨by have := g.1; omega, Nat.le_refl _, by unfold maxLen; omega, fun _ => rfl, fun h => by omega⟩⟩
  · refine ⟨_, _, rfl, g.1.symm, hl, hm, fun h => by simp at h, fun _ => ⟨gb, 0, rfl, fun j hj => ?_⟩⟩
    obtain ⟨a, m, c, h1, h2⟩ := g.2 j hj
    have h3 : w.ownsRow B 41 1 (.slice (some ⟨gb, 0, none⟩) vs.length cap) vs.length vs := own
    refine ⟨a, m, c, ?_, h2⟩
    rw [Nat.zero_add, h3.cellAt j (by omega)]
    exact h1

theorem append_grid {w : World} {ops : Array Oper} {rest : List Oper} {o : Oper} {a : Act} {Q : Exit → Act → World → Prop} (hgd : o.guard = none) (s x : Operand)
    (ho : o.op = .call { callee := .builtin .append, args := #[s, x], argTypes := #[22, 22] }) (w0 : World) (hw : w = w0.alloc (.cells #[] 41)) (hs : a.eval s = .slice (some ⟨w0.heap.size, 0, none⟩) 0 0)
    (ao : Option Addr) (n c : Nat) (hx : a.eval x = .slice ao n c) (xss : List (List Int)) (gr : Grid w0 ao n c xss) (hbd : n ≤ 1000)
    (h : ∀ vs v' w', vs.length = n → Hid (GV w0 vs xss) → Hid (w'.ownsRow w0.heap.size 41 1 v' vs.length vs) → Hid (Below w0.heap.size w0 w') → wpList Try.prog ops Q rest (a.put o.dst v') w') : wpList Try.prog ops Q (o :: rest) a w := by
  subst hw
  obtain ⟨i0, hi, hz0, hz1, hz2⟩ := info_parts Try.info41
  have gr1 := gr.keep (one_new w0 (.cells #[] 41))
  have own : (w0.alloc (.cells #[] 41)).ownsRow w0.heap.size 41 1 (.slice (some ⟨w0.heap.size, 0, none⟩) 0 0) 0 [] := by
    refine ⟨rfl, .inr ⟨w0.heap.size, 0, #[], rfl, Nat.le_refl _, ?_, Nat.le_refl _, by unfold maxLen; omega, rfl, rfl⟩⟩
    show (w0.heap.push _)[w0.heap.size]? = _; simp
  obtain ⟨vs, hl, gv, hc⟩ := gr1.vals
  have gv0 : GV w0 vs xss := by
    refine ⟨gv.1, fun j hj => ?_⟩
    obtain ⟨b, off, e, hc0⟩ := gr.2.2.2.2 (by omega)
    obtain ⟨b1, off1, e1, hc1⟩ := gr1.2.2.2.2 (by omega)
    obtain ⟨a1, m1, c1, h1, h2⟩ := hc0 j (by omega)
    obtain ⟨a2, m2, c2, h3, h4⟩ := gv.2 j hj
    obtain ⟨ad, ea, hca⟩ := hc (by omega)
    have h5 := hca j _ h3
    rw [e] at ea
    cases ea
    have h6 : (w0.alloc (.cells #[] 41)).cell? ⟨b, off + j, none⟩ = some (.slice a1 m1 c1) := by
      rw [(one_new w0 (.cells #[] 41)).cell (cell_lt h1)]; exact h1
    have h7 : (⟨b, off, none⟩ : Addr).add j = ⟨b, off + j, none⟩ := by
      by_cases hz : j = 0
      · subst hz; rfl
      · simp [Addr.add, hz]
    rw [h7, h6] at h5
    simp only [Option.some.injEq, Value.slice.injEq] at h5
    obtain ⟨rfl, rfl, rfl⟩ := h5
    exact ⟨_, _, _, h3, h2⟩
  have hbel : ∀ {w'}, (w0.alloc (.cells #[] 41)).grownBy w' (some w0.heap.size) → Below w0.heap.size w0 w' := fun hg => (one_new _ _).grown hg (by simp) fun k hk => by cases hk; exact Nat.le_refl _
  by_cases h0 : n = 0
  · subst h0
    have e : vs = [] := List.eq_nil_of_length_eq_zero hl
    subst e
    cases ao with
    | none =>
      have ec := gr.2.2.2.1 rfl
      subst ec
      refine wpList_append_own_none hgd s x 22 ho w0.heap.size 41 i0 1 Try.underlying22 hi _ 0 _ hs own hx ?_
      exact h [] _ _ rfl gv0 own (one_new _ _)
    | some ad =>
      refine wpList_append_own (P := Try.prog) (w := w0.alloc (.cells #[] 41)) hgd s x 22 ho w0.heap.size 41 i0 (.slice none 0 0) 1 24 Try.underlying22 hi hz0 hz1 hz2 rfl (by decide) _ 0 _ hs own ad 0 c [] hx rfl (fun j u hj => by simp at hj) (fun u hu => by simp at hu) (by unfold maxLen; omega) (by omega) (by simp) ?_
      intro v' w' h1 h2 _
      exact h [] v' w' rfl gv0 (hid (by simpa using h1)) (hbel h2)
  · obtain ⟨ad, rfl, hca⟩ := hc (by omega)
    refine wpList_append_own (P := Try.prog) (w := w0.alloc (.cells #[] 41)) hgd s x 22 ho w0.heap.size 41 i0 (.slice none 0 0) 1 24 Try.underlying22 hi hz0 hz1 hz2 rfl (by decide) _ 0 _ hs own ad n c vs hx (by rw [hl, Nat.mul_one]) hca ?_ (by unfold maxLen; omega) (by omega) (by simp) ?_
    · intro u hu
      obtain ⟨j, hj, e⟩ := List.mem_iff_getElem.1 hu
      obtain ⟨a2, m2, c2, h3, _⟩ := gv.2 j hj
      rw [List.getElem?_eq_getElem hj, e] at h3
      simp only [Option.some.injEq] at h3
      rw [h3]; rfl
    · intro v' w' h1 h2 _
      exact h vs v' w' hl gv0 (hid (by rw [hl]; simpa using h1)) (hbel h2)

theorem append_one {w w1 : World} {ops : Array Oper} {rest : List Oper} {o : Oper} {a : Act} {Q : Exit → Act → World → Prop} (hgd : o.guard = none) (s x : Operand)
    (ho : o.op = .call { callee := .builtin .append, args := #[s, x], argTypes := #[22, 22] }) (w0 : World) (y : Int) (hw : w = (w1.alloc (.cells #[.int .i64 y] 3)).alloc (.cells #[.slice (some ⟨w1.heap.size, 0, none⟩) 1 1] 41))
    (n : Nat) (v : Value) (vs : List Value) (xss : List (List Int)) (hs : a.eval s = v) (hl : vs.length = n) (gv : GV w0 vs xss) (own : w1.ownsRow w0.heap.size 41 1 v vs.length vs) (bel : Below w0.heap.size w0 w1)
    (hx : a.eval x = .slice (some ⟨w1.heap.size + 1, 0, none⟩) 1 1) (hbd : n ≤ 1000) (y0 : -9223372036854775808 ≤ y) (y1 : y ≤ 9223372036854775807)
    (h : ∀ ao c w', Hid (Grid w' ao (n + 1) c (xss ++ [[y]])) → Hid (Below w0.heap.size w0 w') → wpList Try.prog ops Q rest (a.put o.dst (.slice ao (n + 1) c)) w') : wpList Try.prog ops Q (o :: rest) a w := by
  subst hw
  obtain ⟨i0, hi, hz0, hz1, hz2⟩ := info_parts Try.info41
  have hsz := bel.size
  have own2 := (own.alloc (.cells #[.int .i64 y] 3)).alloc (.cells #[.slice (some ⟨w1.heap.size, 0, none⟩) 1 1] 41)
  refine wpList_append_own (P := Try.prog) (w := (w1.alloc (.cells #[.int .i64 y] 3)).alloc (.cells #[.slice (some ⟨w1.heap.size, 0, none⟩) 1 1] 41)) hgd s x 22 ho w0.heap.size 41 i0 (.slice none 0 0) 1 24 Try.underlying22 hi hz0 hz1 hz2 rfl (by decide) v vs.length vs hs own2 ⟨w1.heap.size + 1, 0, none⟩ 1 1 [.slice (some ⟨w1.heap.size, 0, none⟩) 1 1] hx rfl ?_ ?_ (by unfold maxLen; omega) (by omega) (by simp; omega) ?_
  · intro j u hj
    match j, hj with
    | 0, hj => simp at hj; subst hj; simp [Addr.add]
  · intro u hu
    rw [List.mem_singleton] at hu; subst hu; rfl
  · intro v' w' h1 h2 _
    have hb2 : Below w0.heap.size w0 w' := (bel.trans ((two_new w1 (.cells #[.int .i64 y] 3) (.cells #[.slice (some ⟨w1.heap.size, 0, none⟩) 1 1] 41)).mono hsz)).grown h2 (by simp; omega) fun k hk => (own.lt k hk).1
    have hy : Row w' (some ⟨w1.heap.size, 0, none⟩) 1 1 [y] := by
      have r0 := (rowL w1 [y] (fun z hz => by rw [List.mem_singleton] at hz; subst hz; exact ⟨y0, y1⟩) (by simp)).keep (one_new _ (.cells #[.slice (some ⟨w1.heap.size, 0, none⟩) 1 1] 41))
      refine ⟨rfl, Nat.le_refl _, by unfold maxLen; omega, fun h => by simp at h, r0.2.2.2.2.1, fun _ => ⟨w1.heap.size, 0, rfl, fun j hj => ?_⟩⟩
      obtain ⟨b, off, e, hc⟩ := r0.2.2.2.2.2 (by simp)
      cases e
      rw [World.cell?_of_block (w := (w1.alloc (.cells #[.int .i64 y] 3)).alloc (.cells #[.slice (some ⟨w1.heap.size, 0, none⟩) 1 1] 41)) (h2.block _ (by simp; omega) (fun e => by have := (own.lt _ e.symm).2; simp at this))]
      exact hc j hj
    have gv2 : GV w' (vs ++ [.slice (some ⟨w1.heap.size, 0, none⟩) 1 1]) (xss ++ [[y]]) := by
      refine ⟨by simp [gv.1], fun j hj => ?_⟩
      by_cases hjl : j < vs.length
      · obtain ⟨a1, m1, c1, e1, e2⟩ := (gv.keep hb2).2 j hjl
        refine ⟨a1, m1, c1, by rw [List.getElem?_append_left hjl]; exact e1, ?_⟩
        have : (xss ++ [[y]]).getD j [] = xss.getD j [] := by
          simp only [List.getD_eq_getElem?_getD]; rw [List.getElem?_append_left (by rw [← gv.1]; exact hjl)]
        rw [this]; exact e2
      · have ej : j = vs.length := by simp at hj; omega
        subst ej
        refine ⟨some ⟨w1.heap.size, 0, none⟩, 1, 1, by simp, ?_⟩
        have : (xss ++ [[y]]).getD vs.length [] = [y] := by rw [gv.1]; simp
        rw [this]; exact hy
    have h1' : w'.ownsRow w0.heap.size 41 1 v' (vs ++ [Value.slice (some ⟨w1.heap.size, 0, none⟩) 1 1]).length (vs ++ [Value.slice (some ⟨w1.heap.size, 0, none⟩) 1 1]) := by simpa using h1
    obtain ⟨ao, c, rfl, gg⟩ := own_grid h1' gv2
    have el : (vs ++ [Value.slice (some ⟨w1.heap.size, 0, none⟩) 1 1]).length = n + 1 := by simp [hl]
    rw [el] at gg ⊢
    exact h ao c w' gg hb2

/-! ### The counts of the two parts -/
theorem chk_ok {v : Nat} {xss : List (List Int)} (h : chkF v xss = 0) : badG v xss = false ∧ ¬ 1048576 < xss.length ∧ ¬ (1048576 : Int) < v := by
  by_cases h0 : (v : Int) < 0 ∨ (1048576 : Int) < v
  · rw [chk_low xss h0] at h; simp at h
  · have h1 : ¬ 1048576 < xss.length := by
      intro h1
      rw [chk_many (by omega) (by omega) h1] at h; simp at h
    refine ⟨?_, h1, by omega⟩
    cases e : badG v xss
    · rfl
    · rw [chk_bad (by omega) (by omega) h1 e] at h; simp at h

theorem may_more {v : Nat} {xss : List (List Int)} (h : chkF v xss = 0) (hv : v ≤ 8) (hl : xss.length ≤ 1000) (y : Int) (y0 : 0 ≤ y) (y1 : y / 2 < v) : mayF v (xss ++ [[y]]) = 0 := by
  obtain ⟨h1, h2, h3⟩ := chk_ok h
  have hy : ¬ y < 0 := by omega
  have e : varF y = y / 2 := by simp [varF, hy]
  have hb : badG v (xss ++ [[y]]) = false := by
    simp only [badG, List.any_append, Bool.or_eq_false_iff]
    refine ⟨h1, ?_⟩
    have a1 : ¬ y / 2 < 0 := by omega
    have a2 : ¬ (v : Int) ≤ y / 2 := by omega
    simp [badC, badV, e, a1, a2]
  exact may_good (chk_good (by omega) h3 (by simp; omega) hb) (by omega)

theorem parts_fact {v y : Nat} {xss : List (List Int)} (h : chkF v xss = 0) (hv : v ≤ 8) (hl : xss.length ≤ 1000) (hy : y < v) :
    ∃ c1 c2 c3 : Nat, cntI v (xss ++ [[2 * (y : Int)]]) = c1 ∧ cntI v (xss ++ [[2 * (y : Int) + 1]]) = c2 ∧ cntI v xss = c3 ∧ c1 + c2 = c3 ∧ c3 ≤ 65536 := by
  refine ⟨_, _, _, cnt_good (may_more h hv hl _ (by omega) (by omega)), cnt_good (may_more h hv hl _ (by omega) (by omega)), cnt_good (may_good h (by omega)), parts_sum v xss _ (by omega) (by omega) _, ?_⟩
  exact Nat.le_trans (cnt_le _ _) (Nat.pow_le_pow_right (n := 2) (by omega) (show v ≤ 16 by omega))

end Go.Proofs.Ytogjafmpoepgbaa
