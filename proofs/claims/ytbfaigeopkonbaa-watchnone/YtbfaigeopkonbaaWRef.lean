/-
  The document's watch: its clauses, one behind the other, and whether each is there.
-/
import Derived.Test.YtbfaigeopkonbaaWRem
import Derived.Test.YtbfaigeopkonbaaMU2
import Derived.WalkSpells
namespace Go.Proofs.Ytbfaigeopkonbaa
open Go.RowKit Go.Maps
set_option linter.unusedVariables false

theorem Try.info36 : (Try.prog.info? 36).map (fun i => (i.zero, i.size, i.bytes)) = some (some (.slice none 0 0), 1, 24) := by kernel_rfl
theorem Try.info4 : (Try.prog.info? 4).map (fun i => (i.zero, i.size, i.bytes)) = some (some (.bool false), 1, 1) := by kernel_rfl

theorem rown_low {w : World} {base base' : Nat} {E : TypeId} {sz : Nat} {v : Value} {n : Nat} {xs : List Value} (h : w.ownsRow base E sz v n xs) (hb : base' ≤ base) : w.ownsRow base' E sz v n xs := by
  obtain ⟨h0, h⟩ := h
  refine ⟨h0, ?_⟩
  rcases h with h | ⟨g, cap, cur, e, h1, rest⟩
  · exact .inl h
  · exact .inr ⟨g, cap, cur, e, Nat.le_trans hb h1, rest⟩

theorem rown_same {w w' : World} {base : Nat} {E : TypeId} {sz : Nat} {v : Value} {n : Nat} {xs : List Value} (h : w.ownsRow base E sz v n xs) (hb : ∀ j, v.ownBlock = some j → Typ w j E → w'.heap[j]? = w.heap[j]?) : w'.ownsRow base E sz v n xs := by
  obtain ⟨h0, h⟩ := h
  refine ⟨h0, ?_⟩
  rcases h with h | ⟨g, cap, cur, rfl, h1, h2, rest⟩
  · exact .inl h
  · exact .inr ⟨g, cap, cur, rfl, h1, by rw [hb g rfl ⟨_, _, h2⟩]; exact h2, rest⟩

theorem rown_shape {w : World} {base : Nat} {E : TypeId} {sz : Nat} {v : Value} {n : Nat} {xs : List Value} (h : w.ownsRow base E sz v n xs) : ∃ ao cap, v = .slice ao n cap ∧ n ≤ cap ∧ cap ≤ maxLen ∧ (ao = none → cap = 0) := by
  rcases h.2 with ⟨rfl, h'⟩ | ⟨b, cap, cur, rfl, _, _, h1, h2, _⟩
  · exact ⟨none, 0, by rw [h'], by omega, by unfold maxLen; omega, fun _ => rfl⟩
  · exact ⟨_, _, rfl, h1, h2, fun e => by cases e⟩

theorem rown_at {w : World} {base : Nat} {E : TypeId} {ao : Option Addr} {n cap : Nat} {xs : List Value} (h : w.ownsRow base E 1 (.slice ao n cap) n xs) {i : Nat} {x : Value} (hx : xs[i]? = some x) : ∃ b, ao = some ⟨b, 0, none⟩ ∧ w.cell? ⟨b, i, none⟩ = some x ∧ w.frozen? ⟨b, i, none⟩ = false ∧ base ≤ b := by
  obtain ⟨h0, h⟩ := h
  have hi := (List.getElem?_eq_some_iff.1 hx).1
  rcases h with ⟨e, h⟩ | ⟨b, cap, cur, e, hb, hg, h1, h2, h3, h4⟩
  · rw [h0, h] at hi; omega
  · cases e
    refine ⟨b, rfl, ?_, frozen_of hg, hb⟩
    rw [cell_of hg]
    rw [Nat.mul_one] at h0 h4
    have : (cur.toList.take n)[i]? = some x := by rw [h4]; exact hx
    rw [List.getElem?_take_of_lt (by omega)] at this
    simpa using this

/-- A list behind none: a copy. -/
theorem copy36 {w : World} {ops : Array Oper} {rest : List Oper} {o : Oper} {a : Act} {Q : Exit → Act → World → Prop} (hgd : o.guard = none) (s x : Operand)
    (ho : o.op = .call { callee := .builtin .append, args := #[s, x], argTypes := #[29, 29] }) (hs : a.eval s = .slice none 0 0) (v : Value) (hx : a.eval x = v) (B n : Nat) (vs : List Value) (own : w.ownsRow B 36 1 v n vs) (hone : ∀ u ∈ vs, u.oneCell' = true) (hbd : n ≤ 1000000)
    (h : ∀ v' w', Hid (w'.ownsRow w.heap.size 36 1 v' n vs) → Hid (Below w.heap.size w w') → wpList Try.prog ops Q rest (a.put o.dst v') w') : wpList Try.prog ops Q (o :: rest) a w := by
  obtain ⟨i0, hi, hz0, hz1, hz2⟩ := info_parts Try.info36
  have own2 := own.2
  have own1 := own.1
  rcases own2 with ⟨rfl, rfl⟩ | ⟨g, cap, cur, rfl, hb, hg, h2, h3, h4, h5⟩
  · have ex : vs = [] := List.eq_nil_of_length_eq_zero (by simpa using own1)
    subst ex
    refine wpList_append_own_none hgd s x 29 ho w.heap.size 36 i0 1 Try.underlying29 hi (.slice none 0 0) 0 [] hs (World.ownsRow_nil _ _ _ _) hx ?_
    exact h _ w (World.ownsRow_nil _ _ _ _) (Below.refl _ _)
  · refine wpList_append_own (P := Try.prog) (w := w) hgd s x 29 ho w.heap.size 36 i0 (.slice none 0 0) 1 24 Try.underlying29 hi hz0 hz1 hz2 rfl (by omega) (.slice none 0 0) 0 [] hs (World.ownsRow_nil _ _ _ _) ⟨g, 0, none⟩ n cap vs hx own1 ?_ hone (by unfold maxLen; omega) (by omega) (Nat.le_refl _) ?_
    · intro j u hj
      obtain ⟨b, e, hc, _⟩ := rown_at own hj
      cases e
      rw [add_at, Nat.zero_add]; exact hc
    · intro v' w' h6 h7 _
      refine h v' w' (by rw [Nat.zero_add, List.nil_append] at h6; exact h6) ?_
      exact below_grown h7 (fun j hj => by cases hj) (Nat.le_refl _)

/-- One more. -/
theorem one36 {w w1 : World} {ops : Array Oper} {rest : List Oper} {o : Oper} {a : Act} {Q : Exit → Act → World → Prop} (hgd : o.guard = none) (s x : Operand)
    (ho : o.op = .call { callee := .builtin .append, args := #[s, x], argTypes := #[29, 29] }) (y : Value) (hy : y.oneCell' = true) (hw : w = w1.alloc (.cells #[y] 36)) (B n : Nat) (v : Value) (vs : List Value) (hs : a.eval s = v) (own : w1.ownsRow B 36 1 v n vs)
    (q : Nat) (hx : a.eval x = .slice (some ⟨q, 0, none⟩) 1 1) (hq : q = w1.heap.size) (hbd : n ≤ 1000000) (hB : B ≤ w1.heap.size)
    (h : ∀ v' w', Hid (w'.ownsRow B 36 1 v' (n + 1) (vs ++ [y])) → Hid (Below B w1 w') → wpList Try.prog ops Q rest (a.put o.dst v') w') : wpList Try.prog ops Q (o :: rest) a w := by
  subst hw hq
  obtain ⟨i0, hi, hz0, hz1, hz2⟩ := info_parts Try.info36
  refine wpList_append_own (P := Try.prog) (w := w1.alloc (.cells #[y] 36)) hgd s x 29 ho B 36 i0 (.slice none 0 0) 1 24 Try.underlying29 hi hz0 hz1 hz2 rfl (by omega) v n vs hs (own.alloc _) ⟨w1.heap.size, 0, none⟩ 1 1 [y] hx rfl ?_ (by simpa using hy) (by unfold maxLen; omega) (by omega) (by simp; omega) ?_
  · intro j u hj
    rw [add_at, cell_of (new_same w1 _), Nat.zero_add]
    simpa using hj
  · intro v' w' h6 h7 _
    refine h v' w' h6 ?_
    exact below_grown (grown_two (grown_new w1 _ _) h7) (fun j hj => (own_lt own hj).1) hB

/-- A list behind none: a copy. -/
theorem copy4 {w : World} {ops : Array Oper} {rest : List Oper} {o : Oper} {a : Act} {Q : Exit → Act → World → Prop} (hgd : o.guard = none) (s x : Operand)
    (ho : o.op = .call { callee := .builtin .append, args := #[s, x], argTypes := #[30, 30] }) (hs : a.eval s = .slice none 0 0) (v : Value) (hx : a.eval x = v) (B n : Nat) (vs : List Value) (own : w.ownsRow B 4 1 v n vs) (hone : ∀ u ∈ vs, u.oneCell' = true) (hbd : n ≤ 1000000)
    (h : ∀ v' w', Hid (w'.ownsRow w.heap.size 4 1 v' n vs) → Hid (Below w.heap.size w w') → wpList Try.prog ops Q rest (a.put o.dst v') w') : wpList Try.prog ops Q (o :: rest) a w := by
  obtain ⟨i0, hi, hz0, hz1, hz2⟩ := info_parts Try.info4
  have own2 := own.2
  have own1 := own.1
  rcases own2 with ⟨rfl, rfl⟩ | ⟨g, cap, cur, rfl, hb, hg, h2, h3, h4, h5⟩
  · have ex : vs = [] := List.eq_nil_of_length_eq_zero (by simpa using own1)
    subst ex
    refine wpList_append_own_none hgd s x 30 ho w.heap.size 4 i0 1 Try.underlying30 hi (.slice none 0 0) 0 [] hs (World.ownsRow_nil _ _ _ _) hx ?_
    exact h _ w (World.ownsRow_nil _ _ _ _) (Below.refl _ _)
  · refine wpList_append_own (P := Try.prog) (w := w) hgd s x 30 ho w.heap.size 4 i0 (.bool false) 1 1 Try.underlying30 hi hz0 hz1 hz2 rfl (by omega) (.slice none 0 0) 0 [] hs (World.ownsRow_nil _ _ _ _) ⟨g, 0, none⟩ n cap vs hx own1 ?_ hone (by unfold maxLen; omega) (by omega) (Nat.le_refl _) ?_
    · intro j u hj
      obtain ⟨b, e, hc, _⟩ := rown_at own hj
      cases e
      rw [add_at, Nat.zero_add]; exact hc
    · intro v' w' h6 h7 _
      refine h v' w' (by rw [Nat.zero_add, List.nil_append] at h6; exact h6) ?_
      exact below_grown h7 (fun j hj => by cases hj) (Nat.le_refl _)

/-- One more. -/
theorem one4 {w w1 : World} {ops : Array Oper} {rest : List Oper} {o : Oper} {a : Act} {Q : Exit → Act → World → Prop} (hgd : o.guard = none) (s x : Operand)
    (ho : o.op = .call { callee := .builtin .append, args := #[s, x], argTypes := #[30, 30] }) (y : Value) (hy : y.oneCell' = true) (hw : w = w1.alloc (.cells #[y] 4)) (B n : Nat) (v : Value) (vs : List Value) (hs : a.eval s = v) (own : w1.ownsRow B 4 1 v n vs)
    (q : Nat) (hx : a.eval x = .slice (some ⟨q, 0, none⟩) 1 1) (hq : q = w1.heap.size) (hbd : n ≤ 1000000) (hB : B ≤ w1.heap.size)
    (h : ∀ v' w', Hid (w'.ownsRow B 4 1 v' (n + 1) (vs ++ [y])) → Hid (Below B w1 w') → wpList Try.prog ops Q rest (a.put o.dst v') w') : wpList Try.prog ops Q (o :: rest) a w := by
  subst hw hq
  obtain ⟨i0, hi, hz0, hz1, hz2⟩ := info_parts Try.info4
  refine wpList_append_own (P := Try.prog) (w := w1.alloc (.cells #[y] 4)) hgd s x 30 ho B 4 i0 (.bool false) 1 1 Try.underlying30 hi hz0 hz1 hz2 rfl (by omega) v n vs hs (own.alloc _) ⟨w1.heap.size, 0, none⟩ 1 1 [y] hx rfl ?_ (by simpa using hy) (by unfold maxLen; omega) (by omega) (by simp; omega) ?_
  · intro j u hj
    rw [add_at, cell_of (new_same w1 _), Nat.zero_add]
    simpa using hj
  · intro v' w' h6 h7 _
    refine h v' w' h6 ?_
    exact below_grown (grown_two (grown_new w1 _ _) h7) (fun j hj => (own_lt own hj).1) hB

/-! ### The document's watch -/
/-- Its clauses are lists of the arguments (w0 is the world in which these came in); its lists of lists, and of truths, are its own. -/
structure RW (w0 w : World) (la ta : Value) (xss : List (List Int)) (ths : List Bool) : Prop where
  ol : ∃ vs : List Value, w.ownsRow w0.heap.size 36 1 la xss.length vs ∧ ∀ (j : Nat) (v : Value), vs[j]? = some v → ∃ a m c, v = .slice a m c ∧ U.Row w0 a m c (xss.getD j [])
  ot : w.ownsRow w0.heap.size 4 1 ta ths.length (ths.map Value.bool)
  ln : ths.length = xss.length
  le : ∀ xs ∈ xss, xs.length ≤ 12

def wv (n : Nat) (la ta : Value) : Value := .agg #[.int .i64 n, la, ta]

theorem bools_one (ths : List Bool) : ∀ u ∈ ths.map Value.bool, u.oneCell' = true := by
  intro u hu
  obtain ⟨b, _, rfl⟩ := List.mem_map.1 hu
  rfl

section
variable {w0 w w' : World} {la ta : Value} {xss : List (List Int)} {ths : List Bool}

theorem RW.nil (w0 w : World) : RW w0 w (.slice none 0 0) (.slice none 0 0) [] [] := ⟨⟨[], World.ownsRow_nil _ _ _ _, fun j v h => by simp at h⟩, World.ownsRow_nil _ _ _ _, rfl, fun xs h => by simp at h⟩

theorem RW.same (r : RW w0 w la ta xss ths) (hb : ∀ j T, Typ w j T → (T = 36 ∨ T = 4) → w'.heap[j]? = w.heap[j]?) : RW w0 w' la ta xss ths := by
  obtain ⟨vs, h1, h2⟩ := r.ol
  exact ⟨⟨vs, rown_same h1 (fun j _ t => hb j 36 t (.inl rfl)), h2⟩, rown_same r.ot (fun j _ t => hb j 4 t (.inr rfl)), r.ln, r.le⟩

theorem RW.below (r : RW w0 w la ta xss ths) (b : Below w.heap.size w w') : RW w0 w' la ta xss ths := r.same (fun j T t _ => b.block j t.lt)

theorem Trl.mine36 {k : K} {L : List E} {lev : Nat} {p : V} (t : Trl k w L lev p) {j : Nat} (h : Mine k p j) : ∃ T, Typ w j T ∧ T ≠ 36 ∧ T ≠ 4 ∧ T ≠ 32 ∧ T ≠ 38 := by
  obtain ⟨F, S, s, _⟩ := t
  rcases h with e | e | e | e
  · obtain ⟨c, h, _⟩ := s.fc
    exact ⟨83, by rw [e]; exact ⟨_, _, h⟩, by decide⟩
  · exact ⟨63, by rw [e]; exact ⟨_, _, s.cl⟩, by decide⟩
  · exact ⟨3, s.rl.typ e, by decide⟩
  · exact ⟨3, (LRow.of_own s.rs).typ e, by decide⟩

theorem RW.ft {k : K} {B : Nat} {L : List E} {lev : Nat} {p p' : V} (r : RW w0 w la ta xss ths) (t : Trl k w L lev p) (f : FT k B p p' w w') : RW w0 w' la ta xss ths :=
  r.same (fun j T ht hT => f.block j T ht (by rcases hT with rfl | rfl <;> simp [Wt]) (fun m => by
    obtain ⟨T', h1, h2, h3, _⟩ := t.mine36 m
    rcases hT with rfl | rfl
    · exact h2 (h1.one ht)
    · exact h3 (h1.one ht)))

theorem RW.shape (r : RW w0 w la ta xss ths) : ∃ a c a' c', la = .slice a xss.length c ∧ ta = .slice a' xss.length c' ∧ xss.length ≤ c ∧ c ≤ maxLen ∧ xss.length ≤ c' ∧ c' ≤ maxLen := by
  obtain ⟨vs, h1, h2⟩ := r.ol
  obtain ⟨a, c, e1, h3, h4, _⟩ := rown_shape h1
  obtain ⟨a', c', e2, h5, h6, _⟩ := rown_shape r.ot
  rw [r.ln] at e2 h5
  exact ⟨a, c, a', c', e1, e2, h3, h4, h5, h6⟩

theorem RW.row {a : Option Addr} {n c : Nat} (r : RW w0 w (.slice a n c) ta xss ths) {i : Nat} (hi : i < xss.length) : ∃ b a' m c', a = some ⟨b, 0, none⟩ ∧ w.cell? ⟨b, i, none⟩ = some (.slice a' m c') ∧ Hid (U.Row w0 a' m c' (xss.getD i [])) := by
  obtain ⟨vs, h1, h2⟩ := r.ol
  have hl : vs.length = xss.length := by simpa using h1.1
  obtain ⟨_, _, e, _⟩ := rown_shape h1
  cases e
  obtain ⟨a', m, c', e, h3⟩ := h2 i _ (List.getElem?_eq_getElem (l := vs) (by omega))
  obtain ⟨b, e1, h4, _⟩ := rown_at h1 (List.getElem?_eq_getElem (l := vs) (i := i) (by omega))
  rw [e] at h4
  exact ⟨b, a', m, c', e1, h4, h3⟩

theorem RW.tr {a : Option Addr} {n c : Nat} (r : RW w0 w la (.slice a n c) xss ths) {i : Nat} (hi : i < xss.length) : ∃ b, a = some ⟨b, 0, none⟩ ∧ w.cell? ⟨b, i, none⟩ = some (.bool (ths.getD i false)) := by
  have h1 := r.ot
  have hl := r.ln
  obtain ⟨_, _, e, _⟩ := rown_shape h1
  cases e
  have hx : (ths.map Value.bool)[i]? = some (.bool (ths.getD i false)) := by
    have : i < ths.length := by omega
    simp [this]
  obtain ⟨b, e1, h4, _⟩ := rown_at h1 hx
  exact ⟨b, e1, h4⟩
end

theorem load32 (w : World) (r : Nat) (x y z : Value) (hx : w.cell? ⟨r, 0, none⟩ = some x) (hy : w.cell? ⟨r, 1, none⟩ = some y) (hz : w.cell? ⟨r, 2, none⟩ = some z) : (loadVar 32 ⟨r, 0, none⟩).run Try.prog w = .ok (.agg #[x, y, z]) w := by
  simp [go_sem, loadVar, hx, hy, hz]

theorem wresults_box {fn : Func} {p : Tmp} (h : fn.results = #[.cell p 32]) (tmps : Array Value) (w : World) (r : Nat) (x y z : Value) (ht : tmps.getD p undef = .pointer (some ⟨r, 0, none⟩)) (hx : w.cell? ⟨r, 0, none⟩ = some x) (hy : w.cell? ⟨r, 1, none⟩ = some y) (hz : w.cell? ⟨r, 2, none⟩ = some z) :
    (results fn tmps).run Try.prog w = .ok (.agg #[x, y, z]) w := by
  rw [Array.getD_eq_getD_getElem?] at ht
  simp only [results, h]
  simp [ht, load32 w r x y z hx hy hz, asAddr]

theorem wresults_box2 {fn : Func} {p u : Tmp} (h : fn.results = #[.cell p 32, .tmp u]) (tmps : Array Value) (w : World) (r : Nat) (x y z : Value) (ht : tmps.getD p undef = .pointer (some ⟨r, 0, none⟩)) (hx : w.cell? ⟨r, 0, none⟩ = some x) (hy : w.cell? ⟨r, 1, none⟩ = some y) (hz : w.cell? ⟨r, 2, none⟩ = some z) :
    (results fn tmps).run Try.prog w = .ok (.tuple #[.agg #[x, y, z], tmps.getD u undef]) w := by
  rw [Array.getD_eq_getD_getElem?] at ht
  simp only [results, h]
  simp [Result.andThen, ht, load32 w r x y z hx hy hz, asAddr]

theorem wresults_box3 {fn : Func} {p u v : Tmp} (h : fn.results = #[.cell p 32, .tmp u, .tmp v]) (tmps : Array Value) (w : World) (r : Nat) (x y z : Value) (ht : tmps.getD p undef = .pointer (some ⟨r, 0, none⟩)) (hx : w.cell? ⟨r, 0, none⟩ = some x) (hy : w.cell? ⟨r, 1, none⟩ = some y) (hz : w.cell? ⟨r, 2, none⟩ = some z) :
    (results fn tmps).run Try.prog w = .ok (.tuple #[.agg #[x, y, z], tmps.getD u undef, tmps.getD v undef]) w := by
  rw [Array.getD_eq_getD_getElem?] at ht
  simp only [results, h]
  simp [Result.andThen, ht, load32 w r x y z hx hy hz, asAddr]

theorem wtwo_boxes {w w5 : World} {x y : Obj} (b : Below ((w.alloc x).alloc y).heap.size ((w.alloc x).alloc y) w5) : w5.heap[w.heap.size]? = some x ∧ w5.heap[w.heap.size + 1]? = some y ∧ Below w.heap.size w w5 := by
  have e1 : (w.alloc x).heap.size = w.heap.size + 1 := by simp
  have e2 : ((w.alloc x).alloc y).heap.size = w.heap.size + 1 + 1 := by simp
  have h2 := new_same (w.alloc x) y
  rw [e1] at h2
  rw [e2] at b
  refine ⟨?_, ?_, Below.trans (b := (w.alloc x).alloc y) (by go_grown) (b.mono (by omega))⟩
  · rw [b.block _ (by omega), (grown_new (w.alloc x) y none).block _ (by rw [e1]; omega) (by simp)]
    exact new_same w x
  · rw [b.block _ (by omega)]; exact h2

theorem wbox_cells {w : World} {r : Nat} {p q s : Value} {T : TypeId} (h : w.heap[r]? = some (.cells #[p, q, s] T (0, 0))) : (w.cell? ⟨r, 0, none⟩ = some p ∧ w.cell? ⟨r, 1, none⟩ = some q ∧ w.cell? ⟨r, 2, none⟩ = some s) ∧ w.frozen? ⟨r, 0, none⟩ = false ∧ w.frozen? ⟨r, 1, none⟩ = false ∧ w.frozen? ⟨r, 2, none⟩ = false :=
  ⟨⟨by rw [cell_of h]; rfl, by rw [cell_of h]; rfl, by rw [cell_of h]; rfl⟩, frozen_of h, frozen_of h, frozen_of h⟩

theorem wbox_keep {w w' : World} {r : Nat} {o : Obj} (h : w.heap[r]? = some o) (b : Below w.heap.size w w') : w'.heap[r]? = some o := by rw [b.block _ (blk_lt h)]; exact h

theorem wput3_below {B : Nat} {w w5 : World} (b : Below B w w5) {r : Nat} (hr : B ≤ r) (p q s : Value) : Below B w (((w5.setCell ⟨r, 0, none⟩ p).setCell ⟨r, 1, none⟩ q).setCell ⟨r, 2, none⟩ s) :=
  ((b.setCell (p := ⟨r, 0, none⟩) hr _).setCell (p := ⟨r, 1, none⟩) hr _).setCell (p := ⟨r, 2, none⟩) hr _

/-- Another's box is written. -/
theorem RW.put3 {w0 w : World} {la ta : Value} {xss : List (List Int)} {ths : List Bool} {r : Nat} {c : Array Value} {T : TypeId} {fz : Nat × Nat} (s : RW w0 w la ta xss ths) (hr : w.heap[r]? = some (.cells c T fz)) (hT : T ≠ 36 ∧ T ≠ 4) (p q t : Value) : RW w0 (((w.setCell ⟨r, 0, none⟩ p).setCell ⟨r, 1, none⟩ q).setCell ⟨r, 2, none⟩ t) la ta xss ths :=
  s.same (fun j T' ht hT' => (grown_two (grown_two (grown_set w ⟨r, 0, none⟩ p) (grown_set _ ⟨r, 1, none⟩ q)) (grown_set _ ⟨r, 2, none⟩ t)).block j ht.lt (fun e => by
    cases e
    have := ht.one ⟨_, _, hr⟩
    rcases hT' with rfl | rfl
    · exact hT.1 this.symm
    · exact hT.2 this.symm))
theorem RW.put1 {w0 w : World} {la ta : Value} {xss : List (List Int)} {ths : List Bool} {r o : Nat} {c : Array Value} {T : TypeId} {fz : Nat × Nat} (s : RW w0 w la ta xss ths) (hr : w.heap[r]? = some (.cells c T fz)) (hT : T ≠ 36 ∧ T ≠ 4) (p : Value) : RW w0 (w.setCell ⟨r, o, none⟩ p) la ta xss ths :=
  s.same (fun j T' ht hT' => (grown_set w ⟨r, o, none⟩ p).block j ht.lt (fun e => by
    cases e
    have := ht.one ⟨_, _, hr⟩
    rcases hT' with rfl | rfl
    · exact hT.1 this.symm
    · exact hT.2 this.symm))

end Go.Proofs.Ytbfaigeopkonbaa
