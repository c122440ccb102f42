/-
  Lists of clauses in memory: pointers, one behind the other.
-/
import Derived.Test.YtimfjoinjfecjaaGreatQ01
import Derived.ArgAppend
import Derived.Lib.SliceRun
import Derived.Maps.OwnSet

namespace Go.Proofs.YtimfjoinjfecjaaGreat
open Go.RowKit
set_option linter.unusedVariables false

theorem Tryz.info92 : (Tryz.prog.info? 92).map (fun i => (i.zero, i.size, i.bytes)) = some (some (.pointer none), 1, 8) := by kernel_rfl
theorem zero84 (w : World) : (zeroValue 92).run Tryz.prog w = .ok (.pointer none) w := by kernel_rfl

theorem blk_ne {w : World} {b b' : Nat} {c c' : Array Value} {T T' : TypeId} {fr fr' : Nat × Nat} (h : w.heap[b]? = some (.cells c T fr)) (h' : w.heap[b']? = some (.cells c' T' fr')) (hT : T ≠ T') : b ≠ b' := by
  rintro rfl
  rw [h] at h'
  simp only [Option.some.injEq, Obj.cells.injEq] at h'
  exact hT h'.2.1

def ptr (cb : Nat → Nat) (i : Nat) : Value := .pointer (some ⟨cb i, 0, none⟩)

/-- The clauses xs, as pointers, lie one behind the other. -/
def PRow (w : World) (cb : Nat → Nat) (v : Value) (xs : List Nat) : Prop :=
  (v = .slice none 0 0 ∧ xs = []) ∨ ∃ b off cap cur, v = .slice (some ⟨b, off, none⟩) xs.length cap ∧ w.heap[b]? = some (.cells cur 92 (0, 0)) ∧ off + cap ≤ cur.size ∧ xs.length ≤ cap ∧ cap ≤ maxLen ∧ ∀ (i x : Nat), xs[i]? = some x → cur[off + i]? = some (ptr cb x)

theorem set_cells (T : TypeId) (fr : Nat × Nat) (b : Nat) : ∀ (vs : List Value) (o : Nat) (w : World) (cur : Array Value), w.heap[b]? = some (.cells cur T fr) →
    ∃ cur', (w.setCells b o vs).heap[b]? = some (.cells cur' T fr) ∧ cur'.size = cur.size ∧ (∀ j, j < o ∨ o + vs.length ≤ j → cur'[j]? = cur[j]?) ∧ ∀ j, j < vs.length → o + j < cur.size → cur'[o + j]? = vs[j]?
  | [], o, w, cur, h => ⟨cur, h, rfl, fun _ _ => rfl, fun j hj => by simp at hj⟩
  | v :: vs, o, w, cur, h => by
    obtain ⟨cur', h1, h2, h3, h4⟩ := set_cells T fr b vs (o + 1) (w.setCell ⟨b, o, none⟩ v) _ (set_same h v)
    refine ⟨cur', h1, by simpa using h2, fun j hj => ?_, fun j hj hlt => ?_⟩
    · simp only [List.length_cons] at hj
      rw [h3 j (by omega), Array.getElem?_setIfInBounds, if_neg (by omega)]
    · cases j with
      | zero =>
        rw [h3 _ (by omega), Array.getElem?_setIfInBounds, if_pos (by omega), if_pos (by omega)]
        rfl
      | succ j =>
        have := h4 j (by simpa using hj) (by simp; omega)
        rw [show o + 1 + j = o + (j + 1) by omega] at this
        simpa using this

theorem grown_cells (b : Nat) : ∀ (vs : List Value) (o : Nat) (w : World), w.grownBy (w.setCells b o vs) (some b)
  | [], o, w => ⟨rfl, rfl, rfl, Nat.le_refl _, fun _ _ _ => rfl⟩
  | v :: vs, o, w => grown_two (grown_set w ⟨b, o, none⟩ v) (grown_cells b vs (o + 1) _)

section
variable {w w' : World} {cb : Nat → Nat} {v : Value} {xs : List Nat}

theorem PRow.nil (w : World) (cb : Nat → Nat) : PRow w cb (.slice none 0 0) [] := .inl ⟨rfl, rfl⟩

theorem PRow.keep (h : PRow w cb v xs) {r : Option Nat} (g : w.grownBy w' r) (hr : ∀ j, r = some j → v.ownBlock ≠ some j) : PRow w' cb v xs := by
  rcases h with h | ⟨b, off, cap, cur, rfl, hg, rest⟩
  · exact .inl h
  · refine .inr ⟨b, off, cap, cur, rfl, ?_, rest⟩
    rw [g.block b (blk_lt hg) (fun e => hr b e.symm rfl)]
    exact hg

theorem PRow.same (h : PRow w cb v xs) (hb : ∀ j c fr, w.heap[j]? = some (.cells c 92 fr) → v.ownBlock = some j → w'.heap[j]? = w.heap[j]?) : PRow w' cb v xs := by
  rcases h with h | ⟨b, off, cap, cur, rfl, hg, rest⟩
  · exact .inl h
  · refine .inr ⟨b, off, cap, cur, rfl, ?_, rest⟩
    rw [hb b _ _ hg rfl]
    exact hg

theorem PRow.as {cb' : Nat → Nat} (h : PRow w cb v xs) (e : ∀ i ∈ xs, cb' i = cb i) : PRow w cb' v xs := by
  rcases h with h | ⟨b, off, cap, cur, rfl, hg, h1, h2, h3, h4⟩
  · exact .inl h
  · refine .inr ⟨b, off, cap, cur, rfl, hg, h1, h2, h3, fun i x hx => ?_⟩
    rw [h4 i x hx, ptr, ptr, e x (List.mem_of_getElem? hx)]

theorem PRow.typ (h : PRow w cb v xs) {j : Nat} (hj : v.ownBlock = some j) : Typ w j 92 := by
  rcases h with ⟨rfl, _⟩ | ⟨b, off, cap, cur, rfl, hg, _⟩
  · simp [Value.ownBlock] at hj
  · simp [Value.ownBlock] at hj; subst hj; exact ⟨_, _, hg⟩

theorem PRow.lt (h : PRow w cb v xs) {j : Nat} (hj : v.ownBlock = some j) : j < w.heap.size := (h.typ hj).lt

theorem PRow.shape (h : PRow w cb v xs) : ∃ ao cap, v = .slice ao xs.length cap ∧ xs.length ≤ cap ∧ cap ≤ maxLen := by
  rcases h with ⟨rfl, rfl⟩ | ⟨b, off, cap, cur, rfl, hg, h1, h2, h3, _⟩
  · exact ⟨none, 0, rfl, by simp, by unfold maxLen; omega⟩
  · exact ⟨_, _, rfl, h2, h3⟩

theorem PRow.filled (h : PRow w cb v xs) (h0 : 0 < xs.length) : ∃ b off cap, v = .slice (some ⟨b, off, none⟩) xs.length cap ∧ xs.length ≤ cap ∧ cap ≤ maxLen := by
  rcases h with ⟨rfl, rfl⟩ | ⟨b, off, cap, cur, rfl, hg, h1, h2, h3, _⟩
  · simp at h0
  · exact ⟨_, _, _, rfl, h2, h3⟩

theorem PRow.at {b off n cap i x : Nat} (h : PRow w cb (.slice (some ⟨b, off, none⟩) n cap) xs) (hx : xs[i]? = some x) : w.cell? ⟨b, off + i, none⟩ = some (.pointer (some ⟨cb x, 0, none⟩)) := by
  rcases h with ⟨e, _⟩ | ⟨b, off, cap, cur, e, hg, h1, h2, h3, h4⟩
  · cases e
  · cases e; rw [cell_of hg]; exact h4 i x hx

theorem PRow.fz {b off n cap i : Nat} (h : PRow w cb (.slice (some ⟨b, off, none⟩) n cap) xs) : w.frozen? ⟨b, i, none⟩ = false := by
  rcases h with ⟨e, _⟩ | ⟨b, off, cap, cur, e, hg, _⟩
  · cases e
  · cases e; exact frozen_of hg

/-- A pointer is written over one. -/
theorem PRow.set {b off n cap i : Nat} (h : PRow w cb (.slice (some ⟨b, off, none⟩) n cap) xs) (c : Nat) (hi : i < n) : PRow (w.setCell ⟨b, off + i, none⟩ (ptr cb c)) cb (.slice (some ⟨b, off, none⟩) n cap) (xs.set i c) := by
  rcases h with ⟨e, _⟩ | ⟨b, off, cap, cur, e, hg, h1, h2, h3, h4⟩
  · cases e
  · cases e
    refine .inr ⟨b, off, cap, _, by simp, set_same hg _, by simpa using h1, by simpa using h2, h3, fun j x hx => ?_⟩
    rw [Array.getElem?_setIfInBounds]
    by_cases e : off + i = off + j
    · have e' : i = j := by omega
      subst e'
      rw [if_pos rfl, if_pos (by omega)]
      rw [List.getElem?_set_self hi] at hx
      cases hx; rfl
    · rw [if_neg e]
      rw [List.getElem?_set_ne (by omega)] at hx
      exact h4 j x hx

/-- Its first ones. -/
theorem PRow.take {b off n cap m : Nat} (h : PRow w cb (.slice (some ⟨b, off, none⟩) n cap) xs) (hm : m ≤ n) : PRow w cb (.slice (some ⟨b, off, none⟩) m cap) (xs.take m) := by
  rcases h with ⟨e, _⟩ | ⟨b, off, cap, cur, e, hg, h1, h2, h3, h4⟩
  · cases e
  · cases e
    have hl : (xs.take m).length = m := by rw [List.length_take]; omega
    refine .inr ⟨b, off, cap, cur, by rw [hl], hg, h1, by omega, h3, fun i x hx => ?_⟩
    have hi := (List.getElem?_eq_some_iff.1 hx).1
    rw [hl] at hi
    rw [List.getElem?_take_of_lt hi] at hx
    exact h4 i x hx

/-- All behind the first ones. -/
theorem PRow.drop {b off n cap m : Nat} (h : PRow w cb (.slice (some ⟨b, off, none⟩) n cap) xs) (hm : m ≤ n) : PRow w cb (.slice (some ⟨b, off + m, none⟩) (n - m) (cap - m)) (xs.drop m) := by
  rcases h with ⟨e, _⟩ | ⟨b, off, cap, cur, e, hg, h1, h2, h3, h4⟩
  · cases e
  · cases e
    refine .inr ⟨b, off + m, cap - m, cur, by rw [List.length_drop], hg, by omega, by rw [List.length_drop]; omega, by omega, fun i x hx => ?_⟩
    rw [List.getElem?_drop] at hx
    rw [Nat.add_assoc]
    exact h4 _ x hx

theorem PRow.of_own {base n : Nat} (h : w.ownsRow base 92 1 v n (xs.map (ptr cb))) : PRow w cb v xs := by
  obtain ⟨h0, h⟩ := h
  simp at h0
  rcases h with ⟨h1, h2⟩ | ⟨g, cap, cur, rfl, h1, h2, h3, h4, h5, h6⟩
  · exact .inl ⟨h1, List.eq_nil_of_length_eq_zero (by omega)⟩
  · refine .inr ⟨g, 0, cap, cur, by rw [h0], h2, by omega, by omega, h4, fun i x hx => ?_⟩
    have hi := (List.getElem?_eq_some_iff.1 hx).1
    rw [Nat.mul_one] at h6
    have : (cur.toList.take n)[i]? = some (ptr cb x) := by rw [h6]; simp [hx]
    rw [List.getElem?_take_of_lt (by omega)] at this
    simpa using this

theorem ptrs_one (cb : Nat → Nat) (ys : List Nat) : ∀ u ∈ ys.map (ptr cb), u.oneCell' = true := by
  intro v hv
  obtain ⟨x, _, rfl⟩ := List.mem_map.1 hv
  rfl

/-- append: clauses behind clauses. -/
theorem run_pappend (w : World) (ty : TypeId) (own : PRow w cb v xs) (a : Addr) (m c : Nat) (ys : List Nat) (hl : ys.length = m) (hy : ∀ (j y : Nat), ys[j]? = some y → w.cell? (a.add j) = some (ptr cb y)) (hbd : xs.length + m ≤ 10000000000000) :
    ∃ v' w', (Builtin.append_ #[82, 82] ty #[v, .slice (some a) m c]).run Tryz.prog w = .ok v' w' ∧ PRow w' cb v' (xs ++ ys) ∧ w.grownBy w' v.ownBlock ∧ Nw w v v' := by
  obtain ⟨i0, hi, hz0, hz1, hz2⟩ := info_parts Tryz.info92
  have hnews : ∀ j u, (ys.map (ptr cb))[j]? = some u → w.cell? (a.add j) = some u := by
    intro j u hj
    rw [List.getElem?_map] at hj
    cases hq : ys[j]? with
    | none => rw [hq] at hj; cases hj
    | some y => rw [hq] at hj; cases hj; exact hy j y hq
  have hln : (ys.map (ptr cb)).length = m * i0.size := by rw [hz1]; simp [hl]
  rcases own with ⟨rfl, rfl⟩ | ⟨b, off, cap, cur, rfl, hg, h1, h2, h3, h4⟩
  · obtain ⟨v', w', q1, q2, q3, q4, q5⟩ := run_append_own_at (P := Tryz.prog) w 0 82 ty 92 i0 (.pointer none) 1 8 Tryz.underlying82 hi hz0 hz1 hz2 rfl (by omega) (.slice none 0 0) 0 [] (World.ownsRow_nil _ _ _ _) a m c (ys.map (ptr cb)) (by simp [hl]) hnews (ptrs_one cb ys) (by unfold maxLen; simp at hbd; omega) (by simp at hbd; omega) (by omega)
    refine ⟨v', w', q1, PRow.of_own (by simpa using q2), q3, fun j hj => ?_⟩
    rcases q5 with q5 | q5
    · exact .inl (by rw [← q5]; exact hj)
    · rw [q5] at hj; have := Option.some.inj hj; exact .inr (by omega)
  · by_cases hroom : xs.length + m ≤ cap
    · have hr := run_append_room_cells (P := Tryz.prog) w 82 ty 92 i0 Tryz.underlying82 hi b off xs.length cap a m c (ys.map (ptr cb)) hln hnews (ptrs_one cb ys) hroom (by
        intro j hj
        simp at hj
        rw [cell_of hg, hz1, Nat.mul_one]
        rw [Array.getElem?_eq_getElem (by omega)]; rfl) (fun j hj => frozen_of hg)
      rw [hz1, Nat.mul_one] at hr
      obtain ⟨cur', s1, s2, s3, s4⟩ := set_cells 92 (0, 0) b (ys.map (ptr cb)) (off + xs.length) w cur hg
      refine ⟨_, _, hr, .inr ⟨b, off, cap, cur', by rw [List.length_append, hl], s1, by omega, by rw [List.length_append, hl]; omega, h3, fun i x hx => ?_⟩, grown_cells b _ _ w, fun j hj => .inl hj⟩
      by_cases hix : i < xs.length
      · rw [List.getElem?_append_left hix] at hx
        rw [s3 _ (.inl (by omega))]
        exact h4 i x hx
      · rw [List.getElem?_append_right (by omega)] at hx
        have hi2 := (List.getElem?_eq_some_iff.1 hx).1
        have := s4 (i - xs.length) (by simpa using hi2) (by omega)
        rw [show off + xs.length + (i - xs.length) = off + i by omega, List.getElem?_map, hx] at this
        exact this
    · obtain ⟨v', w', q1, q2, q3⟩ := run_append_arg_grows (P := Tryz.prog) w 82 ty 92 i0 (.pointer none) 1 8 Tryz.underlying82 hi hz0 hz1 hz2 rfl (by omega) ⟨b, off, none⟩ xs.length cap (xs.map (ptr cb)) (by simp) (by
        intro j u hj
        rw [List.getElem?_map] at hj
        cases hq : xs[j]? with
        | none => rw [hq] at hj; cases hj
        | some y => rw [hq] at hj; cases hj; rw [add_at, cell_of hg]; exact h4 j y hq) a m c (ys.map (ptr cb)) (by simp [hl]) hnews (by omega) (by unfold maxLen; omega) (by omega)
      rw [← List.map_append] at q2
      refine ⟨v', w', q1, PRow.of_own q2, ⟨q3.os, q3.tape, q3.output, q3.size, fun j hj _ => q3.block j hj (by simp)⟩, fun j hj => .inr (own_lt q2 hj).1⟩

theorem run_pone {w1 : World} (ty : TypeId) (c : Nat) (hw : w = w1.alloc (.cells #[.pointer (some ⟨cb c, 0, none⟩)] 92)) (own : PRow w1 cb v xs) (q : Nat) (hq : q = w1.heap.size) (hbd : xs.length + 1 ≤ 10000000000000) :
    ∃ v' w', (Builtin.append_ #[82, 82] ty #[v, .slice (some ⟨q, 0, none⟩) 1 1]).run Tryz.prog w = .ok v' w' ∧ PRow w' cb v' (xs ++ [c]) ∧ w1.grownBy w' v.ownBlock ∧ Nw w1 v v' := by
  subst hw hq
  obtain ⟨v', w', h1, h2, h3, h4⟩ := run_pappend (v := v) (xs := xs) (cb := cb) (w1.alloc (.cells #[.pointer (some ⟨cb c, 0, none⟩)] 92)) ty (own.keep (grown_new w1 _ none) (fun j hj => by cases hj)) ⟨w1.heap.size, 0, none⟩ 1 1 [c] rfl (by
    intro j y hj
    refine cell_one_new w1 _ _ j _ ?_
    match j, hj with
    | 0, hj => simp at hj; subst hj; rfl) hbd
  refine ⟨v', w', h1, h2, grown_two (grown_new w1 _ _) h3, fun j hj => ?_⟩
  rcases h4 j hj with e | e
  · exact .inl e
  · simp at e; exact .inr (by omega)

/-- append of a list of none. -/
theorem run_pnone (w : World) (ty : TypeId) (own : PRow w cb v xs) : (Builtin.append_ #[82, 82] ty #[v, .slice none 0 0]).run Tryz.prog w = .ok v w := by
  obtain ⟨i0, hi, hz0, hz1, hz2⟩ := info_parts Tryz.info92
  rcases own with ⟨rfl, rfl⟩ | ⟨b, off, cap, cur, rfl, hg, h1, h2, h3, h4⟩
  · simp [Builtin.append_, run_underlying Tryz.underlying82, sizeOf, typeInfo, hi, Builtin.lenOf, Builtin.firstCells]
  · simp [Builtin.append_, run_underlying Tryz.underlying82, sizeOf, typeInfo, hi, Builtin.lenOf, Builtin.firstCells, loadCells, h2, storeCells]

/-- clear of none. -/
theorem run_clear0 (w : World) (ty : TypeId) (ao : Option Addr) (c : Nat) : (Builtin.clear_ #[82] ty #[.slice ao 0 c]).run Tryz.prog w = .ok (.tuple #[]) w := by
  cases ao <;> simp [Builtin.clear_, run_underlying Tryz.underlying82]

/-- clear: the list's own cells are none any more; the list of none is one of that block. -/
theorem run_pclear (w : World) (ty : TypeId) {b off n cap : Nat} (own : PRow w cb (.slice (some ⟨b, off, none⟩) n cap) xs) :
    ∃ w', (Builtin.clear_ #[82] ty #[.slice (some ⟨b, off, none⟩) n cap]).run Tryz.prog w = .ok (.tuple #[]) w' ∧ PRow w' cb (.slice (some ⟨b, off, none⟩) 0 cap) [] ∧ w.grownBy w' (some b) := by
  rcases own with ⟨e, _⟩ | ⟨b, off, cap, cur, e, hg, h1, h2, h3, h4⟩
  · cases e
  · cases e
    by_cases h0 : 0 < xs.length
    · have hr := Lib.run_clear_slice (P := Tryz.prog) w 82 92 ty (.pointer none) Tryz.underlying82 zero84 rfl rfl b off xs.length cap h0 (by
        intro j hj; rw [cell_of hg, Array.getElem?_eq_getElem (by omega)]; rfl) (fun j hj => frozen_of hg)
      obtain ⟨cur', s1, s2, _⟩ := set_cells 92 (0, 0) b (List.replicate xs.length (.pointer none)) off w cur hg
      exact ⟨_, hr, .inr ⟨b, off, cap, cur', rfl, s1, by omega, by simp, h3, fun i x hx => by simp at hx⟩, grown_cells b _ _ w⟩
    · have e0 : xs.length = 0 := by omega
      rw [e0]
      exact ⟨w, run_clear0 w ty _ _, .inr ⟨b, off, cap, cur, rfl, hg, h1, by simp, h3, fun i x hx => by simp at hx⟩, ⟨rfl, rfl, rfl, Nat.le_refl _, fun _ _ _ => rfl⟩⟩

/-- clear behind the first m: these stay. -/
theorem run_pcut (w : World) (ty : TypeId) {b off n cap m : Nat} (own : PRow w cb (.slice (some ⟨b, off, none⟩) n cap) xs) (hm : m ≤ n) (a : Addr) (c : Nat) (ha : m < n → a = ⟨b, off + m, none⟩) :
    ∃ w', (Builtin.clear_ #[82] ty #[.slice (some a) (n - m) c]).run Tryz.prog w = .ok (.tuple #[]) w' ∧ PRow w' cb (.slice (some ⟨b, off, none⟩) m cap) (xs.take m) ∧ w.grownBy w' (some b) := by
  have ht := own.take hm
  by_cases h0 : m < n
  · have ha' := ha h0
    subst ha'
    rcases own with ⟨e, _⟩ | ⟨b, off, cap, cur, e, hg, h1, h2, h3, h4⟩
    · cases e
    · cases e
      have hr := Lib.run_clear_slice (P := Tryz.prog) w 82 92 ty (.pointer none) Tryz.underlying82 zero84 rfl rfl b (off + m) (xs.length - m) c (by omega) (by
        intro j hj; rw [cell_of hg, Array.getElem?_eq_getElem (by omega)]; rfl) (fun j hj => frozen_of hg)
      obtain ⟨cur', s1, s2, s3, _⟩ := set_cells 92 (0, 0) b (List.replicate (xs.length - m) (.pointer none)) (off + m) w cur hg
      have hl : (xs.take m).length = m := by rw [List.length_take]; omega
      refine ⟨_, hr, .inr ⟨b, off, cap, cur', by rw [hl], s1, by omega, by omega, h3, fun i x hx => ?_⟩, grown_cells b _ _ w⟩
      have hi := (List.getElem?_eq_some_iff.1 hx).1
      rw [hl] at hi
      rw [List.getElem?_take_of_lt hi] at hx
      rw [s3 _ (.inl (by omega))]
      exact h4 i x hx
  · have e : n - m = 0 := by omega
    rw [e]
    exact ⟨w, run_clear0 w ty _ _, ht, ⟨rfl, rfl, rfl, Nat.le_refl _, fun _ _ _ => rfl⟩⟩

/-- One more behind the first m of a list, over what lies there. -/
theorem run_pstay {w1 : World} (ty : TypeId) (x : Nat) (hw : w = w1.alloc (.cells #[.pointer (some ⟨cb x, 0, none⟩)] 92)) {b off n cap m : Nat} (own : PRow w1 cb (.slice (some ⟨b, off, none⟩) n cap) xs) (hm : m < n) (q : Nat) (hq : q = w1.heap.size) :
    ∃ w', (Builtin.append_ #[82, 82] ty #[.slice (some ⟨b, off, none⟩) m cap, .slice (some ⟨q, 0, none⟩) 1 1]).run Tryz.prog w = .ok (.slice (some ⟨b, off, none⟩) (m + 1) cap) w' ∧ PRow w' cb (.slice (some ⟨b, off, none⟩) n cap) (xs.set m x) ∧ w1.grownBy w' (some b) := by
  subst hw hq
  obtain ⟨i0, hi, hz0, hz1, hz2⟩ := info_parts Tryz.info92
  have own' := own.keep (grown_new w1 (.cells #[.pointer (some ⟨cb x, 0, none⟩)] 92) none) (fun j hj => by cases hj)
  have hn : n = xs.length ∧ xs.length ≤ cap := by
    obtain ⟨_, _, e, h, _⟩ := own.shape
    cases e; exact ⟨rfl, h⟩
  have hset := own'.set x hm
  rcases own' with ⟨e, _⟩ | ⟨b, off, cap, cur, e, hg, h1, h2, h3, h4⟩
  · cases e
  · cases e
    have hr := run_append_room_cells (P := Tryz.prog) (w1.alloc (.cells #[.pointer (some ⟨cb x, 0, none⟩)] 92)) 82 ty 92 i0 Tryz.underlying82 hi b off m cap ⟨w1.heap.size, 0, none⟩ 1 1 [.pointer (some ⟨cb x, 0, none⟩)] (by rw [hz1]; rfl) (cell_one_new w1 _ _) (by simp [Value.oneCell']) (by omega) (by
      intro j hj
      simp at hj
      rw [cell_of hg, hz1, Nat.mul_one]
      rw [Array.getElem?_eq_getElem (by omega)]; rfl) (fun j hj => frozen_of hg)
    rw [hz1, Nat.mul_one] at hr
    exact ⟨_, hr, hset, grown_two (grown_new w1 _ _) (grown_cells b _ _ _)⟩

/-- All from m on of a list, behind its first k. -/
theorem run_prest (w : World) (ty : TypeId) {b off n cap k m : Nat} (own : PRow w cb (.slice (some ⟨b, off, none⟩) n cap) xs) (hk : k ≤ m) (hm : m ≤ n) (a : Addr) (c : Nat) (ha : m < n → a = ⟨b, off + m, none⟩) :
    ∃ w', (Builtin.append_ #[82, 82] ty #[.slice (some ⟨b, off, none⟩) k cap, .slice (some a) (n - m) c]).run Tryz.prog w = .ok (.slice (some ⟨b, off, none⟩) (k + (n - m)) cap) w' ∧ PRow w' cb (.slice (some ⟨b, off, none⟩) n cap) (xs.take k ++ xs.drop m ++ xs.drop (k + (n - m))) ∧ w.grownBy w' (some b) := by
  obtain ⟨i0, hi, hz0, hz1, hz2⟩ := info_parts Tryz.info92
  rcases own with ⟨e, _⟩ | ⟨b, off, cap, cur, e, hg, h1, h2, h3, h4⟩
  · cases e
  · cases e
    have hr := run_append_room_cells (P := Tryz.prog) w 82 ty 92 i0 Tryz.underlying82 hi b off k cap a (xs.length - m) c ((xs.drop m).map (ptr cb)) (by rw [hz1]; simp) (by
      intro j u hj
      rw [List.getElem?_map] at hj
      cases hq : (xs.drop m)[j]? with
      | none => rw [hq] at hj; cases hj
      | some y =>
        rw [hq] at hj; cases hj
        have hj2 := (List.getElem?_eq_some_iff.1 hq).1
        simp at hj2
        rw [ha (by omega), add_at, cell_of hg, Nat.add_assoc]
        rw [List.getElem?_drop] at hq
        exact h4 _ y hq) (ptrs_one cb _) (by omega) (by
      intro j hj
      simp at hj
      rw [cell_of hg, hz1, Nat.mul_one]
      rw [Array.getElem?_eq_getElem (by omega)]; rfl) (fun j hj => frozen_of hg)
    rw [hz1, Nat.mul_one] at hr
    obtain ⟨cur', s1, s2, s3, s4⟩ := set_cells 92 (0, 0) b ((xs.drop m).map (ptr cb)) (off + k) w cur hg
    have hlen : (xs.take k ++ xs.drop m ++ xs.drop (k + (xs.length - m))).length = xs.length := by simp; omega
    refine ⟨_, hr, .inr ⟨b, off, cap, cur', by rw [hlen], s1, by omega, by rw [hlen]; omega, h3, fun i x hx => ?_⟩, grown_cells b _ _ w⟩
    by_cases c1 : i < k
    · rw [List.append_assoc, List.getElem?_append_left (by simp; omega), List.getElem?_take_of_lt c1] at hx
      rw [s3 _ (.inl (by omega))]
      exact h4 i x hx
    · by_cases c2 : i < k + (xs.length - m)
      · rw [List.getElem?_append_left (by simp; omega), List.getElem?_append_right (by simp; omega)] at hx
        have e1 : (xs.take k).length = k := by simp; omega
        rw [e1] at hx
        have := s4 (i - k) (by simp; omega) (by omega)
        rw [show off + k + (i - k) = off + i by omega, List.getElem?_map, hx] at this
        exact this
      · rw [List.getElem?_append_right (by simp; omega)] at hx
        have e1 : (xs.take k ++ xs.drop m).length = k + (xs.length - m) := by simp; omega
        rw [e1, List.getElem?_drop, show k + (xs.length - m) + (i - (k + (xs.length - m))) = i by omega] at hx
        rw [s3 _ (.inr (by simp; omega))]
        exact h4 i x hx
end

end Go.Proofs.YtimfjoinjfecjaaGreat
