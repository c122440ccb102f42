/-
  The document's own answers: its lists in memory; Is, Len, set, Push.
-/
import Derived.Test.YtbddhjohlpblaaaNew
namespace Go.Proofs.Ytbddhjohlpblaaa
open Go.RowKit
set_option linter.unusedVariables false

theorem Try.info4 : (Try.prog.info? 4).map (fun i => (i.zero, i.size, i.bytes)) = some (some (.bool false), 1, 1) := by kernel_rfl

/-! ### What a call of the document hands back -/
theorem load29 (w : World) (r : Nat) (x y : Value) (hx : w.cell? ⟨r, 0, none⟩ = some x) (hy : w.cell? ⟨r, 1, none⟩ = some y) : (loadVar 29 ⟨r, 0, none⟩).run Try.prog w = .ok (.agg #[x, y]) w := by
  simp [go_sem, loadVar, hx, hy]

theorem results_box {fn : Func} {p : Tmp} (h : fn.results = #[.cell p 29]) (tmps : Array Value) (w : World) (r : Nat) (x y : Value) (ht : tmps.getD p undef = .pointer (some ⟨r, 0, none⟩)) (hx : w.cell? ⟨r, 0, none⟩ = some x) (hy : w.cell? ⟨r, 1, none⟩ = some y) :
    (results fn tmps).run Try.prog w = .ok (.agg #[x, y]) w := by
  rw [Array.getD_eq_getD_getElem?] at ht
  simp only [results, h]
  simp [ht, load29 w r x y hx hy, asAddr]

theorem results_box2 {fn : Func} {p u : Tmp} (h : fn.results = #[.cell p 29, .tmp u]) (tmps : Array Value) (w : World) (r : Nat) (x y : Value) (ht : tmps.getD p undef = .pointer (some ⟨r, 0, none⟩)) (hx : w.cell? ⟨r, 0, none⟩ = some x) (hy : w.cell? ⟨r, 1, none⟩ = some y) :
    (results fn tmps).run Try.prog w = .ok (.tuple #[.agg #[x, y], tmps.getD u undef]) w := by
  rw [Array.getD_eq_getD_getElem?] at ht
  simp only [results, h]
  simp [Result.andThen, ht, load29 w r x y hx hy, asAddr]

theorem results_box3 {fn : Func} {p u t : Tmp} (h : fn.results = #[.cell p 29, .tmp u, .tmp t]) (tmps : Array Value) (w : World) (r : Nat) (x y : Value) (ht : tmps.getD p undef = .pointer (some ⟨r, 0, none⟩)) (hx : w.cell? ⟨r, 0, none⟩ = some x) (hy : w.cell? ⟨r, 1, none⟩ = some y) :
    (results fn tmps).run Try.prog w = .ok (.tuple #[.agg #[x, y], tmps.getD u undef, tmps.getD t undef]) w := by
  rw [Array.getD_eq_getD_getElem?] at ht
  simp only [results, h]
  simp [Result.andThen, ht, load29 w r x y hx hy, asAddr]

structure RO (w : World) (av bv : Value) (A : List Int) (W : List Bool) : Prop where
  a : w.ownsRow 0 3 1 av A.length (A.map (Value.int .i64))
  b : w.ownsRow 0 4 1 bv W.length (W.map Value.bool)

/-- What v' has is of v, or new. -/
def Nw (w : World) (v v' : Value) : Prop := ∀ j, v'.ownBlock = some j → v.ownBlock = some j ∨ w.heap.size ≤ j

theorem Nw.refl (w : World) (v : Value) : Nw w v v := fun _ h => .inl h
theorem Nw.fresh {w : World} {v v' : Value} (h : ∀ j, v'.ownBlock = some j → w.heap.size ≤ j) : Nw w v v' := fun j hj => .inr (h j hj)
theorem Nw.mono {w w' : World} {v v' : Value} (h : Nw w' v v') (hs : w.heap.size ≤ w'.heap.size) : Nw w v v' := fun j hj => (h j hj).imp id (fun e => by omega)

theorem own_base {w : World} {base : Nat} {E : TypeId} {sz : Nat} {v : Value} {n : Nat} {xs : List Value} (h : w.ownsRow base E sz v n xs) : w.ownsRow 0 E sz v n xs := by
  refine ⟨h.1, ?_⟩
  rcases h.2 with h2 | ⟨b, cap, cur, rfl, hb, rest⟩
  · exact .inl h2
  · exact .inr ⟨b, cap, cur, rfl, Nat.zero_le _, rest⟩

theorem own_below {w w' : World} {base : Nat} {E : TypeId} {sz : Nat} {v : Value} {n : Nat} {xs : List Value} (h : w.ownsRow base E sz v n xs) (b : Below w.heap.size w w') : w'.ownsRow base E sz v n xs :=
  own_keep h (grown_below b) (fun j hj => by cases hj)

theorem own_shape {w : World} {base : Nat} {E : TypeId} {v : Value} {n : Nat} {xs : List Value} (h : w.ownsRow base E 1 v n xs) : ∃ ao cap, v = .slice ao n cap := by
  rcases h.2 with ⟨rfl, rfl⟩ | ⟨b, cap, cur, rfl, _⟩
  · exact ⟨none, 0, rfl⟩
  · exact ⟨_, _, rfl⟩

theorem own_at {w : World} {base : Nat} {E : TypeId} {ao : Option Addr} {n cap i : Nat} {xs : List Value} {v : Value} (h : w.ownsRow base E 1 (.slice ao n cap) n xs) (hi : i < n) (hv : xs[i]? = some v) : ∃ g, ao = some ⟨g, 0, none⟩ ∧ w.cell? ⟨g, i, none⟩ = some v ∧ w.frozen? ⟨g, i, none⟩ = false := by
  rcases h.2 with ⟨e, e2⟩ | ⟨b, c, cur, e, rest⟩
  · omega
  · cases e
    exact ⟨b, rfl, own_cell h hi hv, own_frozen h⟩

theorem wt_at {W : List Bool} {i : Nat} (h : i < W.length) : W[i]? = some (wt W i) := by simp [wt, h]

section
variable {w w' : World} {av bv : Value} {A : List Int} {W : List Bool}
theorem RO.below (s : RO w av bv A W) (b : Below w.heap.size w w') : RO w' av bv A W := ⟨own_below s.a b, own_below s.b b⟩
theorem RO.ia {ao : Option Addr} {n c i : Nat} (s : RO w (.slice ao n c) bv A W) (hn : n = A.length) (hi : i < n) : ∃ g, ao = some ⟨g, 0, none⟩ ∧ w.cell? ⟨g, i, none⟩ = some (.int .i64 (fn A i)) := by
  subst hn
  obtain ⟨g, e, h, _⟩ := own_at s.a hi (by simp [fn_at hi]; rfl)
  exact ⟨g, e, h⟩
theorem RO.ib {ao : Option Addr} {n c i : Nat} (s : RO w av (.slice ao n c) A W) (hn : n = W.length) (hi : i < n) : ∃ g, ao = some ⟨g, 0, none⟩ ∧ w.cell? ⟨g, i, none⟩ = some (.bool (wt W i)) := by
  subst hn
  obtain ⟨g, e, h, _⟩ := own_at s.b hi (by simp [wt_at hi]; rfl)
  exact ⟨g, e, h⟩
theorem RO.lt (s : RO w av bv A W) : (∀ j, av.ownBlock = some j → j < w.heap.size) ∧ (∀ j, bv.ownBlock = some j → j < w.heap.size) := ⟨fun j h => (own_lt s.a h).2, fun j h => (own_lt s.b h).2⟩
end

/-- append(nil, x..): a copy. -/
theorem append_copy {w : World} {ops : Array Oper} {rest : List Oper} {o : Oper} {a : Act} {Q : Exit → Act → World → Prop} (hgd : o.guard = none) (s x : Operand) (T E : TypeId)
    (ho : o.op = .call { callee := .builtin .append, args := #[s, x], argTypes := #[T, T] }) (hT : Try.prog.underlying T = some (.slice E)) (z : Value) (by_ : Nat) (hz : z.cells.size = 1)
    (hE : (Try.prog.info? E).map (fun i => (i.zero, i.size, i.bytes)) = some (some z, 1, by_)) (hby : by_ ≤ 8) (hs : a.eval s = .slice none 0 0) (v : Value) (hx : a.eval x = v) (n : Nat) (xs : List Value) (own : w.ownsRow 0 E 1 v n xs) (h1 : ∀ u ∈ xs, u.oneCell' = true) (hbd : n ≤ 100000000)
    (h : ∀ v' w', Hid (w'.ownsRow w.heap.size E 1 v' n xs) → Hid (Below w.heap.size w w') → wpList Try.prog ops Q rest (a.put o.dst v') w') : wpList Try.prog ops Q (o :: rest) a w := by
  obtain ⟨i0, hi, hz0, hz1, hz2⟩ := info_parts hE
  have hmul : (0 + n) * by_ ≤ (0 + n) * 8 := Nat.mul_le_mul_left _ hby
  rcases own.2 with ⟨rfl, rfl⟩ | ⟨g, cap, cur, rfl, hb, hg, h2, h3, h4, h5⟩
  · have ex : xs = [] := List.eq_nil_of_length_eq_zero (by simpa using own.1)
    subst ex
    refine wpList_append_own_none hgd s x T ho w.heap.size E i0 1 hT hi (.slice none 0 0) 0 [] hs (World.ownsRow_nil _ _ _ _) hx ?_
    exact h _ w (World.ownsRow_nil _ _ _ _) (Below.refl _ _)
  · refine wpList_append_own (P := Try.prog) (w := w) hgd s x T ho w.heap.size E i0 z 1 by_ hT hi hz0 hz1 hz2 hz (by omega) (.slice none 0 0) 0 [] hs (World.ownsRow_nil _ _ _ _) ⟨g, 0, none⟩ n cap xs hx own.1 ?_ h1 (by unfold maxLen; omega) (by omega) (Nat.le_refl _) ?_
    · exact own.cells (g := g) rfl
    · intro v' w' h6 h7 _
      refine h v' w' (by rw [Nat.zero_add, List.nil_append] at h6; exact h6) ?_
      exact below_grown h7 (fun j hj => by cases hj) (Nat.le_refl _)

theorem own_fresh {w w' : World} {E : TypeId} {sz : Nat} {v : Value} {n : Nat} {xs : List Value} (h : w'.ownsRow w.heap.size E sz v n xs) {u : Value} : Nw w u v := Nw.fresh fun j hj => (own_lt h hj).1

theorem bools_one (xs : List Bool) : ∀ v ∈ xs.map Value.bool, v.oneCell' = true := by
  intro v hv
  obtain ⟨x, _, rfl⟩ := List.mem_map.1 hv
  rfl

/-! ### Is, Len -/
theorem ris_any {w : World} {av bv : Value} {A : List Int} {W : List Bool} (s : RO w av bv A W) (v : Int) : Calls Try.prog 10 #[.agg #[av, bv], .int .i64 v] w fun e w' => e = .returned (.bool (isF A.length v)) ∧ Below w.heap.size w w' := by
  obtain ⟨ao, c, rfl⟩ := own_shape s.a
  clear s
  by_cases h0 : 0 ≤ v
  · by_cases h1 : v < A.length
    · have HV : Hid (isF A.length v = true) := hid (by simp [isF]; omega)
      go_enter Try.func10, Try.ntmps10
      go_wp2
      go_ret
      exact ⟨by rw [HV.out]; simp, by go_grown⟩
    · have HV : Hid (isF A.length v = false) := hid (by simp [isF]; omega)
      go_enter Try.func10, Try.ntmps10
      go_wp2
      go_ret
      exact ⟨by rw [HV.out]; simp, by go_grown⟩
  · have HV : Hid (isF A.length v = false) := hid (by simp [isF]; omega)
    go_enter Try.func10, Try.ntmps10
    go_wp2
    go_ret
    exact ⟨by rw [HV.out]; rfl, by go_grown⟩

theorem count_next {W : List Bool} {q : Nat} (h : q < W.length) : (W.take (q + 1)).count true = (W.take q).count true + (if wt W q then 1 else 0) := by
  rw [List.take_add_one, wt_at h]
  simp [List.count_append, List.count_singleton]

theorem rlen_any {w : World} {av bv : Value} {A : List Int} {W : List Bool} (s : RO w av bv A W) (hn : W.length ≤ 1048576) : Calls Try.prog 12 #[.agg #[av, bv]] w fun e w' => e = .returned (.int .i64 (W.count true)) ∧ Below w.heap.size w w' := by
  obtain ⟨bo, d, rfl⟩ := own_shape s.b
  have HS := hid s
  clear s
  go_enter Try.func12, Try.ntmps12
  go_wp2
  go_loop [3, 4] (fun m i => ∃ q : Nat, q ≤ W.length ∧ i = .int .i64 q ∧ m = .int .i64 ((W.take q).count true)) (fun _ i => W.length - (intOf i).toNat)
  case atStart => exact ⟨0, Nat.zero_le _, rfl, rfl⟩
  case round =>
    obtain ⟨q, hq, rfl, rfl⟩ := hrel
    by_cases hlt : q < W.length
    · have hlt' : (q : Int) < W.length := by omega
      obtain ⟨g, rfl, cg⟩ := (HS.out.below (w' := w.alloc (.cells #[av, .slice bo W.length d] 29)) (by go_grown)).ib rfl hlt
      have HC := hid (count_next hlt)
      have hb : (W.take q).count true ≤ 1048576 := by have := List.count_le_length (a := true) (l := W.take q); rw [List.length_take] at this; omega
      cases hw : wt W q
      · rw [hw] at cg
        go_wp2
        go_round
        case rel => exact ⟨q + 1, by omega, by go_num, by rw [HC.out, hw]; simp⟩
        case measure => simp only [intOf]; omega
      · rw [hw] at cg
        go_wp2
        go_round
        case rel => exact ⟨q + 1, by omega, by go_num, by rw [HC.out, hw]; simp⟩
        case measure => simp only [intOf]; omega
    · have HV : Hid (W.take q = W) := hid (List.take_of_length_le (by omega))
      go_wp2
      go_ret
      exact ⟨by rw [HV.out]; rfl, by go_grown⟩

/-- The two boxes of a call of the document, and a row that is new. -/
theorem two_boxes {w w5 : World} {p q p' q' : Value} {T T' : TypeId} (b : Below ((w.alloc (.cells #[p, q] T)).alloc (.cells #[p', q'] T')).heap.size ((w.alloc (.cells #[p, q] T)).alloc (.cells #[p', q'] T')) w5) :
    w5.heap[w.heap.size]? = some (.cells #[p, q] T (0, 0)) ∧ w5.heap[w.heap.size + 1]? = some (.cells #[p', q'] T' (0, 0)) := by
  have e1 : (w.alloc (.cells #[p, q] T)).heap.size = w.heap.size + 1 := by simp
  have e2 : ((w.alloc (.cells #[p, q] T)).alloc (.cells #[p', q'] T')).heap.size = w.heap.size + 1 + 1 := by simp
  have h1 := new_same w (.cells #[p, q] T)
  have h2 := new_same (w.alloc (.cells #[p, q] T)) (.cells #[p', q'] T')
  rw [e1] at h2
  rw [e2] at b
  refine ⟨?_, ?_⟩
  · rw [b.block _ (by omega), (grown_new (w.alloc (.cells #[p, q] T)) (.cells #[p', q'] T') none).block _ (by rw [e1]; omega) (by simp)]
    exact h1
  · rw [b.block _ (by omega)]
    exact h2

theorem two_at {w w5 : World} {p q p' q' v5 v : Value} {T T' E : TypeId} {n i : Nat} {xs : List Value} (own : w5.ownsRow ((w.alloc (.cells #[p, q] T)).alloc (.cells #[p', q'] T')).heap.size E 1 v5 n xs) (b : Below ((w.alloc (.cells #[p, q] T)).alloc (.cells #[p', q'] T')).heap.size ((w.alloc (.cells #[p, q] T)).alloc (.cells #[p', q'] T')) w5)
    (hi : i < n) (hv : xs[i]? = some v) :
    ∃ g5 c5, v5 = .slice (some ⟨g5, 0, none⟩) n c5 ∧ w5.cell? ⟨w.heap.size, 0, none⟩ = some p ∧ w5.cell? ⟨w.heap.size, 1, none⟩ = some q ∧ w5.frozen? ⟨w.heap.size, 0, none⟩ = false ∧ w5.frozen? ⟨w.heap.size, 1, none⟩ = false ∧
      w5.cell? ⟨w.heap.size + 1, 0, none⟩ = some p' ∧ w5.cell? ⟨w.heap.size + 1, 1, none⟩ = some q' ∧ w5.frozen? ⟨w.heap.size + 1, 0, none⟩ = false ∧ w5.frozen? ⟨w.heap.size + 1, 1, none⟩ = false ∧
      w5.cell? ⟨g5, i, none⟩ = some v ∧ w5.frozen? ⟨g5, i, none⟩ = false ∧ ¬ g5 = w.heap.size ∧ ¬ g5 = w.heap.size + 1 := by
  obtain ⟨h1, h2⟩ := two_boxes b
  obtain ⟨ao, c5, rfl⟩ := own_shape own
  obtain ⟨g5, rfl, h3, h4⟩ := own_at own hi hv
  have h5 := (own_lt own (j := g5) rfl).1
  have e2 : ((w.alloc (.cells #[p, q] T)).alloc (.cells #[p', q'] T')).heap.size = w.heap.size + 1 + 1 := by simp
  exact ⟨g5, c5, rfl, by rw [cell_of h1]; rfl, by rw [cell_of h1]; rfl, frozen_of h1, frozen_of h1, by rw [cell_of h2]; rfl, by rw [cell_of h2]; rfl, frozen_of h2, frozen_of h2, h3, h4, by omega, by omega⟩

/-! ### set -/
def SetEnd (av bv : Value) (A : List Int) (W : List Bool) (v : Nat) (b : Bool) (w : World) (bv' : Value) (w' : World) : Prop := RO w' av bv' A (W.set v b) ∧ Nw w bv bv' ∧ Below w.heap.size w w'

theorem set_end {w w5 : World} {av bv : Value} {p' q' : Value} {A : List Int} {W : List Bool} {v g5 c5 : Nat} (s : RO w av bv A W)
    (own : w5.ownsRow ((w.alloc (.cells #[av, bv] 29)).alloc (.cells #[p', q'] 29)).heap.size 4 1 (.slice (some ⟨g5, 0, none⟩) W.length c5) W.length (W.map Value.bool)) (b : Below ((w.alloc (.cells #[av, bv] 29)).alloc (.cells #[p', q'] 29)).heap.size ((w.alloc (.cells #[av, bv] 29)).alloc (.cells #[p', q'] 29)) w5)
    (hv : v < W.length) (t : Bool) (n1 : ¬ g5 = w.heap.size) (n2 : ¬ g5 = w.heap.size + 1) :
    SetEnd av bv A W v t w (.slice (some ⟨g5, 0, none⟩) W.length c5) ((((w5.setCell ⟨w.heap.size, 1, none⟩ (.slice (some ⟨g5, 0, none⟩) W.length c5)).setCell ⟨g5, v, none⟩ (.bool t)).setCell ⟨w.heap.size + 1, 0, none⟩ av).setCell ⟨w.heap.size + 1, 1, none⟩ (.slice (some ⟨g5, 0, none⟩) W.length c5)) := by
  have e2 : ((w.alloc (.cells #[av, bv] 29)).alloc (.cells #[p', q'] 29)).heap.size = w.heap.size + 1 + 1 := by simp
  have hg := (own_lt own (j := g5) rfl).1
  rw [e2] at own b hg
  have b6 : Below w.heap.size w w5 := Below.trans (b := (w.alloc (.cells #[av, bv] 29)).alloc (.cells #[p', q'] 29)) (by go_grown) (b.mono (by omega))
  have b7 : Below w.heap.size w ((((w5.setCell ⟨w.heap.size, 1, none⟩ (.slice (some ⟨g5, 0, none⟩) W.length c5)).setCell ⟨g5, v, none⟩ (.bool t)).setCell ⟨w.heap.size + 1, 0, none⟩ av).setCell ⟨w.heap.size + 1, 1, none⟩ (.slice (some ⟨g5, 0, none⟩) W.length c5)) :=
    (((b6.setCell (by simp) _).setCell (by show w.heap.size ≤ g5; omega) _).setCell (by simp) _).setCell (by simp) _
  refine ⟨⟨own_below s.a b7, ?_⟩, ?_, b7⟩
  · have o1 := own_keep own (grown_set w5 ⟨w.heap.size, 1, none⟩ (.slice (some ⟨g5, 0, none⟩) W.length c5)) (fun j hj e => by cases hj; cases e; exact n1 rfl)
    have o2 := own_set o1 hv (.bool t)
    have o3 := own_keep o2 (grown_set _ ⟨w.heap.size + 1, 0, none⟩ av) (fun j hj e => by cases hj; cases e; exact n2 rfl)
    have o4 := own_keep o3 (grown_set _ ⟨w.heap.size + 1, 1, none⟩ (.slice (some ⟨g5, 0, none⟩) W.length c5)) (fun j hj e => by cases hj; cases e; exact n2 rfl)
    rw [List.length_set, List.map_set]
    exact own_base o4
  · exact Nw.fresh fun j hj => by cases hj; show w.heap.size ≤ g5; omega

theorem rset_any {w : World} {av bv : Value} {A : List Int} {W : List Bool} (s : RO w av bv A W) (v : Nat) (hv : v < W.length) (b : Bool) (hn : W.length ≤ 1048576) :
    Calls Try.prog 29 #[.agg #[av, bv], .int .i64 v, .bool b] w fun e w' => ∃ bv', e = .returned (.agg #[av, bv']) ∧ SetEnd av bv A W v b w bv' w' := by
  obtain ⟨ao, c, rfl⟩ := own_shape s.a
  obtain ⟨bo, d, rfl⟩ := own_shape s.b
  have HS := hid s
  have hv' : (v : Int) < W.length := by omega
  clear s
  go_enter Try.func29, Try.ntmps29
  go_wp2_with (at_builtin; refine append_copy rfl _ _ 27 4 rfl Try.underlying27 (.bool false) 1 rfl Try.info4 (by omega) rfl _ rfl W.length _ (HS.out.below (by go_grown)).b (bools_one W) (by omega) ?_; intro v5 w5 own5 b5; have h5 := two_at own5.out b5.out hv (by simp [wt_at hv]; rfl); obtain ⟨g5, c5, rfl, d0, d1, d2, d3, r0, r1, r2, r3, e1, e2, n1, n2⟩ := h5)
  refine bodyPost_ret (results_box rfl _ _ (w.heap.size + 1) (.slice ao A.length c) (.slice (some ⟨g5, 0, none⟩) W.length c5) rfl (by simp [go_sem, r0]) (by simp [go_sem, r1])) rfl ?_
  exact ⟨_, rfl, set_end HS.out own5.out b5.out hv b n1 n2⟩

/-! ### Push -/
def RpEnd (av bv : Value) (A : List Int) (W W' : List Bool) (w : World) (bv' : Value) (w' : World) : Prop := RO w' av bv' A W' ∧ Nw w bv bv' ∧ Below w.heap.size w w'

theorem rset_at {w : World} {av bv : Value} {A : List Int} {W : List Bool} (s : RO w av bv A W) (v : Nat) (hv : v < W.length) (b : Bool) (hn : W.length ≤ 1048576) :
    Calls Try.prog 29 #[.agg #[av, bv], .int .i64 v, .bool b] w fun e w' => ∃ bo d, e = .returned (.agg #[av, .slice bo W.length d]) ∧ Hid (RO w' av (.slice bo W.length d) A (W.set v b)) ∧ Hid (Nw w bv (.slice bo W.length d)) ∧ Hid (Below w.heap.size w w') := by
  refine (rset_any s v hv b hn).mono fun e w' h => ?_
  obtain ⟨bv', rfl, h1, h2, h3⟩ := h
  obtain ⟨bo, d, rfl⟩ := own_shape h1.b
  rw [List.length_set] at h1 h2 ⊢
  exact ⟨bo, d, rfl, h1, h2, h3⟩

theorem box_keep {w w' : World} {r : Nat} {o : Obj} (h : w.heap[r]? = some o) (b : Below w.heap.size w w') : w'.heap[r]? = some o := by rw [b.block _ (blk_lt h)]; exact h

/-- The cells of a box of two. -/
theorem box_cells {w : World} {r : Nat} {p q : Value} {T : TypeId} (h : w.heap[r]? = some (.cells #[p, q] T (0, 0))) : w.cell? ⟨r, 0, none⟩ = some p ∧ w.cell? ⟨r, 1, none⟩ = some q ∧ w.frozen? ⟨r, 0, none⟩ = false ∧ w.frozen? ⟨r, 1, none⟩ = false :=
  ⟨by rw [cell_of h]; rfl, by rw [cell_of h]; rfl, frozen_of h, frozen_of h⟩

theorem put_below {w w4 : World} {p q : Value} (b : Below w.heap.size w w4) : Below w.heap.size w ((w4.setCell ⟨w.heap.size + 1, 0, none⟩ p).setCell ⟨w.heap.size + 1, 1, none⟩ q) :=
  (b.setCell (by simp) _).setCell (by simp) _

theorem boxes_below {w w3 : World} {p q p' q' : Value} {T T' : TypeId} (b : Below ((w.alloc (.cells #[p, q] T)).alloc (.cells #[p', q'] T')).heap.size ((w.alloc (.cells #[p, q] T)).alloc (.cells #[p', q'] T')) w3) : Below w.heap.size w w3 :=
  Below.trans (b := (w.alloc (.cells #[p, q] T)).alloc (.cells #[p', q'] T')) (by go_grown) (b.mono (by simp; omega))

/-- The result is written into a box that is no row's. -/
theorem RO.put {w : World} {av bv p q : Value} {A : List Int} {W : List Bool} {r : Nat} (s : RO w av bv A W) (h1 : av.ownBlock ≠ some r) (h2 : bv.ownBlock ≠ some r) : RO ((w.setCell ⟨r, 0, none⟩ p).setCell ⟨r, 1, none⟩ q) av bv A W :=
  ⟨own_keep (own_keep s.a (grown_set w _ _) (fun j hj => by cases hj; exact h1)) (grown_set _ _ _) (fun j hj => by cases hj; exact h1), own_keep (own_keep s.b (grown_set w _ _) (fun j hj => by cases hj; exact h2)) (grown_set _ _ _) (fun j hj => by cases hj; exact h2)⟩

theorem RO.ne {w w3 : World} {av : Value} {A : List Int} {W : List Bool} {bv bv' : Value} (s : RO w av bv A W) (h : Nw w3 bv bv') (hs : w.heap.size + 2 ≤ w3.heap.size) : av.ownBlock ≠ some (w.heap.size + 1) ∧ bv'.ownBlock ≠ some (w.heap.size + 1) := by
  refine ⟨fun e => ?_, fun e => ?_⟩
  · have := s.lt.1 _ e; omega
  · rcases h _ e with h | h
    · have := s.lt.2 _ h; omega
    · omega

set_option maxHeartbeats 1000000 in
theorem rpush_any {w : World} {av bv : Value} {A : List Int} {W : List Bool} (s : RO w av bv A W) (v : Int) (hl : W.length = A.length) (hn : W.length ≤ 1048576) :
    Calls Try.prog 19 #[.agg #[av, bv], .int .i64 v] w fun e w' => ∃ bv', e = .returned (.tuple #[.agg #[av, bv'], .bool (pushA A.length W v)]) ∧ RpEnd av bv A W (pushW A.length W v) w bv' w' := by
  obtain ⟨ao, c, rfl⟩ := own_shape s.a
  obtain ⟨bo, d, rfl⟩ := own_shape s.b
  have HS := hid s
  have HL := hid hl
  clear s
  cases hi : isF A.length v
  · have HA : Hid (pushA A.length W v = false) := hid (by simp [pushA, hi])
    clear hl
    go_enter Try.func19, Try.ntmps19
    go_wp2_with (go_at_call 10; with_reducible (refine (ris_any (HS.out.below (by go_grown)) _).mono ?_); rintro e w3 ⟨rfl, b3⟩; have h3 := two_boxes b3; obtain ⟨h4, h5⟩ := h3; have d0 := box_cells h4; have r0 := box_cells h5; obtain ⟨d1, d2, d3, d4⟩ := d0; obtain ⟨r1, r2, r3, r4⟩ := r0)
    refine bodyPost_ret (results_box2 rfl _ _ (w.heap.size + 1) (.slice ao A.length c) (.slice bo W.length d) rfl (by simp [go_sem, r1]) (by simp [go_sem, r2])) rfl ?_
    have b4 := boxes_below b3
    exact ⟨_, by rw [HA.out]; rfl, by rw [pushW, HA.out]; exact HS.out.below (put_below b4), Nw.refl _ _, put_below b4⟩
  · obtain ⟨v, rfl, hv⟩ := isF_yes hi
    have hvw : v < W.length := by omega
    have hv' : (v : Int) < W.length := by omega
    obtain ⟨g, rfl, cg⟩ := HS.out.ib rfl hvw
    cases hw : wt W v
    · have HA : Hid (pushA A.length W v = true) := hid (by simp [pushA, hi, hw])
      rw [hw] at cg
      clear hl
      go_enter Try.func19, Try.ntmps19
      go_wp2_with (first
        | (go_at_call 10; with_reducible (refine (ris_any (HS.out.below (by go_grown)) _).mono ?_); rintro e w3 ⟨rfl, b3⟩; have h3 := two_boxes b3; obtain ⟨h4, h5⟩ := h3; have d0 := box_cells h4; obtain ⟨d1, d2, d3, d4⟩ := d0; have b4 := boxes_below b3; have cg3 := (b4.cell (cell_lt cg)).trans cg)
        | (go_at_call 29; with_reducible (refine (rset_at (HS.out.below b4) v hvw true hn).mono ?_); rintro e w4 ⟨bo', d', rfl, h6, h6n, b6⟩; have h7 := box_keep h5 b6.out; have r0 := box_cells h7; obtain ⟨r1, r2, r3, r4⟩ := r0))
      refine bodyPost_ret (results_box2 rfl _ _ (w.heap.size + 1) (.slice ao A.length c) (.slice bo' W.length d') rfl (by simp [go_sem, r1]) (by simp [go_sem, r2])) rfl ?_
      have hsz : w.heap.size + 2 ≤ w3.heap.size := by have := b3.size; simp at this; omega
      obtain ⟨q1, q2⟩ := HS.out.ne h6n.out hsz
      have b8 := put_below (p := .slice ao A.length c) (q := .slice bo' W.length d') (Below.next b4 b6.out)
      exact ⟨_, by rw [HA.out]; rfl, by rw [pushW, HA.out]; exact h6.out.put q1 q2, h6n.out.mono b4.size, b8⟩
    · have HA : Hid (pushA A.length W v = false) := hid (by simp [pushA, hi, hw])
      rw [hw] at cg
      clear hl
      go_enter Try.func19, Try.ntmps19
      go_wp2_with (go_at_call 10; with_reducible (refine (ris_any (HS.out.below (by go_grown)) _).mono ?_); rintro e w3 ⟨rfl, b3⟩; have h3 := two_boxes b3; obtain ⟨h4, h5⟩ := h3; have d0 := box_cells h4; have r0 := box_cells h5; obtain ⟨d1, d2, d3, d4⟩ := d0; obtain ⟨r1, r2, r3, r4⟩ := r0; have b4 := boxes_below b3; have cg3 := (b4.cell (cell_lt cg)).trans cg)
      refine bodyPost_ret (results_box2 rfl _ _ (w.heap.size + 1) (.slice ao A.length c) (.slice (some ⟨g, 0, none⟩) W.length d) rfl (by simp [go_sem, r1]) (by simp [go_sem, r2])) rfl ?_
      exact ⟨_, by rw [HA.out]; rfl, by rw [pushW, HA.out]; exact HS.out.below (put_below b4), Nw.refl _ _, put_below b4⟩

end Go.Proofs.Ytbddhjohlpblaaa
