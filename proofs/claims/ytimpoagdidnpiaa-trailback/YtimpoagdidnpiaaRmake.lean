/-
  The document's Assign, Decide, Lits.
-/
import Derived.Test.YtimpoagdidnpiaaRlook
namespace Go.Proofs.Ytimpoagdidnpiaa
open Go.RowKit
set_option linter.unusedVariables false

theorem load28 (w : World) (r : Nat) (x y z : Value) (hx : w.cell? ⟨r, 0, none⟩ = some x) (hy : w.cell? ⟨r, 1, none⟩ = some y) (hz : w.cell? ⟨r, 2, none⟩ = some z) : (loadVar 28 ⟨r, 0, none⟩).run Try.prog w = .ok (.agg #[x, y, z]) w := by
  simp [go_sem, loadVar, hx, hy, hz]

theorem results_box2 {fn : Func} {p u : Tmp} (h : fn.results = #[.cell p 28, .tmp u]) (tmps : Array Value) (w : World) (r : Nat) (x y z : Value) (ht : tmps.getD p undef = .pointer (some ⟨r, 0, none⟩)) (hx : w.cell? ⟨r, 0, none⟩ = some x) (hy : w.cell? ⟨r, 1, none⟩ = some y) (hz : w.cell? ⟨r, 2, none⟩ = some z) :
    (results fn tmps).run Try.prog w = .ok (.tuple #[.agg #[x, y, z], tmps.getD u undef]) w := by
  rw [Array.getD_eq_getD_getElem?] at ht
  simp only [results, h]
  simp [Result.andThen, ht, load28 w r x y z hx hy hz, asAddr]

/-- A list behind none: a copy. -/
theorem append_copy {w : World} {ops : Array Oper} {rest : List Oper} {o : Oper} {a : Act} {Q : Exit → Act → World → Prop} (hgd : o.guard = none) (s x : Operand)
    (ho : o.op = .call { callee := .builtin .append, args := #[s, x], argTypes := #[26, 26] }) (hs : a.eval s = .slice none 0 0) (v : Value) (hx : a.eval x = v) (L : List E) (own : RO w v L) (hbd : L.length ≤ 1048576)
    (h : ∀ v' w', Hid (w'.ownsRow w.heap.size 57 3 v' L.length (flat L)) → Hid (Below w.heap.size w w') → wpList Try.prog ops Q rest (a.put o.dst v') w') : wpList Try.prog ops Q (o :: rest) a w := by
  obtain ⟨i0, hi, hz0, hz1, hz2⟩ := info_parts Try.info57
  rcases own.2 with ⟨rfl, h0⟩ | ⟨g, cap, cur, rfl, hb, hg, h2, h3, h4, h5⟩
  · have ex : L = [] := List.eq_nil_of_length_eq_zero h0
    subst ex
    refine wpList_append_own_none hgd s x 26 ho w.heap.size 57 i0 3 Try.underlying26 hi (.slice none 0 0) 0 [] hs (World.ownsRow_nil _ _ _ _) hx ?_
    exact h _ w (World.ownsRow_nil _ _ _ _) (Below.refl _ _)
  · refine wpList_append_own (P := Try.prog) (w := w) hgd s x 26 ho w.heap.size 57 i0 (.agg #[.int .i64 0, .int .i64 0, .int .i64 0]) 3 24 Try.underlying26 hi hz0 hz1 hz2 rfl (by omega) (.slice none 0 0) 0 [] hs (World.ownsRow_nil _ _ _ _) ⟨g, 0, none⟩ L.length cap (flat L) hx (flat_len L) ?_ (flat_one L) (by unfold maxLen; omega) (by omega) (Nat.le_refl _) ?_
    · exact World.ownsRow.cells own (g := g) rfl
    · intro v' w' h6 h7 _
      refine h v' w' (by rw [Nat.zero_add, List.nil_append] at h6; exact h6) ?_
      exact below_grown h7 (fun j hj => by cases hj) (Nat.le_refl _)

/-- One more. -/
theorem append_ent {w w1 : World} {ops : Array Oper} {rest : List Oper} {o : Oper} {a : Act} {Q : Exit → Act → World → Prop} (hgd : o.guard = none) (s x : Operand)
    (ho : o.op = .call { callee := .builtin .append, args := #[s, x], argTypes := #[26, 26] }) (y1 y2 y3 : Int) (hw : w = w1.alloc (.cells #[.int .i64 y1, .int .i64 y2, .int .i64 y3] 57)) (B n : Nat) (v : Value) (xs : List Value) (hs : a.eval s = v) (own : w1.ownsRow B 57 3 v n xs)
    (q : Nat) (hx : a.eval x = .slice (some ⟨q, 0, none⟩) 1 1) (hq : q = w1.heap.size) (hbd : n ≤ 1048576) (hB : B ≤ w1.heap.size)
    (h : ∀ v' w', Hid (w'.ownsRow B 57 3 v' (n + 1) (xs ++ [.int .i64 y1, .int .i64 y2, .int .i64 y3])) → Hid (Below B w1 w') → wpList Try.prog ops Q rest (a.put o.dst v') w') : wpList Try.prog ops Q (o :: rest) a w := by
  subst hw hq
  obtain ⟨i0, hi, hz0, hz1, hz2⟩ := info_parts Try.info57
  refine wpList_append_own (P := Try.prog) (w := w1.alloc (.cells #[.int .i64 y1, .int .i64 y2, .int .i64 y3] 57)) hgd s x 26 ho B 57 i0 (.agg #[.int .i64 0, .int .i64 0, .int .i64 0]) 3 24 Try.underlying26 hi hz0 hz1 hz2 rfl (by omega) v n xs hs (own.alloc _) ⟨w1.heap.size, 0, none⟩ 1 1 [.int .i64 y1, .int .i64 y2, .int .i64 y3] hx rfl ?_ (ints_one [y1, y2, y3]) (by unfold maxLen; omega) (by omega) (by simp; omega) ?_
  · intro j u hj
    rw [add_at, cell_of (new_same w1 _), Nat.zero_add]
    simpa using hj
  · intro v' w' h6 h7 _
    refine h v' w' h6 ?_
    exact below_grown (grown_two (grown_new w1 _ _) h7) (fun j hj => (own_lt own hj).1) hB

theorem two_boxes {w w5 : World} {x y : Obj} (b : Below ((w.alloc x).alloc y).heap.size ((w.alloc x).alloc y) w5) : w5.heap[w.heap.size]? = some x ∧ w5.heap[w.heap.size + 1]? = some y ∧ Below w.heap.size w w5 := by
  have e1 : (w.alloc x).heap.size = w.heap.size + 1 := by simp
  have e2 : ((w.alloc x).alloc y).heap.size = w.heap.size + 1 + 1 := by simp
  have h2 := new_same (w.alloc x) y
  rw [e1] at h2
  rw [e2] at b
  refine ⟨?_, ?_, Below.trans (b := (w.alloc x).alloc y) (by go_grown) (b.mono (by omega))⟩
  · rw [b.block _ (by omega), (grown_new (w.alloc x) y none).block _ (by rw [e1]; omega) (by simp)]
    exact new_same w x
  · rw [b.block _ (by omega)]; exact h2

theorem box_cells {w : World} {r : Nat} {p q s : Value} {T : TypeId} (h : w.heap[r]? = some (.cells #[p, q, s] T (0, 0))) : (w.cell? ⟨r, 0, none⟩ = some p ∧ w.cell? ⟨r, 1, none⟩ = some q ∧ w.cell? ⟨r, 2, none⟩ = some s) ∧ w.frozen? ⟨r, 0, none⟩ = false ∧ w.frozen? ⟨r, 1, none⟩ = false ∧ w.frozen? ⟨r, 2, none⟩ = false :=
  ⟨⟨by rw [cell_of h]; rfl, by rw [cell_of h]; rfl, by rw [cell_of h]; rfl⟩, frozen_of h, frozen_of h, frozen_of h⟩

theorem box_keep {w w' : World} {r : Nat} {o : Obj} (h : w.heap[r]? = some o) (b : Below w.heap.size w w') : w'.heap[r]? = some o := by rw [b.block _ (blk_lt h)]; exact h

theorem put3_below {B : Nat} {w w5 : World} (b : Below B w w5) {r : Nat} (hr : B ≤ r) (p q s : Value) : Below B w (((w5.setCell ⟨r, 0, none⟩ p).setCell ⟨r, 1, none⟩ q).setCell ⟨r, 2, none⟩ s) :=
  ((b.setCell (p := ⟨r, 0, none⟩) hr _).setCell (p := ⟨r, 1, none⟩) hr _).setCell (p := ⟨r, 2, none⟩) hr _

theorem own_ne {w : World} {base : Nat} {E : TypeId} {sz : Nat} {v : Value} {n r : Nat} {xs : List Value} {c : Array Value} {T : TypeId} (h : w.ownsRow base E sz v n xs) (hr : w.heap[r]? = some (.cells c T (0, 0))) (hE : E ≠ T) : v.ownBlock ≠ some r := by
  intro e
  rcases h.2 with ⟨rfl, _⟩ | ⟨b, cap, cur, rfl, hb, hg, _⟩
  · simp [Value.ownBlock] at e
  · simp [Value.ownBlock] at e
    subst e
    rw [hr] at hg
    simp only [Option.some.injEq, Obj.cells.injEq] at hg
    exact hE hg.2.1.symm

/-- The box of another thing is written. -/
theorem RO.put3 {w : World} {rv : Value} {L : List E} {r : Nat} {c : Array Value} (s : RO w rv L) (hr : w.heap[r]? = some (.cells c 28 (0, 0))) (p q t : Value) : RO (((w.setCell ⟨r, 0, none⟩ p).setCell ⟨r, 1, none⟩ q).setCell ⟨r, 2, none⟩ t) rv L :=
  own_keep s (grown3 w r 0 1 2 p q t) (fun j hj => by cases hj; exact own_ne s hr (by decide))
theorem RO.put1 {w : World} {rv : Value} {L : List E} {r o : Nat} {c : Array Value} (s : RO w rv L) (hr : w.heap[r]? = some (.cells c 28 (0, 0))) (p : Value) : RO (w.setCell ⟨r, o, none⟩ p) rv L :=
  own_keep s (grown_set w ⟨r, o, none⟩ p) (fun j hj => by cases hj; exact own_ne s hr (by decide))

/-- What is so behind a call of the document that makes a list. -/
def ReEnd (rv : Value) (L' : List E) (w : World) (rv' : Value) (w' : World) : Prop := RO w' rv' L' ∧ Nw w rv rv' ∧ Below w.heap.size w w'

theorem re_same {w w5 : World} {rv : Value} {L : List E} {r : Nat} {c : Array Value} {p q s : Value} (ro : RO w rv L) (b : Below w.heap.size w w5) (hr : w5.heap[r]? = some (.cells c 28 (0, 0))) (hlo : w.heap.size ≤ r) : ReEnd rv L w rv (((w5.setCell ⟨r, 0, none⟩ p).setCell ⟨r, 1, none⟩ q).setCell ⟨r, 2, none⟩ s) :=
  ⟨(ro.below b).put3 hr _ _ _, fun j hj => .inl hj, put3_below b hlo _ _ _⟩

/-- Behind both appends. -/
theorem re_new {w w3 w5 w6 : World} {rv v6 : Value} {L : List E} {l r : Int} {g : Nat} {p q s p' q' s' : Value} (hl : 0 ≤ l) (hw3 : Below ((w.alloc (.cells #[p, q, s] 28)).alloc (.cells #[p', q', s'] 28)).heap.size ((w.alloc (.cells #[p, q, s] 28)).alloc (.cells #[p', q', s'] 28)) w3) (b5 : Below w3.heap.size w3 w5) (b6 : Below w3.heap.size w5 w6) (own : w6.ownsRow w3.heap.size 57 3 v6 (L.length + 1) (flat L ++ [.int .i64 l, .int .i64 (g : Int), .int .i64 r])) :
    ∃ ao cp, v6 = .slice ao (L.length + 1) cp ∧ w6.heap[w.heap.size]? = some (.cells #[p, q, s] 28 (0, 0)) ∧ w6.heap[w.heap.size + 1]? = some (.cells #[p', q', s'] 28 (0, 0)) ∧
      Hid (∀ a b c : Value, ReEnd rv (L ++ [⟨l.toNat, g, r⟩]) w v6 ((((w6.setCell ⟨w.heap.size, 1, none⟩ v6).setCell ⟨w.heap.size + 1, 0, none⟩ a).setCell ⟨w.heap.size + 1, 1, none⟩ b).setCell ⟨w.heap.size + 1, 2, none⟩ c)) := by
  obtain ⟨k1, k2, b4⟩ := two_boxes hw3
  have hs3 : w.heap.size + 2 ≤ w3.heap.size := by have := hw3.size; simp at this; omega
  have b36 : Below w3.heap.size w3 w6 := b5.trans b6
  have m1 := box_keep k1 b36
  have m2 := box_keep k2 b36
  have ro : RO w6 v6 (L ++ [⟨l.toNat, g, r⟩]) := by
    unfold RO
    rw [flat_snoc, List.length_append]
    have e : ((l.toNat : Nat) : Int) = l := by omega
    simp only [e]
    exact own_base own
  obtain ⟨ao, cp, e6, _⟩ := ro.shape
  refine ⟨ao, cp, by simpa using e6, m1, m2, fun a b c => ⟨?_, ?_, ?_⟩⟩
  · have g1 := grown_set w6 ⟨w.heap.size, 1, none⟩ v6
    have m2' : (w6.setCell ⟨w.heap.size, 1, none⟩ v6).heap[w.heap.size + 1]? = some (.cells #[p', q', s'] 28 (0, 0)) := by
      rw [g1.block _ (blk_lt m2) (fun e => by have := Option.some.inj e; simp at this)]; exact m2
    exact (ro.put1 m1 v6).put3 m2' a b c
  · intro j hj
    exact .inr (by have := (own_lt own hj).1; omega)
  · exact put3_below ((Below.next b4 b36).setCell (p := ⟨w.heap.size, 1, none⟩) (Nat.le_refl _) v6) (by omega) _ _ _

section
variable {w : World} {rv : Value} {L : List E} {n lev : Nat}

set_option maxHeartbeats 2000000 in
theorem rassign_any (s : RS w rv L n lev) (l r : Int) (hu : l ≤ 9223372036854775807) (g : Nat) (lv : Int) (hg : lv = g) {b : Bool} (hb : mayF n L l = b) :
    Calls Try.prog 23 #[.agg #[.int .i64 n, rv, .int .i64 lv], .int .i64 l, .int .i64 r] w fun e w' => ∃ rv', e = .returned (.tuple #[.agg #[.int .i64 n, rv', .int .i64 lv], .bool b]) ∧ ReEnd rv (addL n L l g r) w rv' w' := by
  obtain ⟨ao, cap, rfl, _⟩ := s.ro.shape
  have HS := hid s
  have hl := s.hl
  subst hg
  clear s
  cases b
  · have HB := hid hb
    have HA : Hid (addL n L l g r = L) := hid (by simp [addL, hb])
    clear hb
    go_enter Try.func23, Try.ntmps23
    go_wp2_with (go_at_call 33; with_reducible (refine (rmay_any (HS.out.below (by go_grown)) _ hu _ HB.out).mono ?_); rintro e w3 ⟨rfl, b3⟩; have h3 := two_boxes b3.out; obtain ⟨k1, k2, b4⟩ := h3; have k3 := box_cells k1; obtain ⟨⟨d0, d1, d2⟩, d3, d4, d5⟩ := k3; have k4 := box_cells k2; obtain ⟨⟨r0, r1, r2⟩, r3, r4, r5⟩ := k4)
    refine bodyPost_ret (results_box2 rfl _ _ (w.heap.size + 1) (.int .i64 n) (.slice ao L.length cap) (.int .i64 g) rfl (by simp [go_sem, r0]) (by simp [go_sem, r1]) (by simp [go_sem, r2])) rfl ?_
    exact ⟨_, rfl, by rw [HA.out]; exact re_same HS.out.ro b4 k2 (by omega)⟩
  · have HB := hid hb
    have HA : Hid (addL n L l g r = L ++ [⟨l.toNat, g, r⟩] ∧ 0 ≤ l) := hid ⟨by simp [addL, hb], by
      simp only [mayF, Bool.and_eq_true, decide_eq_true_eq] at hb; exact hb.1.1⟩
    clear hb
    go_enter Try.func23, Try.ntmps23
    go_wp2_with (first
      | (go_at_call 33; with_reducible (refine (rmay_any (HS.out.below (by go_grown)) _ hu _ HB.out).mono ?_); rintro e w3 ⟨rfl, b3⟩; have h3 := two_boxes b3.out; obtain ⟨k1, k2, b4⟩ := h3; have k3 := box_cells k1; obtain ⟨⟨d0, d1, d2⟩, d3, d4, d5⟩ := k3)
      | (at_builtin; refine append_copy rfl _ _ rfl rfl _ rfl L (HS.out.ro.below b4) hl ?_; intro v5 w5 own5 b5; have q1 := box_keep k1 b5.out; have q2 := box_keep k2 b5.out; have q3 := box_cells q1; obtain ⟨⟨f0, f1, f2⟩, f3, f4, f5⟩ := q3)
      | (at_builtin; refine append_ent (w1 := w5) rfl _ _ rfl l g r rfl w3.heap.size L.length v5 _ rfl own5.out _ rfl (by simp) hl b5.out.size ?_; intro v6 w6 own6 b6; have y1 := re_new (rv := .slice ao L.length cap) (g := g) HA.out.2 b3.out b5.out b6.out own6.out; obtain ⟨ao6, cp6, rfl, m1, m2, y3⟩ := y1; have q7 := box_cells m1; obtain ⟨⟨g0, g1, g2⟩, g3, g4, g5⟩ := q7; have q8 := box_cells m2; obtain ⟨⟨r0, r1, r2⟩, r3, r4, r5⟩ := q8))
    refine bodyPost_ret (results_box2 rfl _ _ (w.heap.size + 1) (.int .i64 n) (.slice ao6 (L.length + 1) cp6) (.int .i64 g) rfl (by simp [go_sem, r0]) (by simp [go_sem, r1]) (by simp [go_sem, r2])) rfl ?_
    exact ⟨_, rfl, by rw [HA.out.1]; exact y3.out _ _ _⟩
end

end Go.Proofs.Ytimpoagdidnpiaa
