/-
  Lists of clauses, one behind the other.
-/
import Derived.Test.YtdkkdfgaponlbaaMem
import Derived.Test.YtdkkdfgaponlbaaGrid
import Derived.Test.YtdkkdfgaponlbaaSorted
import Derived.Test.YtdkkdfgaponlbaaGrowth
import Derived.Laws.AppendOwnNone
namespace Go.Proofs.Ytdkkdfgaponlbaa
open Go.RowKit
set_option linter.unusedVariables false

theorem Try.info26 : (Try.prog.info? 26).map (fun i => (i.zero, i.size, i.bytes)) = some (some (.slice none 0 0), 1, 24) := by kernel_rfl

/-- The values are lists that lie in memory. -/
def GV (w : World) (vs : List Value) (xss : List (List Int)) : Prop := vs.length = xss.length ∧ ∀ j, j < vs.length → ∃ a m c, vs[j]? = some (.slice a m c) ∧ Row w a m c (xss.getD j [])

theorem GV.keep {w w' : World} {vs : List Value} {xss : List (List Int)} (h : GV w vs xss) (b : Below w.heap.size w w') : GV w' vs xss := by
  refine ⟨h.1, fun j hj => ?_⟩
  obtain ⟨a, m, c, h1, h2⟩ := h.2 j hj
  exact ⟨a, m, c, h1, h2.keep b⟩

theorem Grid.vals {w : World} {ao : Option Addr} {n cap : Nat} {xss : List (List Int)} (h : Grid w ao n cap xss) : ∃ vs, vs.length = n ∧ GV w vs xss ∧ (0 < n → ∃ ad, ao = some ad ∧ ∀ j u, vs[j]? = some u → w.cell? (ad.add j) = some u) := by
  by_cases h0 : 0 < n
  · obtain ⟨b, off, e, hc⟩ := h.2.2.2.2 h0
    refine ⟨(List.range n).map fun j => (w.cell? ⟨b, off + j, none⟩).getD undef, by simp, ⟨by simp [h.1], fun j hj => ?_⟩, fun _ => ⟨_, e, fun j u hj => ?_⟩⟩
    · have hj2 : j < n := by simpa using hj
      obtain ⟨a, m, c, h1, h2⟩ := hc j hj2
      exact ⟨a, m, c, by simp [hj2, h1], h2⟩
    · have hj2 : j < n := by
        have := (List.getElem?_eq_some_iff.1 hj).1; simpa using this
      obtain ⟨a, m, c, h1, h2⟩ := hc j hj2
      simp [hj2, h1] at hj
      rw [← hj, ← h1]
      congr 1
      by_cases hz : j = 0
      · subst hz; rfl
      · simp [Addr.add, hz]
  · refine ⟨[], by simp; omega, ⟨by have := h.1; simp; omega, fun j hj => by simp at hj⟩, fun h => absurd h h0⟩

theorem own_grid {w : World} {B : Nat} {v : Value} {vs : List Value} {xss : List (List Int)} (own : w.ownsRow B 26 1 v vs.length vs) (g : GV w vs xss) : ∃ ao c, v = .slice ao vs.length c ∧ Grid w ao vs.length c xss := by
  rcases own.2 with ⟨rfl, hn⟩ | ⟨gb, cap, cur, rfl, hb, hg, hl, hm, rest⟩
  · rw [hn]
    refine ⟨none, 0, rfl, ⟨by have := g.1; omega, Nat.le_refl _, by unfold maxLen; omega, fun _ => rfl, fun h => by omega⟩⟩
  · refine ⟨_, _, rfl, g.1.symm, hl, hm, fun h => by simp at h, fun _ => ⟨gb, 0, rfl, fun j hj => ?_⟩⟩
    obtain ⟨a, m, c, h1, h2⟩ := g.2 j hj
    have h3 : w.ownsRow B 26 1 (.slice (some ⟨gb, 0, none⟩) vs.length cap) vs.length vs := own
    refine ⟨a, m, c, ?_, h2⟩
    rw [Nat.zero_add, h3.cellAt j (by omega)]
    exact h1

theorem GV.app {w : World} {vs us : List Value} {xss yss : List (List Int)} (h : GV w vs xss) (g : GV w us yss) : GV w (vs ++ us) (xss ++ yss) := by
  refine ⟨by simp [h.1, g.1], fun j hj => ?_⟩
  by_cases hjl : j < vs.length
  · obtain ⟨a, m, c, e1, e2⟩ := h.2 j hjl
    refine ⟨a, m, c, by rw [List.getElem?_append_left hjl]; exact e1, ?_⟩
    have : (xss ++ yss).getD j [] = xss.getD j [] := by
      simp only [List.getD_eq_getElem?_getD]; rw [List.getElem?_append_left (by rw [← h.1]; exact hjl)]
    rw [this]; exact e2
  · have hj2 : j - vs.length < us.length := by simp at hj; omega
    obtain ⟨a, m, c, e1, e2⟩ := g.2 (j - vs.length) hj2
    refine ⟨a, m, c, by rw [List.getElem?_append_right (by omega)]; exact e1, ?_⟩
    have : (xss ++ yss).getD j [] = yss.getD (j - vs.length) [] := by
      simp only [List.getD_eq_getElem?_getD]; rw [List.getElem?_append_right (by rw [← h.1]; omega), ← h.1]
    rw [this]; exact e2

theorem gv_one {w : World} {vs : List Value} {xss : List (List Int)} (h : GV w vs xss) : ∀ u ∈ vs, u.oneCell' = true := by
  intro u hu
  obtain ⟨j, hj, e⟩ := List.mem_iff_getElem.1 hu
  obtain ⟨a, m, c, h3, _⟩ := h.2 j hj
  rw [List.getElem?_eq_getElem hj, e] at h3
  simp only [Option.some.injEq] at h3
  rw [h3]; rfl

/-- A list of clauses that came in, behind a list that the call has made. -/
theorem append_grid {w w0 : World} {ops : Array Oper} {rest : List Oper} {o : Oper} {a : Act} {Q : Exit → Act → World → Prop} (hgd : o.guard = none) (s x : Operand)
    (ho : o.op = .call { callee := .builtin .append, args := #[s, x], argTypes := #[22, 22] }) (k : Nat) (v : Value) (vs : List Value) (hs : a.eval s = v) (own : w.ownsRow w0.heap.size 26 1 v k vs) (bel : Below w0.heap.size w0 w)
    (ao : Option Addr) (n c : Nat) (hx : a.eval x = .slice ao n c) (xss : List (List Int)) (gr : Grid w0 ao n c xss) (hk : k ≤ 1000) (hbd : n ≤ 1000)
    (h : ∀ us v' w', Hid (us.length = n) → Hid (GV w0 us xss) → Hid (w'.ownsRow w0.heap.size 26 1 v' (k + n) (vs ++ us)) → Hid (Below w0.heap.size w0 w') → wpList Try.prog ops Q rest (a.put o.dst v') w') : wpList Try.prog ops Q (o :: rest) a w := by
  obtain ⟨i0, hi, hz0, hz1, hz2⟩ := info_parts Try.info26
  obtain ⟨us, hl, gv, hc⟩ := gr.vals
  have hbel : ∀ {w'}, w.grownBy w' v.ownBlock → Below w0.heap.size w0 w' := fun hg => bel.grown hg bel.size fun j hj => (own.lt j hj).1
  by_cases h0 : n = 0
  · subst h0
    have e : us = [] := List.eq_nil_of_length_eq_zero hl
    subst e
    cases ao with
    | none =>
      have ec := gr.2.2.2.1 rfl
      subst ec
      refine wpList_append_own_none hgd s x 22 ho w0.heap.size 26 i0 1 Try.underlying22 hi v k vs hs own hx ?_
      exact h [] _ _ hl gv (hid (by simpa using own)) bel
    | some ad =>
      refine wpList_append_own (P := Try.prog) (w := w) hgd s x 22 ho w0.heap.size 26 i0 (.slice none 0 0) 1 24 Try.underlying22 hi hz0 hz1 hz2 rfl (by decide) v k vs hs own ad 0 c [] hx rfl (fun j u hj => by simp at hj) (fun u hu => by simp at hu) (by unfold maxLen; omega) (by omega) bel.size ?_
      intro v' w' h1 h2 _
      exact h [] v' w' hl gv (hid h1) (hbel h2)
  · obtain ⟨ad, rfl, hca⟩ := hc (by omega)
    refine wpList_append_own (P := Try.prog) (w := w) hgd s x 22 ho w0.heap.size 26 i0 (.slice none 0 0) 1 24 Try.underlying22 hi hz0 hz1 hz2 rfl (by decide) v k vs hs own ad n c us hx (by rw [hl, Nat.mul_one]) (fun j u hj => ?_) (gv_one gv) (by unfold maxLen; omega) (by omega) bel.size ?_
    · have h1 := hca j u hj
      rw [bel.cell (cell_lt h1)]; exact h1
    · intro v' w' h1 h2 _
      exact h us v' w' hl gv (hid h1) (hbel h2)

theorem Own.keep {w w' : World} {B : Nat} {v : Value} {xs : List Int} (h : Own w B v xs) (b : Below w.heap.size w w') : Own w' B v xs := by
  obtain ⟨⟨h0, h1⟩, h2⟩ := h
  refine ⟨⟨h0, ?_⟩, h2⟩
  rcases h1 with h1 | ⟨g, cap, cur, e, hb, hg, rest⟩
  · exact .inl h1
  · exact .inr ⟨g, cap, cur, e, hb, by rw [b.block _ (blk_lt hg)]; exact hg, rest⟩

/-- A list of clauses that the call has made; the clauses are older. -/
def OwnG (w0 w : World) (v : Value) (xss : List (List Int)) : Prop := ∃ vs, w.ownsRow w0.heap.size 26 1 v xss.length vs ∧ GV w0 vs xss

theorem OwnG.nil (w0 w : World) : OwnG w0 w (.slice none 0 0) [] := ⟨[], World.ownsRow_nil _ _ _ _, rfl, fun j hj => by simp at hj⟩

theorem OwnG.alloc {w0 w : World} {v : Value} {xss : List (List Int)} (h : OwnG w0 w v xss) (o : Obj) : OwnG w0 (w.alloc o) v xss := by
  obtain ⟨vs, h1, h2⟩ := h
  exact ⟨vs, h1.alloc o, h2⟩

theorem OwnG.keep {w0 w w' : World} {v : Value} {xss : List (List Int)} (h : OwnG w0 w v xss) (b : Below w.heap.size w w') : OwnG w0 w' v xss := by
  obtain ⟨vs, ⟨h0, h1⟩, h2⟩ := h
  refine ⟨vs, ⟨h0, ?_⟩, h2⟩
  rcases h1 with h1 | ⟨g, cap, cur, e, hb, hg, rest⟩
  · exact .inl h1
  · exact .inr ⟨g, cap, cur, e, hb, by rw [b.block _ (blk_lt hg)]; exact hg, rest⟩

theorem OwnG.grid {w0 w : World} {v : Value} {xss : List (List Int)} (h : OwnG w0 w v xss) (b : Below w0.heap.size w0 w) : ∃ ao n c, v = .slice ao n c ∧ n = xss.length ∧ Hid (Grid w ao n c xss) := by
  obtain ⟨vs, h1, h2⟩ := h
  have e : xss.length = vs.length := h2.1.symm
  rw [e] at h1
  obtain ⟨ao, c, e2, g⟩ := own_grid h1 (h2.keep b)
  exact ⟨ao, _, c, e2, e.symm, g⟩

theorem cat_grid {w w0 : World} {ops : Array Oper} {rest : List Oper} {o : Oper} {a : Act} {Q : Exit → Act → World → Prop} (hgd : o.guard = none) (s x : Operand)
    (ho : o.op = .call { callee := .builtin .append, args := #[s, x], argTypes := #[22, 22] }) (v : Value) (xss yss : List (List Int)) (hs : a.eval s = v) (own : OwnG w0 w v xss) (bel : Below w0.heap.size w0 w)
    (ao : Option Addr) (n c : Nat) (hx : a.eval x = .slice ao n c) (gr : Grid w0 ao n c yss) (hk : xss.length ≤ 1000) (hbd : n ≤ 1000)
    (h : ∀ v' w', Hid (OwnG w0 w' v' (xss ++ yss)) → Hid (Below w0.heap.size w0 w') → wpList Try.prog ops Q rest (a.put o.dst v') w') : wpList Try.prog ops Q (o :: rest) a w := by
  obtain ⟨vs, h1, h2⟩ := own
  refine append_grid hgd s x ho _ v vs hs h1 bel ao n c hx yss gr hk hbd fun us v' w' g1 g2 g3 g4 => h v' w' (hid ⟨vs ++ us, ?_, h2.app g2.out⟩) g4
  rw [List.length_append, gr.1]; exact g3.out

theorem cat_cell {w w0 : World} {ops : Array Oper} {rest : List Oper} {o : Oper} {a : Act} {Q : Exit → Act → World → Prop} (hgd : o.guard = none) (s x : Operand)
    (ho : o.op = .call { callee := .builtin .append, args := #[s, x], argTypes := #[22, 22] }) (v : Value) (xss : List (List Int)) (ys : List Int) (hs : a.eval s = v) (own : OwnG w0 w v xss) (bel : Below w0.heap.size w0 w)
    (g : Nat) (hx : a.eval x = .slice (some ⟨g, 0, none⟩) 1 1) (sa : Option Addr) (m c : Nat) (hc : w.cell? ⟨g, 0, none⟩ = some (.slice sa m c)) (row : Row w0 sa m c ys) (hk : xss.length ≤ 1000)
    (h : ∀ v' w', Hid (OwnG w0 w' v' (xss ++ [ys])) → Hid (Below w0.heap.size w0 w') → wpList Try.prog ops Q rest (a.put o.dst v') w') : wpList Try.prog ops Q (o :: rest) a w := by
  obtain ⟨vs, h1, h2⟩ := own
  obtain ⟨i0, hi, hz0, hz1, hz2⟩ := info_parts Try.info26
  have gv : GV w0 [.slice sa m c] [ys] := ⟨rfl, fun j hj => by
    obtain rfl : j = 0 := by simpa using hj
    exact ⟨sa, m, c, rfl, row⟩⟩
  refine wpList_append_own (P := Try.prog) (w := w) hgd s x 22 ho w0.heap.size 26 i0 (.slice none 0 0) 1 24 Try.underlying22 hi hz0 hz1 hz2 rfl (by decide) v _ vs hs h1 ⟨g, 0, none⟩ 1 1 [.slice sa m c] hx rfl (fun j u hj => ?_) (gv_one gv) (by unfold maxLen; omega) (by omega) bel.size ?_
  · have hj0 : j = 0 := by
      have := (List.getElem?_eq_some_iff.1 hj).1; simpa using this
    subst hj0
    simp at hj
    subst hj
    exact hc
  · intro v' w' g1 g2 _
    refine h v' w' (hid ⟨vs ++ [.slice sa m c], ?_, h2.app gv⟩) (hid (bel.grown g2 bel.size fun j hj => (h1.lt j hj).1))
    rw [List.length_append]; exact g1

theorem grow_any (n : Nat) (w : World) (hn : n ≤ 10000) : Calls Try.prog 28 #[.slice none 0 0, .int .i64 n] w fun e w' => ∃ v, e = .returned v ∧ Hid (OwnG w w' v []) ∧ Below w.heap.size w w' := by
  by_cases h0 : n = 0
  · subst h0
    refine (Try.slices_Grow_room none 0 0 0 w (by omega) (by omega) (by omega) (by omega)).mono ?_
    rintro e w' ⟨rfl, rfl⟩
    exact ⟨_, rfl, OwnG.nil _ _, Below.refl _ _⟩
  · obtain ⟨i0, hi, hz0, hz1, hz2⟩ := info_parts Try.info26
    refine (Try.slices_Grow_grow i0 (.slice none 0 0) hi hz0 (by omega) none 0 0 n [] w (by omega) (by omega) (by rw [hz2]; omega) (by omega) (by simp) (fun _ => rfl) (fun a h => by simp at h)).mono ?_
    rintro e w' ⟨rfl, rfl⟩
    refine ⟨_, rfl, ⟨[], ⟨by simp, .inr ⟨_, _, _, rfl, Nat.le_refl _, heap_alloc_new w.drew _, Nat.zero_le _, grownCap_le_maxLen _ _ _ _ (by unfold maxLen; omega), ?_, by simp⟩⟩, rfl, fun j hj => by simp at hj⟩, ?_⟩
    · have := grownCap_ge w (0 + n) 0 26
      rw [Nat.zero_add] at this
      simp [size_zeroCells, Value.cells]; omega
    · exact ((Below.refl _ _).drew).alloc (Nat.le_refl _) _

def catG (L : Nat → List (List Int)) : Nat → List (List Int)
  | 0 => []
  | k + 1 => catG L k ++ L k

structure Two (w : World) (g : Nat) (A : Nat → Option Addr) (N C : Nat → Nat) (L : Nat → List (List Int)) : Prop where
  cell : ∀ i, i < 2 → w.cell? ⟨g, i, none⟩ = some (.slice (A i) (N i) (C i))
  grid : ∀ i, i < 2 → Grid w (A i) (N i) (C i) (L i)
  le : ∀ i, i < 2 → N i ≤ 100

theorem Two.len {w : World} {g : Nat} {A : Nat → Option Addr} {N C : Nat → Nat} {L : Nat → List (List Int)} (h : Two w g A N C L) : ∀ k, k ≤ 2 → (catG L k).length ≤ 100 * k := by
  intro k
  induction k with
  | zero => intro _; simp [catG]
  | succ k ih =>
    intro hk
    have := ih (by omega)
    have := (h.grid k (by omega)).1
    have := h.le k (by omega)
    simp [catG]; omega

set_option maxHeartbeats 2000000 in
theorem concat_any (g : Nat) (A : Nat → Option Addr) (N C : Nat → Nat) (L : Nat → List (List Int)) (w : World) (h : Two w g A N C L) :
    Calls Try.prog 19 #[.slice (some ⟨g, 0, none⟩) 2 2] w fun e w' => ∃ v, e = .returned v ∧ Hid (OwnG w w' v (catG L 2)) ∧ Below w.heap.size w w' := by
  have HF : Hid (Two w g A N C L) := h
  clear h
  go_enter Try.func19, Try.ntmps19
  go_wp2
  go_loop [3, 5, 11] (fun s _ i => ∃ k : Nat, k ≤ 2 ∧ i = .int .i64 k ∧ ∃ t : Nat, s = .int .i64 t ∧ t ≤ 200 ∧ Hid (t = (catG L k).length)) (fun _ _ i => 2 - (intOf i).toNat)
  case atStart => exact ⟨0, by omega, rfl, 0, rfl, by omega, rfl⟩
  case round =>
    obtain ⟨k, hk, rfl, t, rfl, ht, hl⟩ := hrel
    by_cases hlt : k < 2
    · have hc := HF.out.cell k hlt
      have hlt' : (k : Int) < 2 := by omega
      have hN := HF.out.le k hlt
      have HT : Hid (t + N k = (catG L (k + 1)).length) := by
        show _ = _
        rw [catG, List.length_append, ← hl.out, (HF.out.grid k hlt).1]
      have ht2 : t + N k ≤ 200 := by
        have := HF.out.len (k + 1) (by omega)
        rw [HT.out]; omega
      go_wp2
      go_round
      case rel => exact ⟨k + 1, by omega, by go_num, t + N k, by go_num, ht2, HT⟩
      case measure => simp only [intOf]; omega
    · have hk4 : k = 2 := by omega
      subst hk4
      have hb0 := Below.refl w.heap.size w
      go_wp2_with (go_at_call 28; with_reducible (refine (grow_any _ _ (by omega)).mono ?_); rintro e w1 ⟨v, rfl, hown, hb⟩)
      clear hl
      go_loopw [6, 8, 27] (fun v _ i wr => ∃ k : Nat, k ≤ 2 ∧ i = .int .i64 k ∧ Hid (OwnG w wr v (catG L k)) ∧ Below w.heap.size w wr) (fun _ _ i _ => 2 - (intOf i).toNat)
      case atStart => exact ⟨0, by omega, rfl, hown, hb⟩
      case round =>
        obtain ⟨k, hk, rfl, hown, hb⟩ := hrel
        by_cases hlt : k < 2
        · have hc := (hb.cell (cell_lt (HF.out.cell k hlt))).trans (HF.out.cell k hlt)
          have hlt' : (k : Int) < 2 := by omega
          have hN := HF.out.le k hlt
          have hL := HF.out.len k (by omega)
          go_wp2_with (at_builtin; refine cat_grid rfl (.tmp 31) (.tmp 32) rfl _ (catG L k) (L k) rfl hown.out hb _ _ _ rfl (HF.out.grid k hlt) (by omega) (by omega) ?_; intro v2 w2 hown2 hb2)
          go_roundw
          case rel => exact ⟨k + 1, by omega, by go_num, hown2, hb2.out⟩
          case measure => simp only [intOf]; omega
        · have hk4 : k = 2 := by omega
          subst hk4
          go_wp2
          go_ret
          exact ⟨_, rfl, hown, hb⟩

/-- Two lists of clauses, one behind the other. -/
theorem concat_two (w : World) (la : Option Addr) (n cap : Nat) (L : List (List Int)) (gl : Grid w la n cap L) (pa : Option Addr) (m pcap : Nat) (P : List (List Int)) (gp : Grid w pa m pcap P) (hn : n ≤ 100) (hm : m ≤ 100) :
    Calls Try.prog 19 #[.slice (some ⟨w.heap.size, 0, none⟩) 2 2] (w.alloc (.cells #[.slice la n cap, .slice pa m pcap] 22)) fun e w' => ∃ ao k c, e = .returned (.slice ao k c) ∧ k = n + m ∧ Hid (Grid w' ao k c (L ++ P)) ∧ Hid (Below w.heap.size w w') := by
  have b : Below w.heap.size w (w.alloc (.cells #[.slice la n cap, .slice pa m pcap] 22)) := (Below.refl _ _).alloc (Nat.le_refl _) _
  refine (concat_any w.heap.size (fun i => if i = 0 then la else pa) (fun i => if i = 0 then n else m) (fun i => if i = 0 then cap else pcap) (fun i => if i = 0 then L else P) _ ⟨fun i hi => ?_, fun i hi => ?_, fun i hi => ?_⟩).mono ?_
  · match i, hi with
    | 0, _ => simp
    | 1, _ => simp
  · match i, hi with
    | 0, _ => exact gl.keep b
    | 1, _ => exact gp.keep b
  · match i, hi with
    | 0, _ => exact hn
    | 1, _ => exact hm
  · rintro e w' ⟨v, rfl, hown, hb⟩
    obtain ⟨ao, k, c, e, hk, g⟩ := hown.out.grid hb
    refine ⟨ao, k, c, by rw [e], ?_, ?_, Below.next b hb⟩
    · rw [hk]; simp [catG, gl.1, gp.1]
    · have e2 : catG (fun i => if i = 0 then L else P) 2 = L ++ P := by simp [catG]
      rw [e2] at g; exact g

theorem Grid.take {w : World} {ao : Option Addr} {n c j : Nat} {xss : List (List Int)} (h : Grid w ao n c xss) (hj : j ≤ n) : Grid w ao j c (xss.take j) := by
  refine ⟨by rw [List.length_take, h.1]; omega, by have := h.2.1; omega, h.2.2.1, h.2.2.2.1, fun h0 => ?_⟩
  obtain ⟨b, o, e, hc⟩ := h.2.2.2.2 (by omega)
  refine ⟨b, o, e, fun i hi => ?_⟩
  obtain ⟨a, m, c2, h1, h2⟩ := hc i (by omega)
  refine ⟨a, m, c2, h1, ?_⟩
  have e2 : (xss.take j).getD i [] = xss.getD i [] := by simp [hi]
  rw [e2]; exact h2

end Go.Proofs.Ytdkkdfgaponlbaa
