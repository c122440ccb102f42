/-
  A trail: Back.
  A watch in memory: its own fields, the lists of clauses, the clauses.
  A watch beside its trail; the calls that only look: has, place, beside, stands, clause, Len, Clause; put.
-/
import Derived.Test.YtimfjoinjfecjaaGreatQ02
import Derived.RangeFuncBox
import Derived.RangeFuncLeaves
import Derived.RangeFuncFrom
import Derived.RangeFuncCalls
import Derived.RangeFuncNested
import Derived.Shelf.Abstract
import Derived.OwnWalkIn
import Derived.TacticsInMore
import Derived.LoopNIn
import Derived.LoopIn
import Derived.BigRegionIn
import Derived.Test.YtimfjoinjfecjaaGreatQ04
import Derived.Test.YtimfjoinjfecjaaGreatQ03

namespace Go.Proofs.YtimfjoinjfecjaaGreat
open Go.RowKit Go.Shelf
set_option linter.unusedVariables false

attribute [local go_sem] Oper.semAt_some

/-- A place, and a literal of one of n variables. -/
abbrev Al (n : Nat) := { x : Nat × Nat // x.2 / 2 < n }

/-- What two blocks held they hold. -/
def Keep2 (A0 B0 : Nat) (A B : World) : Prop := B.heap[A0]? = A.heap[A0]? ∧ B.heap[B0]? = A.heap[B0]?

theorem keep2_t {A0 B0 : Nat} {A B C : World} (h : Keep2 A0 B0 A B) (k : Keep2 A0 B0 B C) : Keep2 A0 B0 A C := ⟨k.1.trans h.1, k.2.trans h.2⟩
theorem keep2_b {A0 B0 : Nat} {w : World} (ha : A0 < w.heap.size) (hb : B0 < w.heap.size) (W : World) (l : Nat) (o o' : Obj) (hl : w.heap.size ≤ l) (h : W.heap[l]? = some o) (a : o.isCells = false) (b : o.isWalk = false) : Keep2 A0 B0 W (W.putObj l o') :=
  ⟨(belowK_b (n₀ := w.heap.size) (w := w) (Nat.le_refl _) W l o o' hl h a b).block _ ha, (belowK_b (n₀ := w.heap.size) (w := w) (Nat.le_refl _) W l o o' hl h a b).block _ hb⟩
theorem keep2_cell {A0 B0 : Nat} {A B : World} (h : Keep2 A0 B0 A B) {o : Nat} {v : Value} : (A.cell? ⟨A0, o, none⟩ = some v → B.cell? ⟨A0, o, none⟩ = some v) ∧ (A.cell? ⟨B0, o, none⟩ = some v → B.cell? ⟨B0, o, none⟩ = some v) :=
  ⟨fun q => (World.cell?_of_block (a := ⟨A0, o, none⟩) h.1).trans q, fun q => (World.cell?_of_block (a := ⟨B0, o, none⟩) h.2).trans q⟩

set_option maxRecDepth 100000 in
set_option maxHeartbeats 2000000 in
theorem backward1_in (N : Nat) (hN : 1 ≤ N) (l Bs b off cap n len : Nat) (zs : List (Al n)) (hz : zs.length = len) (hlen : len ≤ 1048576) (J Jx : List (Al n) → World → Prop)
    (hY : ∀ pre x W, J pre W → pre.length < len → YieldAt Fence.wide (N - 1) Tryz.prog l #[.int .i64 (x.1.1 : Int), .int .i64 (x.1.2 : Int)] W fun e W' =>
      (e = .returned (.bool true) ∧ J (pre ++ [x]) W' ∧ Keep2 Bs b W W') ∨ (e = .returned (.bool false) ∧ Jx (pre ++ [x]) W'))
    (W : World) (hBs : W.cell? ⟨Bs, 0, none⟩ = some (.slice (some ⟨b, off, none⟩) len cap)) (hc : ∀ k (x : Al n), zs[k]? = some x → x.1.1 + k + 1 = len ∧ W.cell? ⟨b, off + x.1.1, none⟩ = some (.int .i64 (x.1.2 : Int))) (h0 : J [] W) :
    CallsIn Fence.wide N Tryz.prog 134 #[.func (.yield l) #[] #[], .pointer (some ⟨Bs, 0, none⟩)] W fun e W' => (∃ v, e = .returned v) ∧
      ((∃ ys, ys = zs ∧ J ys W') ∨ (∃ pre, True ∧ Jx pre W')) := by
  refine callsIn_of_wp Tryz.func134 rfl trivial ?_ rfl
  simp only [Tryz.ntmps134, List.size_toArray, List.length_cons, List.length_nil, Nat.reduceAdd, Nat.reduceSub, Array.replicate_succ, Array.replicate_zero, List.push_toArray, List.append_toArray, List.nil_append, List.cons_append]
  gi_wp2
  gi_loopw [3] (fun i wr => ∃ (k : Nat) (c : Int), k ≤ len ∧ i = .int .i64 c ∧ Hid (c + k + 1 = len) ∧ J (zs.take k) wr ∧ Hid (Keep2 Bs b W wr))
    (fun i _ => ((intOf i) + 1).toNat)
  case atStart => exact ⟨0, (len : Int) - 1, Nat.zero_le _, rfl, hid (by omega), by simpa using h0, hid ⟨rfl, rfl⟩⟩
  case round =>
    obtain ⟨k, c, hk, rfl, hck, hJs, hkp⟩ := hrel
    by_cases hlt : k < len
    · have hzk : k < zs.length := by omega
      obtain ⟨hx1, hx2⟩ := hc k zs[k] (List.getElem?_eq_getElem hzk)
      have HT : Hid (zs.take k ++ [zs[k]] = zs.take (k + 1)) := hid (by simp)
      revert hx1 hx2 HT
      generalize zs[k] = x
      obtain ⟨⟨xi, xl⟩, hxn⟩ := x
      intro hx1 hx2 HT
      simp only at hx1 hx2
      obtain rfl : c = (xi : Int) := by have := hck.out; omega
      have hxi : (xi : Int) < len := by omega
      have hcB := (keep2_cell hkp.out).1 hBs
      have hcx := (keep2_cell hkp.out).2 hx2
      obtain ⟨fn, tmps, assign, body, hy, hR⟩ := hY _ ⟨(xi, xl), hxn⟩ wr hJs (by simp; omega)
      dsimp only at hy
      gi_wp2
      refine hR.mono ?_
      rintro e W3 (⟨rfl, hJ3, hk3⟩ | ⟨rfl, hJx3⟩)
      · gi_wp2
        go_roundw
        case rel => exact ⟨k + 1, (xi : Int) - 1, by omega, rfl, hid (by omega), by rw [← HT.out]; exact hJ3, hid (keep2_t hkp.out hk3)⟩
        case measure => simp only [intOf]; omega
      · gi_wp2
        refine bodyPost_ret (results_none rfl _ _ _) rfl ?_
        exact ⟨⟨_, rfl⟩, .inr ⟨_, trivial, hJx3⟩⟩
    · obtain rfl : k = len := by omega
      obtain rfl : c = -1 := by have := hck.out; omega
      have HT : Hid (zs.take k = zs) := hid (List.take_of_length_le (by omega))
      gi_wp2
      go_end0
      exact ⟨⟨_, rfl⟩, .inl ⟨_, rfl, by rw [← HT.out]; exact hJs⟩⟩

set_option maxHeartbeats 1000000 in
theorem backward_in (N : Nat) (a : Option Addr) (len cap : Nat) (w : World) :
    CallsIn Fence.wide N Tryz.prog 102 #[.slice a len cap] w fun e w' => e = .returned (.func (.func 134) #[] #[.pointer (some ⟨w.heap.size, 0, none⟩)]) ∧ w' = w.alloc (.cells #[.slice a len cap] 42) := by
  refine callsIn_of_wp Tryz.func102 rfl trivial ?_ rfl
  simp only [Tryz.ntmps102, List.size_toArray, List.length_cons, List.length_nil, Nat.reduceAdd, Nat.reduceSub, Array.replicate_succ, Array.replicate_zero, List.push_toArray, List.append_toArray, List.nil_append, List.cons_append]
  gi_wp2
  go_ret
  exact ⟨rfl, rfl⟩

theorem backward_stops (N : Nat) (hN : 1 ≤ N) (Bs b off cap n len : Nat) (zs : List (Al n)) (hz : zs.length = len) (hlen : len ≤ 1048576) (w : World) (hBl : Bs < w.heap.size) (hbl : b < w.heap.size)
    (hBs : w.cell? ⟨Bs, 0, none⟩ = some (.slice (some ⟨b, off, none⟩) len cap)) (hc : ∀ k (x : Al n), zs[k]? = some x → x.1.1 + k + 1 = len ∧ w.cell? ⟨b, off + x.1.1, none⟩ = some (.int .i64 (x.1.2 : Int))) :
    SeqStopsK Fence.wide N Tryz.prog 134 #[.pointer (some ⟨Bs, 0, none⟩)] (fun x : Al n => #[Value.int .i64 (x.1.1 : Int), Value.int .i64 (x.1.2 : Int)]) (Keep2 Bs b) (fun ys => ys = zs) (fun _ => True) len w := fun l J Jx W hW _ _ hY h0 =>
  backward1_in N hN l Bs b off cap n len zs hz hlen J Jx hY W ((hW.cell (p := ⟨Bs, 0, none⟩) hBl).trans hBs) (fun k x hk => ⟨(hc k x hk).1, (hW.cell (p := ⟨b, off + x.1.1, none⟩) hbl).trans (hc k x hk).2⟩) h0

end Go.Proofs.YtimfjoinjfecjaaGreat

namespace Go.Proofs.YtimfjoinjfecjaaGreat
open Go.RowKit Go.Shelf
set_option linter.unusedVariables false

attribute [local go_sem] Oper.semAt_some

theorem back_out {k : K} {w : World} {F : Nat → Fc} {ls ss : List Int} {p : V} (s : Raw k w F ls ss p) (x : Int) (h : x < 0 ∨ (ss.length : Int) ≤ x) :
    Calls Tryz.prog 92 #[.pointer (some ⟨k.OB, 0, none⟩), .int .i64 x] w fun e w' => e = .returned (.slice none 0 0) ∧ Below w.heap.size w w' := by
  have HS := hid (s.below (w' := w.alloc (.cells #[.pointer (some ⟨k.OB, 0, none⟩)] 51)) (by go_grown))
  clear s
  by_cases h0 : x < 0
  · clear h
    go_enter Tryz.func92, Tryz.ntmps92
    go_wp2
    go_ret
    exact ⟨rfl, by go_grown⟩
  · have h1 : (ss.length : Int) ≤ x := by omega
    clear h
    go_enter Tryz.func92, Tryz.ntmps92
    go_wp2_with (go_at_call 32; with_reducible (refine (levels_any HS.out).mono ?_); rintro e w1 ⟨rfl, rfl⟩)
    go_ret
    exact ⟨rfl, by go_grown⟩

/-- What is so in the loop: variables vs are none any more. -/
structure Cl (k : K) (w : World) (F : Nat → Fc) (ls ss : List Int) (p : V) (vs : List Nat) (W : World) : Prop where
  raw : Raw k W (clr F vs) ls ss p
  lo : Lo k w W
  tb : Boxed W w.heap.size 51 (.pointer (some ⟨k.OB, 0, none⟩))
  sz : w.heap.size + 3 ≤ W.heap.size

def vof {n : Nat} (x : Al n) : Nat := x.1.2 / 2

theorem clr_nil (F : Nat → Fc) : clr F [] = F := by funext v; simp [clr]

theorem one_new {w w' : World} (h : w'.heap.size = w.heap.size) (x : Value) (t : TypeId) : ∀ j u, [x][j]? = some u → (w.alloc (.cells #[x] t)).cell? ((⟨w'.heap.size, 0, none⟩ : Addr).add j) = some u := by rw [h]; exact cell_one_new w x t

section
variable {k : K} {w : World} {F : Nat → Fc} {ls ss : List Int} {p : V} {vs : List Nat} {W : World}

theorem Cl.keep {W' : World} (h : Cl k w F ls ss p vs W) (hm : ∀ j, Mine k p j → j < w.heap.size) {r : Option Nat} (g : W.grownBy W' r) (hr : ∀ j, r = some j → w.heap.size < j) : Cl k w F ls ss p vs W' := by
  refine ⟨h.raw.keep g (fun j hj c => ?_), h.lo.grown g (fun j hj hlt => ?_), h.tb.kept g (fun e => ?_), Nat.le_trans h.sz g.size⟩
  · have := hr j hj; have := hm j c; omega
  · have := hr j hj; omega
  · have := hr _ e.symm; omega

theorem cl_own {α : Type} (f : α → Nat) (B : Nat) (hB : w.heap.size < B) (hm : ∀ j, Mine k p j → j < w.heap.size) : OwnFrom B (fun (pre : List α) W => Cl k w F ls ss p (pre.map f) W) :=
  fun pre W W' row hs hg hr => hs.keep hm hg (fun j hj => by have := (hr j hj).1; omega)

theorem below_others {W w3 : World} (b : Below W.heap.size W w3) : KeepsOthers W w3 := KeepsOthers.of_grownBy (grown_below b) (fun j o e => by cases e)

/-- A variable is none any more: behind the three stores. -/
theorem cl_step {w3 : World} {v : Value} {m u b : Nat} {xs : List Value} (h : Cl k w F ls ss p vs W) (hv : Boxed W (w.heap.size + 1) 42 v) (hrow : W.ownsRow (w.heap.size + 3) 3 1 v m xs) (b3 : Below W.heap.size W w3) (hu : u < k.n) (hm : ∀ j, Mine k p j → j < w.heap.size) (hb : b < w.heap.size) (hbf : b ≠ k.FB) {w4 : World}
    (e4 : w4 = ((w3.setCell ⟨k.FB, u * 3, none⟩ (.int .i64 0)).setCell ⟨k.FB, u * 3 + 1, none⟩ (.int .i64 0)).setCell ⟨k.FB, u * 3 + 2, none⟩ (.int .i64 0)) :
    Boxed w4 (w.heap.size + 1) 42 v ∧ w4.ownsRow (w.heap.size + 3) 3 1 v m xs ∧ Cl k w F ls ss p (vs ++ [u]) w4 ∧ KeepsOthers W w4 ∧ Keep2 (w.heap.size + 1 + 1) b W w4 := by
  subst e4
  have hfb : k.FB < w.heap.size := hm _ (.inl rfl)
  have g1 := grown_below b3
  have g2 := grown3 w3 k.FB (u * 3) (u * 3 + 1) (u * 3 + 2) (.int .i64 0) (.int .i64 0) (.int .i64 0)
  have hsz := h.sz
  have h3 := h.keep hm g1 (fun j hj => by cases hj)
  have r4 := h3.raw.putf hu ⟨0, 0, 0⟩
  refine ⟨(hv.kept g1 (by simp)).kept g2 (fun e => by have := Option.some.inj e; omega), own_keep (own_keep hrow g1 (fun j hj => by cases hj)) g2 (fun j hj e => ?_), ⟨?_, ?_, ?_, ?_⟩, ?_, ?_, ?_⟩
  · cases hj; have := (own_lt hrow e).1; omega
  · rw [clr_snoc]; exact r4
  · exact h3.lo.grown g2 (fun j hj _ => by cases hj; exact .inl rfl)
  · exact h3.tb.kept g2 (fun e => by have := Option.some.inj e; omega)
  · exact Nat.le_trans h3.sz g2.size
  · exact (((below_others b3).trans (KeepsOthers.setCell _ _ _)).trans (KeepsOthers.setCell _ _ _)).trans (KeepsOthers.setCell _ _ _)
  · rw [g2.block _ (by have := b3.size; omega) (fun e => by have := Option.some.inj e; omega), b3.block _ (by omega)]
  · rw [g2.block _ (by have := b3.size; omega) (fun e => hbf (Option.some.inj e)), b3.block _ (by omega)]

/-- It is told: behind the append and its store. -/
theorem cl_more {w4 w5 : World} {v v' : Value} {m b : Nat} {xs ys : List Value} {c : Array Value} (h : Cl k w F ls ss p vs w4) (hv : Boxed w4 (w.heap.size + 1) 42 v) (hrow : w4.ownsRow (w.heap.size + 3) 3 1 v m xs) (hown : w5.ownsRow (w.heap.size + 3) 3 1 v' (m + 1) ys) (g : (w4.alloc (.cells c 3)).grownBy w5 v.ownBlock) (hm : ∀ j, Mine k p j → j < w.heap.size) (hb : b < w.heap.size) :
    Boxed w5 (w.heap.size + 1) 42 v ∧ Boxed (w5.setCell ⟨w.heap.size + 1, 0, none⟩ v') (w.heap.size + 1) 42 v' ∧ (w5.setCell ⟨w.heap.size + 1, 0, none⟩ v').ownsRow (w.heap.size + 3) 3 1 v' (m + 1) ys ∧ Cl k w F ls ss p vs (w5.setCell ⟨w.heap.size + 1, 0, none⟩ v') ∧ KeepsOthers w4 (w5.setCell ⟨w.heap.size + 1, 0, none⟩ v') ∧ Keep2 (w.heap.size + 1 + 1) b w4 (w5.setCell ⟨w.heap.size + 1, 0, none⟩ v') := by
  have far : ∀ j, v.ownBlock = some j → w.heap.size + 3 ≤ j := fun j e => (own_lt hrow e).1
  have g1 := grown_two (grown_new w4 (.cells c 3) v.ownBlock) g
  have g2 := grown_set w5 ⟨w.heap.size + 1, 0, none⟩ v'
  have hsz := h.sz
  have b5 : Boxed w5 (w.heap.size + 1) 42 v := hv.kept g1 (fun e => by have := far _ e.symm; omega)
  have h5 := h.keep hm g1 (fun j hj => by have := far j hj; omega)
  refine ⟨b5, b5.set v', own_keep hown g2 (fun j hj e => ?_), h5.keep hm g2 (fun j hj => by cases hj; show w.heap.size < w.heap.size + 1; omega), ?_, ?_, ?_⟩
  · cases hj; have := (own_lt hown e).1; simp at this
  · refine (KeepsOthers.of_grownBy g1 fun j o ej hj => ?_).trans (KeepsOthers.setCell _ _ _)
    rcases hrow.2 with ⟨rfl, _⟩ | ⟨q, cap, cur, rfl, _, hgb, _⟩
    · simp [Value.ownBlock] at ej
    · obtain rfl : q = j := by simpa [Value.ownBlock] using ej
      rw [hgb] at hj; cases hj; rfl
  · rw [g2.block _ (by have := g1.size; omega) (fun e => by have := Option.some.inj e; simp at this), g1.block _ (by omega) (fun e => by have := far _ e.symm; omega)]
  · rw [g2.block _ (by have := g1.size; omega) (fun e => by have := Option.some.inj e; simp at this; omega), g1.block _ (by omega) (fun e => by have := far _ e.symm; omega)]
end

/-- What is so behind Back. -/
def BkEnd (k : K) (w : World) (F : Nat → Fc) (ls ss : List Int) (p : V) (i c : Nat) (vs : List Nat) (v : Value) (w' : World) : Prop :=
  w'.ownsRow w.heap.size 3 1 v vs.length (vs.map (fun u : Nat => Value.int .i64 (u : Int))) ∧ Lo k w w' ∧ ∃ p', Raw k w' (clr F vs) (ls.take c) (ss.take i) p' ∧ p'.l.ownBlock = p.l.ownBlock ∧ p'.s.ownBlock = p.s.ownBlock ∧ ∀ g i, Room p'.l g i → Room p.l g i

theorem grown_refl (w : World) (r : Option Nat) : w.grownBy w r := ⟨rfl, rfl, rfl, Nat.le_refl _, fun _ _ _ => rfl⟩

theorem own_low {w : World} {B B' : Nat} {e : TypeId} {size n : Nat} {v : Value} {xs : List Value} (h : w.ownsRow B e size v n xs) (hB : B' ≤ B) : w.ownsRow B' e size v n xs := by
  obtain ⟨h0, h1⟩ := h
  refine ⟨h0, ?_⟩
  rcases h1 with h1 | ⟨g, cap, cur, e1, hb, rest⟩
  · exact .inl h1
  · exact .inr ⟨g, cap, cur, e1, Nat.le_trans hB hb, rest⟩

theorem bk_end0 {k : K} {w W : World} {F : Nat → Fc} {ls ss : List Int} {p : V} {i c m cap b sb cs D : Nat} {v : Value} {zs : List (Al k.n)} (h : Cl k w F ls ss p (zs.map vof) W) (hp : p.l = .slice (some ⟨b, 0, none⟩) m cap) (es : p.s = .slice (some ⟨sb, 0, none⟩) ss.length cs) (hi : i ≤ ss.length) (hc : c ≤ m) (hv : Boxed W (w.heap.size + 1) 42 v)
    (hrow : W.ownsRow (w.heap.size + 3) 3 1 v zs.length (zs.map (fun x => Value.int .i64 ((vof x : Nat) : Int)))) (hm : ∀ j, Mine k p j → j < w.heap.size) (hD : w.heap.size + 3 ≤ D) (hK : W.heap[D]? = some (.deferred (some []))) :
    (W.setCell ⟨k.OB, 2, none⟩ (.slice (some ⟨sb, 0, none⟩) i cs)).drew.cell? ⟨w.heap.size, 0, none⟩ = some (.pointer (some ⟨k.OB, 0, none⟩)) ∧
    (W.setCell ⟨k.OB, 2, none⟩ (.slice (some ⟨sb, 0, none⟩) i cs)).drew.cell? ⟨k.OB, 1, none⟩ = some (.slice (some ⟨b, 0, none⟩) m cap) ∧
    (W.setCell ⟨k.OB, 2, none⟩ (.slice (some ⟨sb, 0, none⟩) i cs)).drew.frozen? ⟨k.OB, 1, none⟩ = false ∧
    (((W.setCell ⟨k.OB, 2, none⟩ (.slice (some ⟨sb, 0, none⟩) i cs)).drew.setCell ⟨k.OB, 1, none⟩ (.slice (some ⟨b, 0, none⟩) c c)).drew).cell? ⟨w.heap.size + 1, 0, none⟩ = some v ∧
    (((W.setCell ⟨k.OB, 2, none⟩ (.slice (some ⟨sb, 0, none⟩) i cs)).drew.setCell ⟨k.OB, 1, none⟩ (.slice (some ⟨b, 0, none⟩) c c)).drew).heap[D]? = some (.deferred (some [])) ∧
    BkEnd k w F ls ss p i c (zs.map vof) v ((((W.setCell ⟨k.OB, 2, none⟩ (.slice (some ⟨sb, 0, none⟩) i cs)).drew.setCell ⟨k.OB, 1, none⟩ (.slice (some ⟨b, 0, none⟩) c c)).drew).putObj D (.deferred none)) := by
  have hob : k.OB < w.heap.size := hm _ (.inr (.inl rfl))
  have hlen : m = ls.length := by
    obtain ⟨_, _, e, _⟩ := h.raw.rl.shape
    rw [hp] at e; cases e; rfl
  subst hlen
  have own1 : OwnL W (k.OB + 1) (.slice (some ⟨sb, 0, none⟩) i cs) (ss.take i) := by
    have q := h.raw.rs
    rw [es] at q
    exact q.cut hi
  obtain ⟨_, r1, _⟩ := h.raw.puts (grown_refl W _) own1 (fun j hj => .inl (by rw [es]; exact hj))
  have g1 := grown_set W ⟨k.OB, 2, none⟩ (.slice (some ⟨sb, 0, none⟩) i cs)
  have r2 := r1.drew
  have gd := grown_below (below_drew (W.setCell ⟨k.OB, 2, none⟩ (.slice (some ⟨sb, 0, none⟩) i cs)))
  have hsz := h.sz
  have tb1 := (h.tb.kept g1 (fun e => by have := Option.some.inj e; simp at this; omega)).kept gd (by simp)
  have lo1 := (h.lo.grown g1 (fun j hj _ => by cases hj; exact .inr rfl)).grown gd (fun j hj => by cases hj)
  have row1 := own_keep (own_keep hrow g1 (fun j hj e => by cases hj; have := (own_lt hrow e).1; simp at this; omega)) gd (fun j hj => by cases hj)
  have hv1 := (hv.kept g1 (fun e => by have := Option.some.inj e; simp at this; omega)).kept gd (by simp)
  have k1 : (W.setCell ⟨k.OB, 2, none⟩ (.slice (some ⟨sb, 0, none⟩) i cs)).drew.heap[D]? = some (.deferred (some [])) := by
    rw [gd.block D (by have := blk_lt hK; have := g1.size; omega) (by simp), g1.block D (blk_lt hK) (fun e => by have := Option.some.inj e; simp at this; omega)]; exact hK
  have c1 := r2.c1
  have f1 := r2.cf 1
  rw [hp] at c1
  revert r2 tb1 lo1 row1 hv1 k1 c1 f1
  generalize (W.setCell ⟨k.OB, 2, none⟩ (.slice (some ⟨sb, 0, none⟩) i cs)).drew = W1
  intro r2 tb1 lo1 row1 hv1 k1 c1 f1
  have own2 : LRow W1 (k.OB + 1) (.slice (some ⟨b, 0, none⟩) c c) (ls.take c) := by
    have q := r2.rl
    simp only [hp] at q
    exact q.full hc
  obtain ⟨_, r3, _⟩ := r2.putl (grown_refl W1 _) own2 (fun j hj => .inl (by show p.l.ownBlock = _; rw [hp]; exact hj)) (fun g i T ht hr => ⟨rfl, ht, fun hr' => by obtain ⟨n', c', e', h1', h2'⟩ := hr'; cases e'; omega⟩)
  have g3 := grown_set W1 ⟨k.OB, 1, none⟩ (.slice (some ⟨b, 0, none⟩) c c)
  have r4 := r3.drew
  have gd3 := grown_below (below_drew (W1.setCell ⟨k.OB, 1, none⟩ (.slice (some ⟨b, 0, none⟩) c c)))
  have lo2 := (lo1.grown g3 (fun j hj _ => by cases hj; exact .inr rfl)).grown gd3 (fun j hj => by cases hj)
  have row2 := own_keep (own_keep row1 g3 (fun j hj e => by cases hj; have := (own_lt row1 e).1; simp at this; omega)) gd3 (fun j hj => by cases hj)
  have hv2 := (hv1.kept g3 (fun e => by have := Option.some.inj e; simp at this; omega)).kept gd3 (by simp)
  have k2 : (W1.setCell ⟨k.OB, 1, none⟩ (.slice (some ⟨b, 0, none⟩) c c)).drew.heap[D]? = some (.deferred (some [])) := by
    rw [gd3.block D (by have := blk_lt k1; have := g3.size; omega) (by simp), g3.block D (blk_lt k1) (fun e => by have := Option.some.inj e; simp at this; omega)]; exact k1
  refine ⟨tb1.cell, c1, f1, hv2.cell, k2, ?_⟩
  revert r4 lo2 row2 k2
  generalize (W1.setCell ⟨k.OB, 1, none⟩ (.slice (some ⟨b, 0, none⟩) c c)).drew = W2
  intro r4 lo2 row2 k2
  have gp := grownBy_putObj' W2 D (.deferred none)
  refine ⟨?_, lo2.grown gp (fun j hj hlt => by cases hj; omega), _, r4.keep gp (fun j hj c => ?_), by rw [hp]; rfl, by rw [es]; rfl, fun g i hr => by obtain ⟨n', c', e', h1', h2'⟩ := hr; cases e'; omega⟩
  · have := own_low (ownsRow_putObj row2 (.deferred none) k2 rfl) (Nat.le_add_right _ 3)
    simpa [Function.comp_def] using this
  · cases hj
    have : D < w.heap.size := by
      refine hm D ?_
      rcases c with e | e | e | e
      · exact .inl e
      · exact .inr (.inl e)
      · exact .inr (.inr (.inl (by rw [hp]; exact e)))
      · exact .inr (.inr (.inr (by rw [es]; exact e)))
    omega

theorem bk_end {k : K} {w W : World} {F : Nat → Fc} {ls ss : List Int} {p : V} {i c m cap b sb cs D : Nat} {v : Value} {zs : List (Al k.n)} (h : Cl k w F ls ss p (zs.map vof) W) (hp : p.l = .slice (some ⟨b, 0, none⟩) m cap) (es : p.s = .slice (some ⟨sb, 0, none⟩) ss.length cs) (hi : i ≤ ss.length) (hc : c ≤ m) (hv : Boxed W (w.heap.size + 1) 42 v)
    (hrow : W.ownsRow (w.heap.size + 3) 3 1 v zs.length (zs.map (fun x => Value.int .i64 ((vof x : Nat) : Int)))) (hm : ∀ j, Mine k p j → j < w.heap.size) (hD : w.heap.size + 3 ≤ D) (hK : W.heap[D]? = some (.deferred (some []))) :
    (W.setCell ⟨k.OB, 2, none⟩ (.slice (some ⟨sb, 0, none⟩) i cs)).drew.cell? ⟨w.heap.size, 0, none⟩ = some (.pointer (some ⟨k.OB, 0, none⟩)) ∧
    (W.setCell ⟨k.OB, 2, none⟩ (.slice (some ⟨sb, 0, none⟩) i cs)).drew.cell? ⟨k.OB, 1, none⟩ = some (.slice (some ⟨b, 0, none⟩) m cap) ∧
    (W.setCell ⟨k.OB, 2, none⟩ (.slice (some ⟨sb, 0, none⟩) i cs)).drew.frozen? ⟨k.OB, 1, none⟩ = false ∧
    ((W.setCell ⟨k.OB, 2, none⟩ (.slice (some ⟨sb, 0, none⟩) i cs)).setCell ⟨k.OB, 1, none⟩ (.slice (some ⟨b, 0, none⟩) c c)).drew.drew.cell? ⟨w.heap.size + 1, 0, none⟩ = some v ∧
    ((W.setCell ⟨k.OB, 2, none⟩ (.slice (some ⟨sb, 0, none⟩) i cs)).setCell ⟨k.OB, 1, none⟩ (.slice (some ⟨b, 0, none⟩) c c)).cell? ⟨w.heap.size + 1, 0, none⟩ = some v ∧
    ((W.setCell ⟨k.OB, 2, none⟩ (.slice (some ⟨sb, 0, none⟩) i cs)).setCell ⟨k.OB, 1, none⟩ (.slice (some ⟨b, 0, none⟩) c c)).drew.drew.heap[D]? = some (.deferred (some [])) ∧
    BkEnd k w F ls ss p i c (zs.map vof) v (((W.setCell ⟨k.OB, 2, none⟩ (.slice (some ⟨sb, 0, none⟩) i cs)).setCell ⟨k.OB, 1, none⟩ (.slice (some ⟨b, 0, none⟩) c c)).drew.drew.putObj D (.deferred none)) := by
  obtain ⟨h1, h2, h3, h4, h5, h6⟩ := bk_end0 h hp es hi hc hv hrow hm hD hK
  exact ⟨h1, h2, h3, h4, h4, h5, h6⟩

set_option maxRecDepth 100000 in
set_option maxHeartbeats 4000000 in
theorem back_in {k : K} {w : World} {F : Nat → Fc} {ls ss : List Int} {p : V} (s : Raw k w F ls ss p) (i c len b cap : Nat) (hi : i < ss.length) (hss : ss.length ≤ 1048576) (hc : ss[i]? = some (c : Int)) (hp : p.l = .slice (some ⟨b, 0, none⟩) (c + len) cap) (hcap : c + len ≤ cap) (hcm : cap ≤ maxLen) (hl0 : 0 < len) (hcl : c + len ≤ 1048576)
    (zs : List (Al k.n)) (hz : zs.length = len) (hcz : ∀ q (x : Al k.n), zs[q]? = some x → x.1.1 + q + 1 = len ∧ w.cell? ⟨b, c + x.1.1, none⟩ = some (.int .i64 (x.1.2 : Int))) :
    CallsIn Fence.wide 5 Tryz.prog 92 #[.pointer (some ⟨k.OB, 0, none⟩), .int .i64 i] w fun e w' => ∃ v, e = .returned v ∧ BkEnd k w F ls ss p i c (zs.map vof) v w' := by
  have hm : ∀ j, Mine k p j → j < w.heap.size := fun j h => (s.mine_lt h).2
  have hb : b < w.heap.size := hm b (.inr (.inr (.inl (by rw [hp]; rfl))))
  have hbf : b ≠ k.FB := by
    have := (s.rl.lt (j := b) (by rw [hp]; rfl)).1
    have := s.lt
    omega
  have hkn := s.hn
  obtain ⟨i0, hi0, hz0, hz1, hz2⟩ := info_parts Tryz.info3
  have HS := hid (s.below (w' := w.alloc (.cells #[.pointer (some ⟨k.OB, 0, none⟩)] 51)) (by go_grown))
  have c1 := (s.below (w' := w.alloc (.cells #[.pointer (some ⟨k.OB, 0, none⟩)] 51)) (by go_grown)).c1
  have c2 := (s.below (w' := w.alloc (.cells #[.pointer (some ⟨k.OB, 0, none⟩)] 51)) (by go_grown)).c2
  obtain ⟨sb, cs', es, _⟩ := (LRow.of_own s.rs).filled (by omega)
  rw [es] at c2
  have cs : (w.alloc (.cells #[.pointer (some ⟨k.OB, 0, none⟩)] 51)).cell? ⟨sb, i, none⟩ = some (.int .i64 c) := by
    have q := LRow.of_own HS.out.rs
    rw [es] at q
    exact q.at hc
  have c1b := (s.below (w' := (w.alloc (.cells #[.pointer (some ⟨k.OB, 0, none⟩)] 51)).alloc (.cells #[.slice none 0 0] 42)) (by go_grown)).c1
  rw [hp] at c1b
  have di : decide ((i : Int) < 0) = false := by simp
  have dj : decide (ss.length ≤ i) = false := by simp; omega
  have ci : (c : Int) ≤ ((c + len : Nat) : Int) := by omega
  unfold maxLen at hcm
  rw [hp] at c1
  have hi' : (i : Int) < ss.length := by omega
  refine callsIn_of_wp_marks Tryz.func92 rfl trivial ?_ rfl
  simp only [Tryz.ntmps92, List.size_toArray, List.length_cons, List.length_nil, Nat.reduceAdd, Nat.reduceSub, Array.replicate_succ, Array.replicate_zero, List.push_toArray, List.append_toArray, List.nil_append, List.cons_append]
  gi_wp2_with (first
    | (refine ⟨trivial, ?_⟩; gi_at_call 32; refine (callsIn_wide.2 (levels_any HS.out)).mono ?_; rintro e w' ⟨rfl, rfl⟩)
    | (refine ⟨trivial, ?_⟩; gi_at_call 102; refine (backward_in 4 _ _ _ _).mono ?_; rintro e w' ⟨rfl, rfl⟩))
  have hW0 : Below w.heap.size w (((w.alloc (.cells #[.pointer (some ⟨k.OB, 0, none⟩)] 51)).alloc (.cells #[.slice none 0 0] 42)).alloc (.cells #[.slice (some ⟨b, c, none⟩) len (cap - c)] 42)) := by go_grown
  have bT := ((Boxed.new w 51 (.pointer (some ⟨k.OB, 0, none⟩))).alloc (.cells #[.slice none 0 0] 42)).alloc (.cells #[.slice (some ⟨b, c, none⟩) len (cap - c)] 42)
  have bG := (Boxed.new (w.alloc (.cells #[.pointer (some ⟨k.OB, 0, none⟩)] 51)) 42 (.slice none 0 0)).alloc (.cells #[.slice (some ⟨b, c, none⟩) len (cap - c)] 42)
  have bS := Boxed.new ((w.alloc (.cells #[.pointer (some ⟨k.OB, 0, none⟩)] 51)).alloc (.cells #[.slice none 0 0] 42)) 42 (.slice (some ⟨b, c, none⟩) len (cap - c))
  simp only [World.size_alloc] at bG bS
  have cl0 : Cl k w F ls ss p ([].map (vof (n := k.n))) (((w.alloc (.cells #[.pointer (some ⟨k.OB, 0, none⟩)] 51)).alloc (.cells #[.slice none 0 0] 42)).alloc (.cells #[.slice (some ⟨b, c, none⟩) len (cap - c)] 42)) :=
    ⟨by rw [List.map_nil, clr_nil]; exact s.below hW0, Lo.below hW0, bT, by simp⟩
  refine wpIn_rangeFunc_ownG rfl (by decide) (gf := 134) (lb := #[.pointer (some ⟨w.heap.size + 1 + 1, 0, none⟩)]) rfl trivial (enters_of Tryz.func134 (by kernel_rfl) rfl)
    (backward_stops 4 (by decide) (w.heap.size + 1 + 1) b c (cap - c) k.n len zs hz (by omega) _ (by simp) (by simp; omega) bS.cell (fun q x hq => ⟨(hcz q x hq).1, (hW0.cell (p := ⟨b, c + x.1.1, none⟩) hb).trans (hcz q x hq).2⟩)) keep2_t (keep2_b (by simp) (by simp; omega)) (Below.refl _ _) (fun _ => rfl)
    (fun pre W => (∃ v, Boxed W (w.heap.size + 1) 42 v ∧ W.ownsRow (w.heap.size + 3) 3 1 v pre.length (pre.map (fun x => Value.int .i64 ((vof x : Nat) : Int))) ∧ True) ∧ Cl k w F ls ss p (pre.map vof) W)
    (fun _ _ _ => False)
    (OwnFrom.and (Own.from (holdsRow_own (w.heap.size + 3) (w.heap.size + 1) 42 3 1 (fun pre : List (Al k.n) => pre.length) (fun pre : List (Al k.n) => pre.map (fun x => Value.int .i64 ((vof x : Nat) : Int))) (fun _ _ => True)) _) (cl_own vof _ (by simp; omega) hm))
    (fun _ _ _ _ _ hs _ _ => hs)
    ⟨⟨_, bG, World.ownsRow_nil _ _ _ _, trivial⟩, cl0⟩
    (fun x => { tmps := #[.pointer (some ⟨k.OB, 0, none⟩), .int .i64 i, .pointer (some ⟨w.heap.size, 0, none⟩), undef, .slice none 0 0, .int .i64 c, .pointer (some ⟨w.heap.size + 1, 0, none⟩), undef, .int .i64 x.1.2, undef, .int .i64 i, .bool false, .bool false, .int .i64 i, .pointer (some ⟨k.OB, 0, none⟩), .int .i64 ss.length, .bool false, .bool false, .pointer (some ⟨k.OB, 0, none⟩), .pointer (some ⟨k.OB, 0, none⟩), .pointer (some ⟨k.OB, 2, none⟩), .slice (some ⟨sb, 0, none⟩) ss.length cs', .int .i64 i, .pointer (some ⟨sb, i, none⟩), .int .i64 c, .pointer (some ⟨k.OB, 0, none⟩), .pointer (some ⟨k.OB, 0, none⟩), .pointer (some ⟨k.OB, 1, none⟩), .slice (some ⟨b, 0, none⟩) (c + len) cap, .int .i64 c, .slice (some ⟨b, c, none⟩) len (cap - c), .func (.func 134) #[] #[.pointer (some ⟨w.heap.size + 1 + 1, 0, none⟩)], .int .i64 x.1.1, .int .i64 x.1.2, undef, undef, undef, undef, undef, undef, undef, undef, undef, undef, undef, undef, undef, undef, undef, undef, undef, undef, undef, undef, undef, undef, undef, undef, undef, undef, undef, undef, undef, undef, undef, undef, undef], defers := [] }) ?assign ?body ?done ?stop
  case assign =>
    intro l x W K hK
    gi_wp2
    exact hK
  case body =>
    rintro l pre ⟨⟨xi, xl⟩, hxn⟩ W ⟨⟨v, hv, hrow, _⟩, hcl1⟩ hlt
    simp only at hxn
    have HV : Hid (vof (⟨(xi, xl), hxn⟩ : Al k.n) = xl / 2) := hid rfl
    obtain ⟨u, hu⟩ : ∃ u, xl / 2 = u := ⟨_, rfl⟩
    have hun : u < k.n := by omega
    have hun' : (u : Int) < k.n := by omega
    have hxl : (xl : Int) ≤ 9223372036854775807 := by omega
    have HU := hid hu
    have HCL := hid hcl1
    have hsz := hcl1.sz
    clear hu hcl1
    gi_wp2_with (first
      | (refine ⟨trivial, ?_⟩; gi_at_call 24; refine (CallsIn.inRound l (callsIn_wide.2 (var_nat xl u HU.out hxl _))).mono ?_; rintro e w3 ⟨rfl, b3⟩; have h3 := hid (HCL.out.keep hm (grown_below b3) (fun j hj => by cases hj)); have t3 := h3.out.tb.cell; have o3 := h3.out.raw.c0; have f1 := (h3.out.raw.fa hun).1; have f2 := (h3.out.raw.fa hun).2.1; have f3 := (h3.out.raw.fa hun).2.2; have f4 := h3.out.raw.ff (u * 3); have f5 := h3.out.raw.ff (u * 3 + 1); have f6 := h3.out.raw.ff (u * 3 + 2); have st := cl_step HCL.out hv hrow b3 hun hm hb hbf rfl; obtain ⟨hv4, hrow4, hcl4, hko4, hk4⟩ := st; have hc4 := hv4.cell)
      | (gi_at_builtin; refine wpListIn_append_own _ rfl _ _ 42 rfl (w.heap.size + 3) 3 i0 (.int .i64 0) 1 8 Tryz.underlying42 hi0 hz0 hz1 hz2 rfl (by decide) _ _ _ rfl (hrow4.alloc _) ⟨w3.heap.size, 0, none⟩ 1 1 [.int .i64 u] rfl rfl (one_new (by simp [World.setCell]) _ _) (by simp [Value.oneCell']) (by unfold maxLen; omega) (by omega) (by have := b3.size; simp [World.setCell]; omega) ?_; intro v' w5 hown' hgrow _; obtain ⟨g', cap', rfl⟩ := ownsRow_succ hown'; have q5 := cl_more hcl4 hv4 hrow4 hown' hgrow hm hb; obtain ⟨hv5, hv6, hr6, hcl6, hko6, hk6⟩ := q5; have hc5 := hv5.cell; have hf5 := hv5.frozen))
    have e1 : (pre ++ [(⟨(xi, xl), hxn⟩ : Al k.n)]).map vof = pre.map vof ++ [u] := by simp [vof, HU.out]
    refine ⟨(hko4.trans hko6).from _, keep2_t hk4 hk6, ⟨⟨_, hv6, ?_, trivial⟩, ?_⟩⟩
    · have e2 : (pre ++ [(⟨(xi, xl), hxn⟩ : Al k.n)]).map (fun x => Value.int .i64 ((vof x : Nat) : Int)) = pre.map (fun x => Value.int .i64 ((vof x : Nat) : Int)) ++ [.int .i64 u] := by rw [List.map_append, List.map_singleton, HV.out, HU.out]
      rw [e2, List.length_append]; exact hr6
    · rw [e1]; exact hcl6
  case done =>
    rintro D ys W hD rfl ⟨⟨v, hv, hrow, _⟩, hcl1⟩ hK
    have hD' : w.heap.size + 3 ≤ D := by simp at hD; omega
    have BE := hid (bk_end (i := i) (c := c) hcl1 hp es (by omega) (by omega) hv hrow hm hD' hK)
    have t1 := hcl1.tb.cell
    have d1 := hcl1.raw.c1
    have d2 := hcl1.raw.c2
    rw [hp] at d1
    rw [es] at d2
    have df1 := hcl1.raw.cf 1
    have df2 := hcl1.raw.cf 2
    obtain ⟨t2, d3, df3, t3, t4, hK3, _⟩ := BE.out
    have hic : (i : Int) ≤ cs' := by omega
    clear hcl1 hrow hcz hv HS cl0 bT bG bS hW0
    gi_wp2
    gi_region
    gi_wp2
    gi_region
    gi_wp2
    refine ⟨by simp, .inl ⟨_, _, rfl, run_takeDeferred hK3, ?_⟩⟩
    exact ⟨_, results_tmp rfl _ _ _, v, rfl, BE.out.2.2.2.2.2.2⟩
  case stop =>
    rintro D c pre W _ _ h _
    exact h.elim

end Go.Proofs.YtimfjoinjfecjaaGreat

namespace Go.Proofs.YtimfjoinjfecjaaGreat
open Go.RowKit
set_option linter.unusedVariables false

theorem lift_al (n : Nat) (ys : List (Nat × Nat)) (h : ∀ y ∈ ys, y.2 / 2 < n) : ∃ zs : List (Al n), zs.map Subtype.val = ys := by
  induction ys with
  | nil => exact ⟨[], rfl⟩
  | cons y ys ih =>
    obtain ⟨zs, e⟩ := ih (fun z hz => h z (by simp [hz]))
    exact ⟨⟨y, h y (by simp)⟩ :: zs, by simp [e]⟩

/-- The literals of a list, the last one first, each with its place. -/
theorem back_list (n : Nat) (D : List E) (h : ∀ e ∈ D, vr e < n) : ∃ zs : List (Al n), zs.length = D.length ∧ zs.map vof = D.reverse.map vr ∧ ∀ (q : Nat) (x : Al n), zs[q]? = some x → x.1.1 + q + 1 = D.length ∧ ∃ e, D[x.1.1]? = some e ∧ e.l = x.1.2 := by
  obtain ⟨zs, hz⟩ := lift_al n (D.reverse.zipIdx.map (fun y => (D.length - 1 - y.2, y.1.l))) (by
    intro y hy
    obtain ⟨⟨e, q⟩, hq, rfl⟩ := List.mem_map.1 hy
    have := List.mem_zipIdx hq
    simp at this
    have he : e ∈ D := by rw [this.2]; exact List.getElem_mem _
    exact h e he)
  have hl : zs.length = D.length := by
    have := congrArg List.length hz
    simpa using this
  refine ⟨zs, hl, ?_, ?_⟩
  · have e1 : zs.map vof = (zs.map Subtype.val).map (fun y => y.2 / 2) := by simp [vof, Function.comp_def]
    rw [e1, hz]
    apply List.ext_getElem
    · simp
    · intro i h1 h2
      simp [vr]
  · intro q x hx
    have hq := (List.getElem?_eq_some_iff.1 hx).1
    have hq' : q < D.length := by omega
    have e1 : (zs.map Subtype.val)[q]? = some x.1 := by simp [hx]
    rw [hz, List.getElem?_map, List.getElem?_zipIdx, List.getElem?_reverse hq', List.getElem?_eq_getElem (by omega)] at e1
    simp only [Option.map_some, Option.some.injEq] at e1
    rw [← e1]
    refine ⟨by simp; omega, ⟨D[D.length - 1 - q], ?_, rfl⟩⟩
    simp only [Nat.zero_add]
    exact List.getElem?_eq_getElem (by omega)

section
variable {k : K} {w : World} {L : List E} {lev : Nat} {p : V}

/-- What is so behind Back. -/
structure BtEnd (k : K) (w : World) (L : List E) (lev : Nat) (p : V) (x : Int) (v : Value) (p' : V) (w' : World) : Prop where
  row : OwnL w' w.heap.size v (backG L lev x)
  trl : Trl k w' (backL L lev x) (backV lev x) p'
  lo : Lo k w w'
  fr : Fr k p p' w w'
  same : p'.l.ownBlock = p.l.ownBlock

theorem back_any (t : Trl k w L lev p) (x : Int) : Calls Tryz.prog 92 #[.pointer (some ⟨k.OB, 0, none⟩), .int .i64 x] w fun e w' => ∃ v p', e = .returned v ∧ BtEnd k w L lev p x v p' w' := by
  obtain ⟨F, S, s, g, rfl⟩ := id t
  cases hok : backOk S.length x
  · obtain ⟨h1, h2, h3⟩ := back_no (L := L) hok
    have hx : x < 0 ∨ ((castS S).length : Int) ≤ x := by
      simp [backOk] at hok
      simp [castS]
      omega
    refine (back_out s x hx).mono fun e w' h => ?_
    refine ⟨_, p, h.1, ?_, ?_, Lo.below h.2, Fr.below h.2, rfl⟩
    · rw [h3]; exact World.ownsRow_nil _ _ _ _
    · rw [h1, h2]; exact t.below h.2
  · obtain ⟨i, rfl, hi⟩ := backOk_yes hok
    obtain ⟨c, hc⟩ : ∃ c, S[i]? = some c := ⟨_, List.getElem?_eq_getElem hi⟩
    obtain ⟨h1, h2, h3⟩ := g.back_yes hc
    obtain ⟨h4, ⟨e0, h5, _⟩, _⟩ := g.cut i c hc
    have hcl := (List.getElem?_eq_some_iff.1 h5).1
    have hln := g.len
    have hn := s.hn
    have hlL := litsF_len L
    have hsl : (castS S).length = S.length := by simp [castS]
    obtain ⟨b, cap, hp, hcap, hcm⟩ := s.rl.filled (by omega)
    obtain ⟨zs, hz1, hz2, hz3⟩ := back_list k.n (L.drop c) (fun e he => g.lt e (List.mem_of_mem_drop he))
    rw [List.length_drop] at hz1
    have hpl : c + (L.length - c) = (litsF L).length := by omega
    have hll := g.ll
    have key := back_in s i c (L.length - c) b cap (by rw [hsl]; exact hi) (by rw [hsl]; omega) (by simp [castS, hc]) (by rw [hpl]; exact hp) (by rw [hpl]; exact hcap) hcm (by omega) (by omega) zs hz1 (by
      intro q x hx
      obtain ⟨q1, e, q2, q3⟩ := hz3 q x hx
      rw [List.length_drop] at q1
      refine ⟨q1, ?_⟩
      have hr := s.rl
      rw [hp] at hr
      refine hr.at ?_
      rw [List.getElem?_drop] at q2
      simp [litsF, q2, q3])
    refine (callsIn_wide.1 key).mono fun e w' h => ?_
    obtain ⟨v, rfl, r1, r2, p', r3, r4, r5, r6⟩ := h
    refine ⟨v, p', rfl, ?_, ?_, r2, r2.fr r4 r5 r6, r4⟩
    · rw [h3]
      rw [hz2] at r1
      unfold OwnL
      simpa [Function.comp_def] using r1
    · rw [h1, h2]
      refine ⟨_, S.take i, ?_, g.back hc, ?_⟩
      · rw [hz2] at r3
        have e1 : (litsF L).take c = litsF (L.take c) := by simp [litsF, List.map_take]
        have e2 : (castS S).take i = castS (S.take i) := by simp [castS, List.map_take]
        rw [e1, e2] at r3
        exact r3
      · simp; omega

theorem back_is (t : Trl k w L lev p) (x : Int) : Calls Tryz.prog 92 #[.pointer (some ⟨k.OB, 0, none⟩), .int .i64 x] w fun e w' => ∃ ao n c p', e = .returned (.slice ao n c) ∧ Hid (BtEnd k w L lev p x (.slice ao n c) p' w') ∧ Hid (n = (backG L lev x).length) := by
  refine (back_any t x).mono fun e w' h => ?_
  obtain ⟨v, p', rfl, h⟩ := h
  obtain ⟨ao, c, rfl, _⟩ := (LRow.of_own h.row).shape
  exact ⟨ao, _, c, p', rfl, h, rfl⟩
end

end Go.Proofs.YtimfjoinjfecjaaGreat

namespace Go.Proofs.YtimfjoinjfecjaaGreat
open Go.RowKit Go.Maps
set_option linter.unusedVariables false

structure WK where
  n : Nat
  OB : Nat
  WB : Nat
  FB : Nat
  B : Nat

/-- What a watch has: clauses by their numbers; lists of clauses by slots: of each literal those that watch it, of each variable those that lean on it, those that wait. -/
structure G where
  nx : Nat
  cb : Nat → Nat
  lt : Nat → List Int
  lv : Nat → Value
  a : Nat → Int
  b : Nat → Int
  fr : Nat → Nat
  gn : Nat → Bool
  P : Nat → List Nat
  pv : Nat → Value
  pl : Nat → Int
  mp : Option Nat
  hv : Value
  dn : Nat
  rm : Nat

/-- What a watch has, without where it lies. -/
structure WP where
  nx : Nat
  lt : Nat → List Int
  a : Nat → Int
  b : Nat → Int
  fr : Nat → Nat
  gn : Nat → Bool
  P : Nat → List Nat
  pl : Nat → Int
  dn : Nat

def G.pt (g : G) : WP := ⟨g.nx, g.lt, g.a, g.b, g.fr, g.gn, g.P, g.pl, g.dn⟩

def up {α : Type} (f : Nat → α) (i : Nat) (x : α) : Nat → α := fun j => if j = i then x else f j
theorem up_same {α : Type} (f : Nat → α) (i : Nat) (x : α) : up f i x i = x := by simp [up]
theorem up_ne {α : Type} (f : Nat → α) {i j : Nat} (x : α) (h : j ≠ i) : up f i x j = f j := by simp [up, h]

def G.slot (g : G) (s : Nat) (xs : List Nat) (v : Value) : G := { g with P := up g.P s xs, pv := up g.pv s v }
def G.watch (g : G) (c : Nat) (x y : Int) : G := { g with a := up g.a c x, b := up g.b c y }
def G.from (g : G) (c : Nat) (f : Nat) : G := { g with fr := up g.fr c f }
def G.place (g : G) (v : Nat) (q : Int) : G := { g with pl := up g.pl v q }

def ptrElem : Value → Option (DataW (Option Addr) × List MemPlace)
  | .pointer p => some (.held p, [])
  | _ => none

def live (g : G) (x : Int) : Bool := decide (0 ≤ x ∧ x < g.nx) && !g.gn x.toNat
def liveN (g : G) : Nat := ((List.range g.nx).filter (fun i => !g.gn i)).length

structure MapAt (w : World) (g : G) (mb : Nat) (D : DataW (Option Addr)) : Prop where
  own : w.ownsMap Tryz.prog 3 ptrElem mb g.nx D
  val : ∀ x : Int, D.atKey (.int .i64 x) (.held none) = .held (if live g x = true then some ⟨g.cb x.toNat, 0, none⟩ else none)
  has : ∀ x : Int, Maps.has D (.int .i64 x) = live g x
  size : Maps.size D = liveN g

def MapOk (w : World) (g : G) : Prop := (g.mp = none ∧ g.nx = 0) ∨ ∃ mb D, g.mp = some mb ∧ MapAt w g mb D

/-- A clause's own fields. -/
def clc (g : G) (i : Nat) : Array Value :=
  if g.gn i then #[.int .i64 0, .slice none 0 0, .int .i64 0, .int .i64 0, .int .i64 0, .bool true]
  else #[.int .i64 i, g.lv i, .int .i64 (g.a i), .int .i64 (g.b i), .int .i64 (g.fr i), .bool false]

def LitRow (w : World) (v : Value) (xs : List Int) : Prop := ∃ ao n c, v = .slice ao n c ∧ U.Row w ao n c xs ∧ (0 < n → ∃ b off, ao = some ⟨b, off, none⟩ ∧ Typ w b 3)

/-- The watch's own fields, and its two lists of fields. -/
structure Con (k : WK) (w : World) (g : G) : Prop where
  ob : w.heap[k.OB]? = some (.cells #[.map g.mp, .int .i64 g.nx, .slice (some ⟨k.WB, 0, none⟩) (2 * k.n) (2 * k.n), .slice (some ⟨k.FB, 0, none⟩) k.n k.n, g.pv (3 * k.n), g.hv, .int .i64 g.dn, .int .i64 g.rm] 84 (0, 0))
  wb : ∃ c, w.heap[k.WB]? = some (.cells c 82 (0, 0)) ∧ c.size = 2 * k.n ∧ ∀ i, i < 2 * k.n → c[i]? = some (g.pv i)
  fb : ∃ c, w.heap[k.FB]? = some (.cells c 144 (0, 0)) ∧ c.size = k.n * 2 ∧ ∀ v, v < k.n → c[v * 2]? = some (.int .i64 (g.pl v)) ∧ c[v * 2 + 1]? = some (g.pv (2 * k.n + v))
  lo : k.B ≤ k.OB ∧ k.B ≤ k.WB ∧ k.B ≤ k.FB

/-- All of it lies above B. -/
structure LoL (k : WK) (g : G) : Prop where
  c : ∀ i, i < g.nx → k.B ≤ g.cb i
  p : ∀ s, s ≤ 3 * k.n → ∀ j, (g.pv s).ownBlock = some j → k.B ≤ j
  m : ∀ mb, g.mp = some mb → k.B ≤ mb

/-- Its lists and clauses. -/
structure Lst (k : WK) (w : World) (g : G) : Prop where
  hn : k.n ≤ 1048576
  cl : ∀ i, i < g.nx → w.heap[g.cb i]? = some (.cells (clc g i) 97 (0, 0))
  inj : ∀ i j, i < g.nx → j < g.nx → g.cb i = g.cb j → i = j
  rw : ∀ s, s ≤ 3 * k.n → PRow w g.cb (g.pv s) (g.P s)
  sub : ∀ s, s ≤ 3 * k.n → ∀ i ∈ g.P s, i < g.nx
  ne : ∀ s t, s ≤ 3 * k.n → t ≤ 3 * k.n → s ≠ t → ∀ j, (g.pv s).ownBlock = some j → (g.pv t).ownBlock ≠ some j
  li : ∀ i, i < g.nx → g.gn i = false → LitRow w (g.lv i) (g.lt i)
  mp : MapOk w g
  lo : LoL k g

structure St (k : WK) (w : World) (g : G) : Prop where
  c : Con k w g
  l : Lst k w g

/-! ### What alone has changed -/
def Wt (T : TypeId) : Prop := T = 84 ∨ T = 82 ∨ T = 144 ∨ T = 97 ∨ T = 92

/-- Blocks of watches alone have changed. -/
structure FW (B : Nat) (w w' : World) : Prop where
  os : w'.os = w.os
  tape : w'.tape = w.tape
  output : w'.output = w.output
  size : w.heap.size ≤ w'.heap.size
  block : ∀ j T, Typ w j T → ¬ Wt T → w'.heap[j]? = w.heap[j]?
  old : ∀ j, j < B → j < w.heap.size → w'.heap[j]? = w.heap[j]?

theorem FW.refl {B : Nat} (w : World) : FW B w w := ⟨rfl, rfl, rfl, Nat.le_refl _, fun _ _ _ _ => rfl, fun _ _ _ => rfl⟩
theorem FW.trans {B : Nat} {a b c : World} (h : FW B a b) (g : FW B b c) : FW B a c :=
  ⟨g.os.trans h.os, g.tape.trans h.tape, g.output.trans h.output, Nat.le_trans h.size g.size, fun j T ht hn => (g.block j T (ht.same (h.block j T ht hn)) hn).trans (h.block j T ht hn), fun j hj hl => (g.old j hj (Nat.lt_of_lt_of_le hl h.size)).trans (h.old j hj hl)⟩
theorem FW.grown {B : Nat} {w w' : World} {r : Option Nat} (g : w.grownBy w' r) (hr : ∀ j T, r = some j → Typ w j T → Wt T) (hl : ∀ j, r = some j → B ≤ j) : FW B w w' :=
  ⟨g.os, g.tape, g.output, g.size, fun j T ht hn => g.block j ht.lt (fun e => hn (hr j T e.symm ht)), fun j hj hs => g.block j hs (fun e => by have := hl j e.symm; omega)⟩
theorem FW.below {B : Nat} {w w' : World} (b : Below w.heap.size w w') : FW B w w' := FW.grown (grown_below b) (fun j T h => by cases h) (fun j h => by cases h)
theorem FW.be {B : Nat} {w0 w w' : World} (f : FW B w w') (hB : B = w0.heap.size) (b : Below w0.heap.size w0 w) : Below w0.heap.size w0 w' :=
  ⟨f.os.trans b.os, f.tape.trans b.tape, f.output.trans b.output, Nat.le_trans b.size f.size, fun j hj => (f.old j (by omega) (Nat.lt_of_lt_of_le hj b.size)).trans (b.block j hj)⟩

theorem Typ.one {w : World} {j : Nat} {T T' : TypeId} (h : Typ w j T) (g : Typ w j T') : T = T' := by
  obtain ⟨c, f, h⟩ := h
  obtain ⟨c', f', g⟩ := g
  rw [h] at g
  cases g; rfl

/-! ### A trail beside it -/
theorem LRow.typ {w : World} {base : Nat} {v : Value} {xs : List Int} (h : LRow w base v xs) {j : Nat} (hj : v.ownBlock = some j) : Typ w j 3 := by
  rcases h with ⟨rfl, _⟩ | ⟨b, cap, cur, rfl, hb, hg, _⟩
  · simp [Value.ownBlock] at hj
  · simp [Value.ownBlock] at hj; subst hj; exact ⟨_, _, hg⟩

theorem LRow.same {w w' : World} {base : Nat} {v : Value} {xs : List Int} (h : LRow w base v xs) (hb : ∀ j, v.ownBlock = some j → w'.heap[j]? = w.heap[j]?) : LRow w' base v xs := by
  rcases h with h | ⟨b, cap, cur, rfl, h1, hg, rest⟩
  · exact .inl h
  · exact .inr ⟨b, cap, cur, rfl, h1, by rw [hb b rfl]; exact hg, rest⟩

theorem OwnL.same {w w' : World} {base : Nat} {v : Value} {xs : List Int} (h : OwnL w base v xs) (hb : ∀ j, v.ownBlock = some j → w'.heap[j]? = w.heap[j]?) : OwnL w' base v xs := by
  refine ⟨h.1, ?_⟩
  rcases h.2 with h2 | ⟨b, cap, cur, rfl, h1, hg, rest⟩
  · exact .inl h2
  · exact .inr ⟨b, cap, cur, rfl, h1, by rw [hb b rfl]; exact hg, rest⟩

theorem Raw.mine_typ {k : K} {w : World} {F : Nat → Fc} {ls ss : List Int} {p : V} (s : Raw k w F ls ss p) {j : Nat} (h : Mine k p j) : ∃ T, Typ w j T ∧ ¬ Wt T := by
  rcases h with e | e | e | e
  · obtain ⟨c, h, _⟩ := s.fc
    exact ⟨157, by rw [e]; exact ⟨_, _, h⟩, by simp [Wt]⟩
  · exact ⟨78, by rw [e]; exact ⟨_, _, s.cl⟩, by simp [Wt]⟩
  · exact ⟨3, s.rl.typ e, by simp [Wt]⟩
  · exact ⟨3, (LRow.of_own s.rs).typ e, by simp [Wt]⟩

theorem Raw.same {k : K} {w w' : World} {F : Nat → Fc} {ls ss : List Int} {p : V} (s : Raw k w F ls ss p) (h : ∀ j, Mine k p j → w'.heap[j]? = w.heap[j]?) : Raw k w' F ls ss p := by
  refine ⟨s.lo, s.lt, s.hn, by rw [h _ (.inr (.inl rfl))]; exact s.cl, ?_, s.rl.same (fun j e => h j (.inr (.inr (.inl e)))), s.rs.same (fun j e => h j (.inr (.inr (.inr e)))), s.ne⟩
  obtain ⟨c, h1, h2⟩ := s.fc
  exact ⟨c, by rw [h _ (.inl rfl)]; exact h1, h2⟩

theorem Trl.mine_typ {k : K} {w : World} {L : List E} {lev : Nat} {p : V} (t : Trl k w L lev p) {j : Nat} (h : Mine k p j) : ∃ T, Typ w j T ∧ ¬ Wt T := by
  obtain ⟨F, S, s, _⟩ := t; exact s.mine_typ h

theorem Trl.fw {k : K} {B : Nat} {w w' : World} {L : List E} {lev : Nat} {p : V} (t : Trl k w L lev p) (f : FW B w w') : Trl k w' L lev p := by
  obtain ⟨F, S, s, g, h⟩ := t
  refine ⟨F, S, s.same (fun j hj => ?_), g, h⟩
  obtain ⟨T, h1, h2⟩ := s.mine_typ hj
  exact f.block j T h1 h2

/-- From w to w' blocks of watches and of the trail alone have changed. -/
structure FT (k : K) (B : Nat) (p p' : V) (w w' : World) : Prop where
  os : w'.os = w.os
  tape : w'.tape = w.tape
  output : w'.output = w.output
  size : w.heap.size ≤ w'.heap.size
  block : ∀ j T, Typ w j T → ¬ Wt T → ¬ Mine k p j → w'.heap[j]? = w.heap[j]?
  old : ∀ j, j < B → j < w.heap.size → w'.heap[j]? = w.heap[j]?
  new : ∀ j, j < w.heap.size → Mine k p' j → Mine k p j
  safe : ∀ g i T, Typ w g T → ¬ Wt T → Safe k p g i → w'.cell? ⟨g, i, none⟩ = w.cell? ⟨g, i, none⟩ ∧ Typ w' g T ∧ Safe k p' g i

theorem FT.refl (k : K) (B : Nat) (p : V) (w : World) : FT k B p p w w := ⟨rfl, rfl, rfl, Nat.le_refl _, fun _ _ _ _ _ => rfl, fun _ _ _ => rfl, fun _ _ h => h, fun _ _ _ ht _ h => ⟨rfl, ht, h⟩⟩
theorem FT.trans {k : K} {B : Nat} {p p' p'' : V} {w w' w'' : World} (h : FT k B p p' w w') (g : FT k B p' p'' w' w'') : FT k B p p'' w w'' := by
  refine ⟨g.os.trans h.os, g.tape.trans h.tape, g.output.trans h.output, Nat.le_trans h.size g.size, fun j T ht hn hm => ?_, fun j hj hl => (g.old j hj (Nat.lt_of_lt_of_le hl h.size)).trans (h.old j hj hl), fun j hj hm => ?_, fun b i T ht hn hs => ?_⟩
  · have e := h.block j T ht hn hm
    rw [g.block j T (ht.same e) hn (fun c => hm (h.new j ht.lt c)), e]
  · exact h.new j hj (g.new j (Nat.lt_of_lt_of_le hj h.size) hm)
  · obtain ⟨a1, a2, a3⟩ := h.safe b i T ht hn hs
    obtain ⟨b1, b2, b3⟩ := g.safe b i T a2 hn a3
    exact ⟨b1.trans a1, b2, b3⟩
theorem FT.fw {k : K} {B : Nat} {p : V} {w w' : World} (f : FW B w w') : FT k B p p w w' :=
  ⟨f.os, f.tape, f.output, f.size, fun j T ht hn _ => f.block j T ht hn, f.old, fun _ _ h => h, fun b i T ht hn hs => ⟨World.cell?_of_block (f.block b T ht hn), ht.same (f.block b T ht hn), hs⟩⟩
theorem FT.fr {k : K} {B : Nat} {p p' : V} {w w' : World} {L : List E} {lev : Nat} (t : Trl k w L lev p) (hB : B ≤ k.B) (f : Fr k p p' w w') : FT k B p p' w w' :=
  ⟨f.os, f.tape, f.output, f.size, fun j T ht hn hm => f.block j ht.lt hm, fun j hj hl => f.block j hl (fun m => by have := (t.lt m).1; omega), f.new, fun b i T ht hn hs => f.safe b i T ht hs⟩
theorem FT.below {k : K} {B : Nat} {p : V} {w w' : World} (b : Below w.heap.size w w') : FT k B p p w w' := FT.fw (FW.below b)
theorem FT.be {k : K} {B : Nat} {p p' : V} {w0 w w' : World} (f : FT k B p p' w w') (hB : B = w0.heap.size) (b : Below w0.heap.size w0 w) : Below w0.heap.size w0 w' :=
  ⟨f.os.trans b.os, f.tape.trans b.tape, f.output.trans b.output, Nat.le_trans b.size f.size, fun j hj => (f.old j (by omega) (Nat.lt_of_lt_of_le hj b.size)).trans (b.block j hj)⟩

/-- What a trail once told: it is as it was. -/
def Told (k : K) (p : V) (w : World) (v : Value) (xs : List Int) : Prop :=
  ∃ ao n c, v = .slice ao n c ∧ xs.length = n ∧ n ≤ c ∧ c ≤ maxLen ∧ (ao = none → c = 0) ∧ (∀ b off, ao = some ⟨b, off, none⟩ → off = 0) ∧ (∀ x ∈ xs, 0 ≤ x ∧ x ≤ 9223372036854775807) ∧ ∀ (j : Nat) (x : Int), xs[j]? = some x → ∃ b, ao = some ⟨b, 0, none⟩ ∧ w.cell? ⟨b, j, none⟩ = some (.int .i64 x) ∧ Typ w b 3 ∧ Safe k p b j

theorem Told.ft {k : K} {B : Nat} {p p' : V} {w w' : World} {v : Value} {xs : List Int} (h : Told k p w v xs) (f : FT k B p p' w w') : Told k p' w' v xs := by
  obtain ⟨ao, n, c, h1, h2, h3, h4, h5, h5', h6, h7⟩ := h
  refine ⟨ao, n, c, h1, h2, h3, h4, h5, h5', h6, fun j x hx => ?_⟩
  obtain ⟨b, q1, q2, q3, q4⟩ := h7 j x hx
  obtain ⟨r1, r2, r3⟩ := f.safe b j 3 q3 (by simp [Wt]) q4
  exact ⟨b, q1, r1.trans q2, r2, r3⟩

theorem Told.nil (k : K) (p : V) (w : World) : Told k p w (.slice none 0 0) [] := by
  refine ⟨none, 0, 0, rfl, rfl, Nat.le_refl _, by unfold maxLen; omega, fun _ => rfl, ?_, ?_, ?_⟩
  · intro b off e; cases e
  · intro x hx; simp at hx
  · intro j x hx; simp at hx

theorem Told.row {k : K} {p : V} {w : World} {ao : Option Addr} {n c : Nat} {xs : List Int} (h : Told k p w (.slice ao n c) xs) : U.Row w ao n c xs := by
  obtain ⟨ao', n', c', e, h2, h3, h4, h5, h5', h6, h7⟩ := h
  cases e
  refine ⟨h2, h3, h4, h5, fun x hx => by obtain ⟨a1, a2⟩ := h6 x hx; exact ⟨by omega, a2⟩, fun h0 => ?_⟩
  obtain ⟨b, e, _⟩ := h7 0 _ (List.getElem?_eq_getElem (l := xs) (by omega))
  refine ⟨b, 0, e, fun j hj => ?_⟩
  have hl : j < xs.length := by omega
  obtain ⟨b', e', q, _⟩ := h7 j _ (List.getElem?_eq_getElem hl)
  rw [e] at e'; cases e'
  rw [Nat.zero_add, q]
  simp [hl]

/-! ### Rows of literals -/
theorem Row.same {w w' : World} {ao : Option Addr} {n c : Nat} {xs : List Int} (h : U.Row w ao n c xs) (hb : ∀ b off, 0 < n → ao = some ⟨b, off, none⟩ → w'.heap[b]? = w.heap[b]?) : U.Row w' ao n c xs := by
  refine ⟨h.1, h.2.1, h.2.2.1, h.2.2.2.1, h.2.2.2.2.1, fun h0 => ?_⟩
  obtain ⟨b, off, e, hc⟩ := h.2.2.2.2.2 h0
  exact ⟨b, off, e, fun j hj => by rw [← hc j hj]; exact World.cell?_of_block (hb b off h0 e)⟩

theorem LitRow.same {w w' : World} {v : Value} {xs : List Int} (h : LitRow w v xs) (hb : ∀ j, v.ownBlock = some j → 0 < xs.length → Typ w j 3 → w'.heap[j]? = w.heap[j]?) : LitRow w' v xs := by
  obtain ⟨ao, n, c, rfl, h1, h2⟩ := h
  have hl := h1.1
  refine ⟨ao, n, c, rfl, Row.same h1 (fun b off h0 e => ?_), fun h0 => ?_⟩
  · subst e
    obtain ⟨b', off', e', ht⟩ := h2 h0
    cases e'
    exact hb b rfl (by omega) ht
  · obtain ⟨b, off, rfl, ht⟩ := h2 h0
    exact ⟨b, off, rfl, ht.same (hb b rfl (by omega) ht)⟩

/-! ### What stays -/
section
variable {k : WK} {w w' : World} {g : G}

theorem MapAt.same {mb : Nat} {D : DataW (Option Addr)} (h : MapAt w g mb D) (e : w'.heap[mb]? = w.heap[mb]?) : MapAt w' g mb D := by
  obtain ⟨es, clock, hb, r⟩ := h.own
  exact ⟨⟨es, clock, e.trans hb, r⟩, h.val, h.has, h.size⟩

theorem MapOk.same (h : MapOk w g) (hm : ∀ (j : Nat) es clock, w.heap[j]? = some (Obj.map es clock) → w'.heap[j]? = w.heap[j]?) : MapOk w' g := by
  rcases h with h | ⟨mb, D, h1, h2⟩
  · exact .inl h
  · obtain ⟨es, clock, hb, r⟩ := id h2.own
    exact .inr ⟨mb, D, h1, h2.same (hm mb es clock hb)⟩

theorem MapOk.as (h : MapOk w g) {g' : G} (e1 : g'.nx = g.nx) (e2 : g'.cb = g.cb) (e3 : g'.gn = g.gn) (e4 : g'.mp = g.mp) : MapOk w g' := by
  rcases h with ⟨h1, h2⟩ | ⟨mb, D, h1, h2⟩
  · exact .inl ⟨e4.trans h1, e1.trans h2⟩
  · have hl : ∀ x, live g' x = live g x := fun x => by simp only [live, e1, e3]
    refine .inr ⟨mb, D, e4.trans h1, by rw [e1]; exact h2.own, fun x => ?_, fun x => ?_, ?_⟩
    · rw [hl, e2]; exact h2.val x
    · rw [hl]; exact h2.has x
    · rw [h2.size, liveN, liveN, e1, e3]

theorem Con.same (h : Con k w g) (hb : ∀ j T, Typ w j T → (T = 84 ∨ T = 82 ∨ T = 144) → w'.heap[j]? = w.heap[j]?) : Con k w' g := by
  refine ⟨by rw [hb _ 84 ⟨_, _, h.ob⟩ (by simp)]; exact h.ob, ?_, ?_, h.lo⟩
  · obtain ⟨c, h1, h2⟩ := h.wb
    exact ⟨c, by rw [hb _ 82 ⟨_, _, h1⟩ (by simp)]; exact h1, h2⟩
  · obtain ⟨c, h1, h2⟩ := h.fb
    exact ⟨c, by rw [hb _ 144 ⟨_, _, h1⟩ (by simp)]; exact h1, h2⟩

theorem Lst.same (h : Lst k w g) (hb : ∀ j T, Typ w j T → (T = 97 ∨ T = 92) → w'.heap[j]? = w.heap[j]?) (hm : ∀ (j : Nat) es clock, w.heap[j]? = some (Obj.map es clock) → w'.heap[j]? = w.heap[j]?)
    (hl : ∀ i j, i < g.nx → g.gn i = false → (g.lv i).ownBlock = some j → 0 < (g.lt i).length → Typ w j 3 → w'.heap[j]? = w.heap[j]?) : Lst k w' g := by
  refine ⟨h.hn, fun i hi => ?_, h.inj, fun s hs => (h.rw s hs).same (fun j c f e _ => hb j 92 ⟨_, _, e⟩ (by simp)), h.sub, h.ne, fun i hi hg => (h.li i hi hg).same (fun j e h0 ht => hl i j hi hg e h0 ht), h.mp.same hm, h.lo⟩
  have := h.cl i hi
  rw [hb _ 97 ⟨_, _, this⟩ (by simp)]; exact this

theorem St.same (h : St k w g) (hb : ∀ j T, Typ w j T → Wt T → w'.heap[j]? = w.heap[j]?) (hm : ∀ (j : Nat) es clock, w.heap[j]? = some (Obj.map es clock) → w'.heap[j]? = w.heap[j]?)
    (hl : ∀ i j, i < g.nx → g.gn i = false → (g.lv i).ownBlock = some j → 0 < (g.lt i).length → Typ w j 3 → w'.heap[j]? = w.heap[j]?) : St k w' g :=
  ⟨h.c.same (fun j T ht hT => hb j T ht (by rcases hT with rfl | rfl | rfl <;> simp [Wt])), h.l.same (fun j T ht hT => hb j T ht (by rcases hT with rfl | rfl <;> simp [Wt])) hm hl⟩

theorem St.grown (h : St k w g) (b : w.grownBy w' none) : St k w' g :=
  h.same (fun j T ht _ => b.block j ht.lt (by simp)) (fun j es clock e => b.block j (blk_lt e) (by simp)) (fun i j _ _ _ _ ht => b.block j ht.lt (by simp))
theorem St.below (h : St k w g) (b : Below w.heap.size w w') : St k w' g := h.grown (grown_below b)
theorem St.drew (h : St k w g) : St k w.drew g := h.below (below_drew w)
theorem Lst.grown (h : Lst k w g) (b : w.grownBy w' none) : Lst k w' g :=
  h.same (fun j T ht _ => b.block j ht.lt (by simp)) (fun j es clock e => b.block j (blk_lt e) (by simp)) (fun i j _ _ _ _ ht => b.block j ht.lt (by simp))

/-- A block of fields alone has changed. -/
theorem Lst.other (h : Lst k w g) {r : Nat} {T : TypeId} (b : w.grownBy w' (some r)) (hT : Typ w r T) (h1 : T ≠ 97) (h2 : T ≠ 92) (h3 : T ≠ 3) : Lst k w' g := by
  have key : ∀ j T', Typ w j T' → T' ≠ T → w'.heap[j]? = w.heap[j]? := fun j T' ht hne => b.block j ht.lt (fun e => hne (by cases e; exact ht.one hT))
  refine h.same (fun j T' ht hT' => key j T' ht (by rintro rfl; rcases hT' with rfl | rfl <;> contradiction)) (fun j es clock e => b.block j (blk_lt e) (fun e2 => ?_)) (fun i j _ _ _ _ ht => key j 3 ht (fun e => h3 e.symm))
  cases e2; obtain ⟨c, f, q⟩ := hT; rw [e] at q; cases q

theorem Con.other (h : Con k w g) {r : Option Nat} (b : w.grownBy w' r) (hT : ∀ j T, r = some j → Typ w j T → T ≠ 84 ∧ T ≠ 82 ∧ T ≠ 144) : Con k w' g :=
  h.same (fun j T ht hT' => b.block j ht.lt (fun e => by obtain ⟨a1, a2, a3⟩ := hT j T e.symm ht; rcases hT' with q | q | q <;> contradiction))

/-- One list has changed, and lies where it lay or elsewhere. -/
theorem St.list (h : St k w g) {s : Nat} (hs : s ≤ 3 * k.n) {v : Value} {xs : List Nat} (b : w.grownBy w' (g.pv s).ownBlock) (hr : PRow w' g.cb v xs) (nw : Nw w (g.pv s) v) (hx : ∀ i ∈ xs, i < g.nx) : Con k w' g ∧ Lst k w' (g.slot s xs v) := by
  have ht : ∀ j T, (g.pv s).ownBlock = some j → Typ w j T → T = 92 := fun j T e t => t.one ((h.l.rw s hs).typ e)
  have key : ∀ j T, Typ w j T → T ≠ 92 → w'.heap[j]? = w.heap[j]? := fun j T t hne => b.block j t.lt (fun e => hne (ht j T e.symm t))
  refine ⟨h.c.other b (fun j T e t => by rw [ht j T e t]; decide), h.l.hn, fun i hi => ?_, h.l.inj, fun t hT => ?_, fun t hT i hi => ?_, fun t u hT hU htu j hj => ?_, fun i hi hg => (h.l.li i hi hg).same (fun j e h0 q => key j 3 q (by decide)), ?_, h.l.lo.c, fun t hT j hj => ?_, h.l.lo.m⟩
  · have := h.l.cl i hi
    rw [show (g.slot s xs v).cb = g.cb from rfl, key _ 97 ⟨_, _, this⟩ (by decide)]; exact this
  · simp only [G.slot, up]
    by_cases e : t = s
    · rw [if_pos e, if_pos e]; exact hr
    · rw [if_neg e, if_neg e]
      exact (h.l.rw t hT).keep b (fun j hj => h.l.ne s t hs hT (fun c => e c.symm) j hj)
  · simp only [G.slot, up] at hi
    by_cases e : t = s
    · rw [if_pos e] at hi; exact hx i hi
    · rw [if_neg e] at hi; exact h.l.sub t hT i hi
  · simp only [G.slot, up] at hj ⊢
    by_cases e : t = s <;> by_cases e2 : u = s
    · omega
    · rw [if_pos e] at hj; rw [if_neg e2]
      rcases nw j hj with q | q
      · exact h.l.ne s u hs hU (fun c => e2 c.symm) j q
      · intro c; have := (h.l.rw u hU).lt c; omega
    · rw [if_neg e] at hj; rw [if_pos e2]
      intro c
      rcases nw j c with q | q
      · exact h.l.ne t s hT hs e j hj q
      · have := (h.l.rw t hT).lt hj; omega
    · rw [if_neg e] at hj; rw [if_neg e2]; exact h.l.ne t u hT hU htu j hj
  · refine MapOk.as (g := g) (MapOk.same (g := g) h.l.mp (fun j es clock e => b.block j (blk_lt e) (fun e2 => ?_))) rfl rfl rfl rfl
    obtain ⟨c, f, q⟩ := (h.l.rw s hs).typ e2.symm
    rw [e] at q; cases q
  · simp only [G.slot, up] at hj
    by_cases e : t = s
    · rw [if_pos e] at hj
      rcases nw j hj with q | q
      · exact h.l.lo.p s hs j q
      · have h1 := h.c.lo.1
        have h2 := blk_lt h.c.ob
        omega
    · rw [if_neg e] at hj; exact h.l.lo.p t hT j hj

/-- The list is put where it belongs: of a literal, of a variable, of those that wait. -/
theorem Con.putw (h : Con k w g) {s : Nat} (hs : s < 2 * k.n) (xs : List Nat) (v : Value) (l : Lst k w (g.slot s xs v)) : St k (w.setCell ⟨k.WB, s, none⟩ v) (g.slot s xs v) := by
  obtain ⟨c, h1, h2, h3⟩ := h.wb
  have gr := grown_set w ⟨k.WB, s, none⟩ v
  have ht : Typ w k.WB 82 := ⟨_, _, h1⟩
  have n1 : k.OB ≠ k.WB := blk_ne h.ob h1 (by decide)
  refine ⟨⟨?_, ?_, ?_, h.lo⟩, l.other gr ht (by decide) (by decide) (by decide)⟩
  · rw [gr.block _ (blk_lt h.ob) (fun e => n1 (Option.some.inj e))]
    simp only [G.slot]
    rw [up_ne _ _ (by omega)]; exact h.ob
  · refine ⟨_, set_same h1 v, by simpa using h2, fun i hi => ?_⟩
    simp only [G.slot, up]
    rw [Array.getElem?_setIfInBounds]
    by_cases e : s = i
    · subst e; rw [if_pos rfl, if_pos (by omega), if_pos rfl]
    · rw [if_neg e, if_neg (fun c => e c.symm)]; exact h3 i hi
  · obtain ⟨c', q1, q2, q3⟩ := h.fb
    have n2 : k.FB ≠ k.WB := blk_ne q1 h1 (by decide)
    refine ⟨c', by rw [gr.block _ (blk_lt q1) (fun e => n2 (Option.some.inj e))]; exact q1, q2, fun u hu => ?_⟩
    simp only [G.slot]
    rw [up_ne _ _ (by omega)]; exact q3 u hu

theorem Con.putl (h : Con k w g) {u : Nat} (hu : u < k.n) (xs : List Nat) (v : Value) (l : Lst k w (g.slot (2 * k.n + u) xs v)) : St k (w.setCell ⟨k.FB, u * 2 + 1, none⟩ v) (g.slot (2 * k.n + u) xs v) := by
  obtain ⟨c, h1, h2, h3⟩ := h.fb
  have gr := grown_set w ⟨k.FB, u * 2 + 1, none⟩ v
  have ht : Typ w k.FB 144 := ⟨_, _, h1⟩
  have n1 : k.OB ≠ k.FB := blk_ne h.ob h1 (by decide)
  refine ⟨⟨?_, ?_, ?_, h.lo⟩, l.other gr ht (by decide) (by decide) (by decide)⟩
  · rw [gr.block _ (blk_lt h.ob) (fun e => n1 (Option.some.inj e))]
    simp only [G.slot]
    rw [up_ne _ _ (by omega)]; exact h.ob
  · obtain ⟨c', q1, q2, q3⟩ := h.wb
    have n2 : k.WB ≠ k.FB := blk_ne q1 h1 (by decide)
    refine ⟨c', by rw [gr.block _ (blk_lt q1) (fun e => n2 (Option.some.inj e))]; exact q1, q2, fun i hi => ?_⟩
    simp only [G.slot]
    rw [up_ne _ _ (by omega)]; exact q3 i hi
  · refine ⟨_, set_same h1 v, by simpa using h2, fun i hi => ?_⟩
    obtain ⟨r1, r2⟩ := h3 i hi
    simp only [G.slot, up]
    rw [Array.getElem?_setIfInBounds, Array.getElem?_setIfInBounds, if_neg (by omega)]
    refine ⟨r1, ?_⟩
    by_cases e : u = i
    · subst e; rw [if_pos rfl, if_pos (by omega), if_pos rfl]
    · rw [if_neg (by omega), if_neg (by omega)]; exact r2

theorem Con.puta (h : Con k w g) (xs : List Nat) (v : Value) (l : Lst k w (g.slot (3 * k.n) xs v)) : St k (w.setCell ⟨k.OB, 4, none⟩ v) (g.slot (3 * k.n) xs v) := by
  have gr := grown_set w ⟨k.OB, 4, none⟩ v
  have ht : Typ w k.OB 84 := ⟨_, _, h.ob⟩
  obtain ⟨c, h1, h2, h3⟩ := h.wb
  obtain ⟨c', q1, q2, q3⟩ := h.fb
  have n1 : k.WB ≠ k.OB := blk_ne h1 h.ob (by decide)
  have n2 : k.FB ≠ k.OB := blk_ne q1 h.ob (by decide)
  refine ⟨⟨?_, ?_, ?_, h.lo⟩, l.other gr ht (by decide) (by decide) (by decide)⟩
  · rw [set_same h.ob]
    simp only [G.slot]
    rw [up_same]
    rfl
  · refine ⟨c, by rw [gr.block _ (blk_lt h1) (fun e => n1 (Option.some.inj e))]; exact h1, h2, fun i hi => ?_⟩
    simp only [G.slot]
    rw [up_ne _ _ (by omega)]; exact h3 i hi
  · refine ⟨c', by rw [gr.block _ (blk_lt q1) (fun e => n2 (Option.some.inj e))]; exact q1, q2, fun i hi => ?_⟩
    simp only [G.slot]
    rw [up_ne _ _ (by omega)]; exact q3 i hi

/-! ### Fields -/
theorem St.fieldO (h : St k w g) (i : Nat) (v : Value) (g' : G) (e1 : (#[Value.map g.mp, .int .i64 g.nx, .slice (some ⟨k.WB, 0, none⟩) (2 * k.n) (2 * k.n), .slice (some ⟨k.FB, 0, none⟩) k.n k.n, g.pv (3 * k.n), g.hv, .int .i64 g.dn, .int .i64 g.rm].setIfInBounds i v) = #[.map g'.mp, .int .i64 g'.nx, .slice (some ⟨k.WB, 0, none⟩) (2 * k.n) (2 * k.n), .slice (some ⟨k.FB, 0, none⟩) k.n k.n, g'.pv (3 * k.n), g'.hv, .int .i64 g'.dn, .int .i64 g'.rm])
    (e2 : g'.pv = g.pv) (e3 : g'.pl = g.pl) (l : Lst k w g → Lst k w g') : St k (w.setCell ⟨k.OB, i, none⟩ v) g' := by
  have gr := grown_set w ⟨k.OB, i, none⟩ v
  have ht : Typ w k.OB 84 := ⟨_, _, h.c.ob⟩
  obtain ⟨c, h1, h2, h3⟩ := h.c.wb
  obtain ⟨c', q1, q2, q3⟩ := h.c.fb
  have n1 : k.WB ≠ k.OB := blk_ne h1 h.c.ob (by decide)
  have n2 : k.FB ≠ k.OB := blk_ne q1 h.c.ob (by decide)
  refine ⟨⟨?_, ?_, ?_, h.c.lo⟩, (l h.l).other gr ht (by decide) (by decide) (by decide)⟩
  · rw [set_same h.c.ob, e1]
  · exact ⟨c, by rw [gr.block _ (blk_lt h1) (fun e => n1 (Option.some.inj e))]; exact h1, h2, by rw [e2]; exact h3⟩
  · exact ⟨c', by rw [gr.block _ (blk_lt q1) (fun e => n2 (Option.some.inj e))]; exact q1, q2, by rw [e2, e3]; exact q3⟩

theorem Lst.as (l : Lst k w g) {hv : Value} {dn rm : Nat} {pl : Nat → Int} : Lst k w { g with hv := hv, dn := dn, rm := rm, pl := pl } := ⟨l.hn, l.cl, l.inj, l.rw, l.sub, l.ne, l.li, l.mp.as rfl rfl rfl rfl, l.lo.c, l.lo.p, l.lo.m⟩

theorem St.puth (h : St k w g) (v : Value) : St k (w.setCell ⟨k.OB, 5, none⟩ v) { g with hv := v } := h.fieldO 5 v _ rfl rfl rfl (fun l => l.as)
theorem St.putd (h : St k w g) (d : Nat) : St k (w.setCell ⟨k.OB, 6, none⟩ (.int .i64 d)) { g with dn := d } := h.fieldO 6 _ _ rfl rfl rfl (fun l => l.as)
theorem St.putp (h : St k w g) {u : Nat} (hu : u < k.n) (q : Int) : St k (w.setCell ⟨k.FB, u * 2, none⟩ (.int .i64 q)) (g.place u q) := by
  obtain ⟨c, h1, h2, h3⟩ := h.c.fb
  have gr := grown_set w ⟨k.FB, u * 2, none⟩ (.int .i64 q)
  have ht : Typ w k.FB 144 := ⟨_, _, h1⟩
  have n1 : k.OB ≠ k.FB := blk_ne h.c.ob h1 (by decide)
  refine ⟨⟨?_, ?_, ?_, h.c.lo⟩, (h.l.as (hv := g.hv) (dn := g.dn) (rm := g.rm) (pl := up g.pl u q)).other gr ht (by decide) (by decide) (by decide)⟩
  · rw [gr.block _ (blk_lt h.c.ob) (fun e => n1 (Option.some.inj e))]; exact h.c.ob
  · obtain ⟨c', q1, q2, q3⟩ := h.c.wb
    have n2 : k.WB ≠ k.FB := blk_ne q1 h1 (by decide)
    exact ⟨c', by rw [gr.block _ (blk_lt q1) (fun e => n2 (Option.some.inj e))]; exact q1, q2, q3⟩
  · refine ⟨_, set_same h1 _, by simpa using h2, fun i hi => ?_⟩
    obtain ⟨r1, r2⟩ := h3 i hi
    simp only [G.place, up]
    rw [Array.getElem?_setIfInBounds, Array.getElem?_setIfInBounds, if_neg (show ¬ u * 2 = i * 2 + 1 by omega)]
    refine ⟨?_, r2⟩
    by_cases e : u = i
    · subst e; rw [if_pos rfl, if_pos (by omega), if_pos rfl]
    · rw [if_neg (by omega), if_neg (by omega)]; exact r1

/-- A clause's fields are others now. -/
theorem St.clause (h : St k w g) {i : Nat} (hi : i < g.nx) (gr : w.grownBy w' (some (g.cb i))) (g' : G) (he : w'.heap[g.cb i]? = some (.cells (clc g' i) 97 (0, 0)))
    (e1 : g' = { g with a := g'.a, b := g'.b, fr := g'.fr }) (e2 : ∀ j, j ≠ i → clc g' j = clc g j) : St k w' g' := by
  have ht : Typ w (g.cb i) 97 := ⟨_, _, h.l.cl i hi⟩
  have key : ∀ j T, Typ w j T → T ≠ 97 → w'.heap[j]? = w.heap[j]? := fun j T t hne => gr.block j t.lt (fun e => hne (by cases e; exact t.one ht))
  obtain ⟨nx, cb, lt, lv, a, b, fr, gn, P, pv, pl, mp, hv, dn, rm⟩ := g
  obtain ⟨nx', cb', lt', lv', a', b', fr', gn', P', pv', pl', mp', hv', dn', rm'⟩ := g'
  simp only [G.mk.injEq] at e1
  obtain ⟨rfl, rfl, rfl, rfl, -, -, -, rfl, rfl, rfl, rfl, rfl, rfl, rfl, rfl⟩ := e1
  refine ⟨⟨?_, ?_, ?_, h.c.lo⟩, h.l.hn, fun j hj => ?_, h.l.inj, fun s hs => (h.l.rw s hs).same (fun j c f e _ => key j 92 ⟨_, _, e⟩ (by decide)), h.l.sub, h.l.ne, fun j hj hg => (h.l.li j hj hg).same (fun q e h0 t => key q 3 t (by decide)), MapOk.as (MapOk.same h.l.mp (fun j es clock e => gr.block j (blk_lt e) (fun e2 => ?_))) rfl rfl rfl rfl, h.l.lo.c, h.l.lo.p, h.l.lo.m⟩
  · rw [key _ 84 ⟨_, _, h.c.ob⟩ (by decide)]; exact h.c.ob
  · obtain ⟨c, h1, h2⟩ := h.c.wb
    exact ⟨c, by rw [key _ 82 ⟨_, _, h1⟩ (by decide)]; exact h1, h2⟩
  · obtain ⟨c, h1, h2⟩ := h.c.fb
    exact ⟨c, by rw [key _ 144 ⟨_, _, h1⟩ (by decide)]; exact h1, h2⟩
  · by_cases e : j = i
    · subst e; exact he
    · have q := h.l.cl j hj
      rw [gr.block _ (blk_lt q) (fun c => e (h.l.inj j i hj hi (Option.some.inj c)))]
      rw [q, e2 j e]
  · cases e2; obtain ⟨c, f, q⟩ := ht; rw [e] at q; cases q

theorem St.putwatch (h : St k w g) {i : Nat} (hi : i < g.nx) (hg : g.gn i = false) (x y : Int) : St k ((w.setCell ⟨g.cb i, 2, none⟩ (.int .i64 x)).setCell ⟨g.cb i, 3, none⟩ (.int .i64 y)) (g.watch i x y) := by
  refine h.clause hi (grown_two (grown_set w ⟨g.cb i, 2, none⟩ _) (grown_set _ ⟨g.cb i, 3, none⟩ _)) _ ?_ rfl (fun j hj => ?_)
  · rw [set_same (set_same (h.l.cl i hi) _)]
    simp [clc, G.watch, hg, up_same]
  · simp [clc, G.watch, up_ne _ _ hj]

theorem St.putfrom (h : St k w g) {i : Nat} (hi : i < g.nx) (hg : g.gn i = false) (f : Nat) : St k (w.setCell ⟨g.cb i, 4, none⟩ (.int .i64 f)) (g.from i f) := by
  refine h.clause hi (grown_set w ⟨g.cb i, 4, none⟩ _) _ ?_ rfl (fun j hj => ?_)
  · rw [set_same (h.l.cl i hi)]
    simp [clc, G.from, hg, up_same]
  · simp [clc, G.from, up_ne _ _ hj]

/-! ### Cells -/
theorem St.o (h : St k w g) : w.cell? ⟨k.OB, 0, none⟩ = some (.map g.mp) ∧ w.cell? ⟨k.OB, 1, none⟩ = some (.int .i64 g.nx) ∧ w.cell? ⟨k.OB, 2, none⟩ = some (.slice (some ⟨k.WB, 0, none⟩) (2 * k.n) (2 * k.n)) ∧ w.cell? ⟨k.OB, 3, none⟩ = some (.slice (some ⟨k.FB, 0, none⟩) k.n k.n) ∧ w.cell? ⟨k.OB, 4, none⟩ = some (g.pv (3 * k.n)) ∧ w.cell? ⟨k.OB, 5, none⟩ = some g.hv ∧ w.cell? ⟨k.OB, 6, none⟩ = some (.int .i64 g.dn) ∧ w.cell? ⟨k.OB, 7, none⟩ = some (.int .i64 g.rm) := by
  simp [cell_of h.c.ob]
theorem St.c0 (h : St k w g) : w.cell? ⟨k.OB, 0, none⟩ = some (.map g.mp) := h.o.1
theorem St.c1 (h : St k w g) : w.cell? ⟨k.OB, 1, none⟩ = some (.int .i64 g.nx) := h.o.2.1
theorem St.c2 (h : St k w g) : w.cell? ⟨k.OB, 2, none⟩ = some (.slice (some ⟨k.WB, 0, none⟩) (2 * k.n) (2 * k.n)) := h.o.2.2.1
theorem St.c3 (h : St k w g) : w.cell? ⟨k.OB, 3, none⟩ = some (.slice (some ⟨k.FB, 0, none⟩) k.n k.n) := h.o.2.2.2.1
theorem St.c4 (h : St k w g) : w.cell? ⟨k.OB, 4, none⟩ = some (g.pv (3 * k.n)) := h.o.2.2.2.2.1
theorem St.c5 (h : St k w g) : w.cell? ⟨k.OB, 5, none⟩ = some g.hv := h.o.2.2.2.2.2.1
theorem St.c6 (h : St k w g) : w.cell? ⟨k.OB, 6, none⟩ = some (.int .i64 g.dn) := h.o.2.2.2.2.2.2.1
theorem St.c7 (h : St k w g) : w.cell? ⟨k.OB, 7, none⟩ = some (.int .i64 g.rm) := h.o.2.2.2.2.2.2.2
theorem St.of (h : St k w g) (i : Nat) : w.frozen? ⟨k.OB, i, none⟩ = false := frozen_of h.c.ob
theorem Con.of (h : Con k w g) (i : Nat) : w.frozen? ⟨k.OB, i, none⟩ = false := frozen_of h.ob
theorem Con.c2 (h : Con k w g) : w.cell? ⟨k.OB, 2, none⟩ = some (.slice (some ⟨k.WB, 0, none⟩) (2 * k.n) (2 * k.n)) := by rw [cell_of h.ob]; rfl
theorem Con.c3 (h : Con k w g) : w.cell? ⟨k.OB, 3, none⟩ = some (.slice (some ⟨k.FB, 0, none⟩) k.n k.n) := by rw [cell_of h.ob]; rfl
theorem Con.c4 (h : Con k w g) : w.cell? ⟨k.OB, 4, none⟩ = some (g.pv (3 * k.n)) := by rw [cell_of h.ob]; rfl
theorem Con.wc (h : Con k w g) {s : Nat} (hs : s < 2 * k.n) : w.cell? ⟨k.WB, s, none⟩ = some (g.pv s) := by
  obtain ⟨c, h1, h2, h3⟩ := h.wb; rw [cell_of h1]; exact h3 s hs
theorem Con.wf (h : Con k w g) (s : Nat) : w.frozen? ⟨k.WB, s, none⟩ = false := by obtain ⟨c, h1, _⟩ := h.wb; exact frozen_of h1
theorem Con.fp (h : Con k w g) {u : Nat} (hu : u < k.n) : w.cell? ⟨k.FB, u * 2, none⟩ = some (.int .i64 (g.pl u)) := by
  obtain ⟨c, h1, h2, h3⟩ := h.fb; rw [cell_of h1]; exact (h3 u hu).1
theorem Con.fl (h : Con k w g) {u : Nat} (hu : u < k.n) : w.cell? ⟨k.FB, u * 2 + 1, none⟩ = some (g.pv (2 * k.n + u)) := by
  obtain ⟨c, h1, h2, h3⟩ := h.fb; rw [cell_of h1]; exact (h3 u hu).2
theorem Con.ff (h : Con k w g) (s : Nat) : w.frozen? ⟨k.FB, s, none⟩ = false := by obtain ⟨c, h1, _⟩ := h.fb; exact frozen_of h1

theorem Lst.k5 (h : Lst k w g) {i : Nat} (hi : i < g.nx) : w.cell? ⟨g.cb i, 5, none⟩ = some (.bool (g.gn i)) := by
  rw [cell_of (h.cl i hi), clc]; cases g.gn i <;> rfl
theorem Lst.ks (h : Lst k w g) {i : Nat} (hi : i < g.nx) (hg : g.gn i = false) : w.cell? ⟨g.cb i, 0, none⟩ = some (.int .i64 i) ∧ w.cell? ⟨g.cb i, 1, none⟩ = some (g.lv i) ∧ w.cell? ⟨g.cb i, 2, none⟩ = some (.int .i64 (g.a i)) ∧ w.cell? ⟨g.cb i, 3, none⟩ = some (.int .i64 (g.b i)) ∧ w.cell? ⟨g.cb i, 4, none⟩ = some (.int .i64 (g.fr i)) := by
  simp [cell_of (h.cl i hi), clc, hg]
theorem Lst.kf (h : Lst k w g) {i : Nat} (hi : i < g.nx) (o : Nat) : w.frozen? ⟨g.cb i, o, none⟩ = false := frozen_of (h.cl i hi)
end

end Go.Proofs.YtimfjoinjfecjaaGreat

namespace Go.Proofs.YtimfjoinjfecjaaGreat
open Go.RowKit Go.Maps
set_option linter.unusedVariables false

theorem law3 : Keyed Tryz.prog 3 := int_keyed Tryz.underlying3

theorem wf_of {x : Int} (h0 : -9223372036854775808 ≤ x) (h1 : x ≤ 9223372036854775807) : (Lit.int .i64 x).wf = true := by
  simp [Lit.wf, IntKind.min, IntKind.max, IntKind.signed, IntKind.bits]; omega

/-- A watch and its trail. -/
structure J (k : K) (kw : WK) (w : World) (g : G) (L : List E) (lev : Nat) (p : V) : Prop where
  t : Trl k w L lev p
  s : St kw w g
  n : k.n = kw.n
  b : kw.B ≤ k.B
  aw : ∀ i, i < g.nx → g.gn i = false → ∀ j, (g.lv i).ownBlock = some j → 0 < (g.lt i).length → ¬ Mine k p j

section
variable {k : K} {kw : WK} {w w' : World} {g : G} {L : List E} {lev : Nat} {p : V}

theorem J.below (j : J k kw w g L lev p) (b : Below w.heap.size w w') : J k kw w' g L lev p := ⟨j.t.below b, j.s.below b, j.n, j.b, j.aw⟩
theorem J.fw {g' : G} (j : J k kw w g L lev p) (f : FW kw.B w w') (s : St kw w' g') (e1 : g'.nx = g.nx) (e2 : g'.gn = g.gn) (e3 : g'.lv = g.lv) (e4 : g'.lt = g.lt) : J k kw w' g' L lev p :=
  ⟨j.t.fw f, s, j.n, j.b, by rw [e1, e2, e3, e4]; exact j.aw⟩

theorem St.fr {k : K} {p p' : V} (s : St kw w g) (t : Trl k w L lev p) (f : Fr k p p' w w') (aw : ∀ i, i < g.nx → g.gn i = false → ∀ j, (g.lv i).ownBlock = some j → 0 < (g.lt i).length → ¬ Mine k p j) : St kw w' g := by
  refine s.same (fun j T ht hT => f.block j ht.lt (fun m => ?_)) (fun j es clock e => f.block j (blk_lt e) (fun m => ?_)) (fun i j hi hg e h0 ht => f.block j ht.lt (aw i hi hg j e h0))
  · obtain ⟨T', h1, h2⟩ := t.mine_typ m
    exact h2 (h1.one ht ▸ hT)
  · obtain ⟨T', ⟨c, fr, h1⟩, _⟩ := t.mine_typ m
    rw [e] at h1; cases h1

theorem LitRow.lt {v : Value} {xs : List Int} (h : LitRow w v xs) {j : Nat} (e : v.ownBlock = some j) (h0 : 0 < xs.length) : Typ w j 3 := by
  obtain ⟨ao, n, c, rfl, h1, h2⟩ := h
  obtain ⟨b, off, rfl, ht⟩ := h2 (by have := h1.1; omega)
  simp [Value.ownBlock] at e; subst e; exact ht

theorem J.fr {L' : List E} {lev' : Nat} {p' : V} (j : J k kw w g L lev p) (f : Fr k p p' w w') (t : Trl k w' L' lev' p') : J k kw w' g L' lev' p' :=
  ⟨t, j.s.fr j.t f j.aw, j.n, j.b, fun i hi hg b e h0 m => j.aw i hi hg b e h0 (f.new b ((j.s.l.li i hi hg).lt e h0).lt m)⟩
end

section
variable {k : WK} {w : World} {g : G}

theorem has_yes (s : St k w g) (m u : Nat) (hm : m / 2 = u) (h : u < k.n) : Calls Tryz.prog 69 #[.pointer (some ⟨k.OB, 0, none⟩), .int .i64 m] w fun e w' => e = .returned (.bool true) ∧ Below w.heap.size w w' := by
  have hn := s.l.hn
  have hu : (m : Int) ≤ 9223372036854775807 := by omega
  have h' : (u : Int) < k.n := by omega
  have HM := hid hm
  have HS := hid s
  clear hm s
  go_enter Tryz.func69, Tryz.ntmps69
  go_wp2_with (go_at_call 24; with_reducible (refine (var_nat _ _ HM.out hu _).mono ?_); rintro e w1 ⟨rfl, b1⟩; have c3 := (HS.out.below b1).c3)
  go_ret
  exact ⟨rfl, b1⟩

theorem place_is (s : St k w g) (m u : Nat) (hm : m / 2 = u) (h : u < k.n) : Calls Tryz.prog 118 #[.pointer (some ⟨k.OB, 0, none⟩), .int .i64 m] w fun e w' => e = .returned (.int .i64 (g.pl u)) ∧ Hid (Below w.heap.size w w') := by
  have hn := s.l.hn
  have hu : (m : Int) ≤ 9223372036854775807 := by omega
  have h' : (u : Int) < k.n := by omega
  have HM := hid hm
  have HS := hid s
  have c3 := s.c3
  clear hm s
  go_enter Tryz.func118, Tryz.ntmps118
  go_wp2
  go_region_with (go_at_call 24; with_reducible (refine (var_nat _ _ HM.out hu _).mono ?_); rintro e w1 ⟨rfl, b1⟩; have s1 := hid (HS.out.drew.below b1); have c3' := s1.out.c3; have cp := s1.out.c.fp h)
  all_goals go_wp2
  all_goals go_ret
  all_goals exact ⟨rfl, Below.next (below_drew w) b1⟩

theorem put_is (s : St k w g) (m u : Nat) (hm : m / 2 = u) (h : u < k.n) (q : Nat) : Calls Tryz.prog 76 #[.pointer (some ⟨k.OB, 0, none⟩), .int .i64 m, .int .i64 q] w fun e w' => e = .returned (.tuple #[]) ∧ Hid (St k w' (g.place u q) ∧ FW k.B w w') := by
  have hn := s.l.hn
  have hu : (m : Int) ≤ 9223372036854775807 := by omega
  have h' : (u : Int) < k.n := by omega
  have HM := hid hm
  have HS := hid s
  clear hm s
  go_enter Tryz.func76, Tryz.ntmps76
  go_wp2_with (go_at_call 69; with_reducible (refine (has_yes HS.out m u HM.out h).mono ?_); rintro e w1 ⟨rfl, b1⟩; have s1 := hid (HS.out.below b1); have c3 := s1.out.c3)
  go_region_with (go_at_call 24; with_reducible (refine (var_nat _ _ HM.out hu _).mono ?_); rintro e w2 ⟨rfl, b2⟩; have b3 := hid (Below.next (Below.next b1 (below_drew w1)) b2); have s2 := hid (HS.out.below b3.out); have c3' := s2.out.c3; have cp := s2.out.c.fp h; have cf := s2.out.c.ff (u * 2))
  all_goals go_wp2
  all_goals go_end0
  all_goals exact ⟨rfl, s2.out.putp h q, (FW.below b3.out).trans (FW.grown (grown_set w2 ⟨k.FB, u * 2, none⟩ (.int .i64 (q : Int))) (fun j T e t => by cases e; obtain ⟨c, q1, _⟩ := s2.out.c.fb; rw [t.one ⟨_, _, q1⟩]; simp [Wt]) (fun j e => by cases e; exact s2.out.c.lo.2.2))⟩

/-- The other literal that a clause watches. -/
def besideF (g : G) (c : Nat) (x : Int) : Int := if g.a c = x then g.b c else g.a c

theorem beside_is (l : Lst k w g) {c : Nat} (hc : c < g.nx) (hg : g.gn c = false) (x y : Int) (hy : besideF g c x = y) : Calls Tryz.prog 117 #[.pointer (some ⟨g.cb c, 0, none⟩), .int .i64 x] w fun e w' => e = .returned (.int .i64 y) ∧ w' = w := by
  obtain ⟨c0, c1, c2, c3, c4⟩ := l.ks hc hg
  unfold besideF at hy
  by_cases e : g.a c = x
  · rw [if_pos e] at hy
    subst hy
    have e' : (g.a c == x) = true := by simpa using e
    clear e l
    go_enter Tryz.func117, Tryz.ntmps117
    go_wp2
    go_ret
    exact ⟨rfl, rfl⟩
  · rw [if_neg e] at hy
    subst hy
    have e' : (g.a c == x) = false := by simpa using e
    clear e l
    go_enter Tryz.func117, Tryz.ntmps117
    go_wp2
    go_ret
    exact ⟨rfl, rfl⟩

theorem look_nil (x : Int) (w : World) : (Instr.lookup 81 (.map none) (.int .i64 x) false).run Tryz.prog w = .ok (.pointer none) w := by kernel_rfl
theorem len_nil (ty : TypeId) (w : World) : (Builtin.len_ #[81] ty #[.map none]).run Tryz.prog w = .ok (.int .i64 0) w := by kernel_rfl

def clauseV (g : G) (x : Int) : Value := .pointer (if live g x = true then some ⟨g.cb x.toNat, 0, none⟩ else none)

theorem St.look (s : St k w g) {x : Int} (h0 : -9223372036854775808 ≤ x) (h1 : x ≤ 9223372036854775807) : (Instr.lookup 81 (.map g.mp) (.int .i64 x) false).run Tryz.prog w = .ok (clauseV g x) w := by
  rcases s.l.mp with ⟨e1, e2⟩ | ⟨mb, D, e1, m⟩
  · have hl : live g x = false := by simp [live, e2]; omega
    rw [e1, clauseV, hl]
    exact look_nil x w
  · rw [e1]
    obtain ⟨v, ps, hr, hv⟩ := m.own.lookup law3 Tryz.underlying81 (zero84 w) (zd := .held none) (zp := []) rfl (keyOf_int_mk Tryz.underlying3 (wf_of h0 h1))
    rw [m.val x] at hv
    rw [hr]
    cases v <;> simp [ptrElem] at hv
    rw [hv.1]; rfl







theorem St.len (s : St k w g) (ty : TypeId) : (Builtin.len_ #[81] ty #[.map g.mp]).run Tryz.prog w = .ok (.int .i64 (liveN g)) w := by
  rcases s.l.mp with ⟨e1, e2⟩ | ⟨mb, D, e1, m⟩
  · have hl : liveN g = 0 := by simp [liveN, e2]
    rw [e1, hl]
    exact len_nil ty w
  · rw [e1, m.own.len Tryz.underlying81 ty, m.size]








end

end Go.Proofs.YtimfjoinjfecjaaGreat
