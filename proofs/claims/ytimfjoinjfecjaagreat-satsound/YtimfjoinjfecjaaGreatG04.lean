/-
  A trail: Back.
-/
import Derived.Test.YtimfjoinjfecjaaGreatG03
import Derived.RangeFuncBox
import Derived.RangeFuncLeaves
import Derived.RangeFuncFrom
import Derived.RangeFuncCalls
import Derived.RangeFuncNested
import Derived.Shelf.Abstract
import Derived.OwnWalkIn
import Derived.TacticsInMore
import Derived.LoopNIn
import Derived.LoopIn
import Derived.BigRegionIn

namespace Go.Proofs.YtimfjoinjfecjaaGreat
open Go.RowKit Go.Shelf
set_option linter.unusedVariables false

attribute [local go_sem] Oper.semAt_some

/-- A place, and a literal of one of n variables. -/
abbrev Al (n : Nat) := { x : Nat × Nat // x.2 / 2 < n }

/-- What two blocks held they hold. -/
def Keep2 (A0 B0 : Nat) (A B : World) : Prop := B.heap[A0]? = A.heap[A0]? ∧ B.heap[B0]? = A.heap[B0]?

theorem keep2_t {A0 B0 : Nat} {A B C : World} (h : Keep2 A0 B0 A B) (k : Keep2 A0 B0 B C) : Keep2 A0 B0 A C := ⟨k.1.trans h.1, k.2.trans h.2⟩
theorem keep2_b {A0 B0 : Nat} {w : World} (ha : A0 < w.heap.size) (hb : B0 < w.heap.size) (W : World) (l : Nat) (o o' : Obj) (hl : w.heap.size ≤ l) (h : W.heap[l]? = some o) (a : o.isCells = false) (b : o.isWalk = false) : Keep2 A0 B0 W (W.putObj l o') :=
  ⟨(belowK_b (n₀ := w.heap.size) (w := w) (Nat.le_refl _) W l o o' hl h a b).block _ ha, (belowK_b (n₀ := w.heap.size) (w := w) (Nat.le_refl _) W l o o' hl h a b).block _ hb⟩
theorem keep2_cell {A0 B0 : Nat} {A B : World} (h : Keep2 A0 B0 A B) {o : Nat} {v : Value} : (A.cell? ⟨A0, o, none⟩ = some v → B.cell? ⟨A0, o, none⟩ = some v) ∧ (A.cell? ⟨B0, o, none⟩ = some v → B.cell? ⟨B0, o, none⟩ = some v) :=
  ⟨fun q => (World.cell?_of_block (a := ⟨A0, o, none⟩) h.1).trans q, fun q => (World.cell?_of_block (a := ⟨B0, o, none⟩) h.2).trans q⟩

set_option maxRecDepth 100000 in
set_option maxHeartbeats 2000000 in
theorem backward1_in (N : Nat) (hN : 1 ≤ N) (l Bs b off cap n len : Nat) (zs : List (Al n)) (hz : zs.length = len) (hlen : len ≤ 1048576) (J Jx : List (Al n) → World → Prop)
    (hY : ∀ pre x W, J pre W → pre.length < len → YieldAt Fence.wide (N - 1) Tryz.prog l #[.int .i64 (x.1.1 : Int), .int .i64 (x.1.2 : Int)] W fun e W' =>
      (e = .returned (.bool true) ∧ J (pre ++ [x]) W' ∧ Keep2 Bs b W W') ∨ (e = .returned (.bool false) ∧ Jx (pre ++ [x]) W'))
    (W : World) (hBs : W.cell? ⟨Bs, 0, none⟩ = some (.slice (some ⟨b, off, none⟩) len cap)) (hc : ∀ k (x : Al n), zs[k]? = some x → x.1.1 + k + 1 = len ∧ W.cell? ⟨b, off + x.1.1, none⟩ = some (.int .i64 (x.1.2 : Int))) (h0 : J [] W) :
    CallsIn Fence.wide N Tryz.prog 134 #[.func (.yield l) #[] #[], .pointer (some ⟨Bs, 0, none⟩)] W fun e W' => (∃ v, e = .returned v) ∧
      ((∃ ys, ys = zs ∧ J ys W') ∨ (∃ pre, True ∧ Jx pre W')) := by
  refine callsIn_of_wp Tryz.func134 rfl trivial ?_ rfl
  simp only [Tryz.ntmps134, List.size_toArray, List.length_cons, List.length_nil, Nat.reduceAdd, Nat.reduceSub, Array.replicate_succ, Array.replicate_zero, List.push_toArray, List.append_toArray, List.nil_append, List.cons_append]
  gi_wp2
  gi_loopw [3] (fun i wr => ∃ (k : Nat) (c : Int), k ≤ len ∧ i = .int .i64 c ∧ Hid (c + k + 1 = len) ∧ J (zs.take k) wr ∧ Hid (Keep2 Bs b W wr))
    (fun i _ => ((intOf i) + 1).toNat)
  case atStart => exact ⟨0, (len : Int) - 1, Nat.zero_le _, rfl, hid (by omega), by simpa using h0, hid ⟨rfl, rfl⟩⟩
  case round =>
    obtain ⟨k, c, hk, rfl, hck, hJs, hkp⟩ := hrel
    by_cases hlt : k < len
    · have hzk : k < zs.length := by omega
      obtain ⟨hx1, hx2⟩ := hc k zs[k] (List.getElem?_eq_getElem hzk)
      have HT : Hid (zs.take k ++ [zs[k]] = zs.take (k + 1)) := hid (by simp)
      revert hx1 hx2 HT
      generalize zs[k] = x
      obtain ⟨⟨xi, xl⟩, hxn⟩ := x
      intro hx1 hx2 HT
      simp only at hx1 hx2
      obtain rfl : c = (xi : Int) := by have := hck.out; omega
      have hxi : (xi : Int) < len := by omega
      have hcB := (keep2_cell hkp.out).1 hBs
      have hcx := (keep2_cell hkp.out).2 hx2
      obtain ⟨fn, tmps, assign, body, hy, hR⟩ := hY _ ⟨(xi, xl), hxn⟩ wr hJs (by simp; omega)
      dsimp only at hy
      gi_wp2
      refine hR.mono ?_
      rintro e W3 (⟨rfl, hJ3, hk3⟩ | ⟨rfl, hJx3⟩)
      · gi_wp2
        go_roundw
        case rel => exact ⟨k + 1, (xi : Int) - 1, by omega, rfl, hid (by omega), by rw [← HT.out]; exact hJ3, hid (keep2_t hkp.out hk3)⟩
        case measure => simp only [intOf]; omega
      · gi_wp2
        refine bodyPost_ret (results_none rfl _ _ _) rfl ?_
        exact ⟨⟨_, rfl⟩, .inr ⟨_, trivial, hJx3⟩⟩
    · obtain rfl : k = len := by omega
      obtain rfl : c = -1 := by have := hck.out; omega
      have HT : Hid (zs.take k = zs) := hid (List.take_of_length_le (by omega))
      gi_wp2
      go_end0
      exact ⟨⟨_, rfl⟩, .inl ⟨_, rfl, by rw [← HT.out]; exact hJs⟩⟩

set_option maxHeartbeats 1000000 in
theorem backward_in (N : Nat) (a : Option Addr) (len cap : Nat) (w : World) :
    CallsIn Fence.wide N Tryz.prog 102 #[.slice a len cap] w fun e w' => e = .returned (.func (.func 134) #[] #[.pointer (some ⟨w.heap.size, 0, none⟩)]) ∧ w' = w.alloc (.cells #[.slice a len cap] 42) := by
  refine callsIn_of_wp Tryz.func102 rfl trivial ?_ rfl
  simp only [Tryz.ntmps102, List.size_toArray, List.length_cons, List.length_nil, Nat.reduceAdd, Nat.reduceSub, Array.replicate_succ, Array.replicate_zero, List.push_toArray, List.append_toArray, List.nil_append, List.cons_append]
  gi_wp2
  go_ret
  exact ⟨rfl, rfl⟩

theorem backward_stops (N : Nat) (hN : 1 ≤ N) (Bs b off cap n len : Nat) (zs : List (Al n)) (hz : zs.length = len) (hlen : len ≤ 1048576) (w : World) (hBl : Bs < w.heap.size) (hbl : b < w.heap.size)
    (hBs : w.cell? ⟨Bs, 0, none⟩ = some (.slice (some ⟨b, off, none⟩) len cap)) (hc : ∀ k (x : Al n), zs[k]? = some x → x.1.1 + k + 1 = len ∧ w.cell? ⟨b, off + x.1.1, none⟩ = some (.int .i64 (x.1.2 : Int))) :
    SeqStopsK Fence.wide N Tryz.prog 134 #[.pointer (some ⟨Bs, 0, none⟩)] (fun x : Al n => #[Value.int .i64 (x.1.1 : Int), Value.int .i64 (x.1.2 : Int)]) (Keep2 Bs b) (fun ys => ys = zs) (fun _ => True) len w := fun l J Jx W hW _ _ hY h0 =>
  backward1_in N hN l Bs b off cap n len zs hz hlen J Jx hY W ((hW.cell (p := ⟨Bs, 0, none⟩) hBl).trans hBs) (fun k x hk => ⟨(hc k x hk).1, (hW.cell (p := ⟨b, off + x.1.1, none⟩) hbl).trans (hc k x hk).2⟩) h0

end Go.Proofs.YtimfjoinjfecjaaGreat

namespace Go.Proofs.YtimfjoinjfecjaaGreat
open Go.RowKit Go.Shelf
set_option linter.unusedVariables false

attribute [local go_sem] Oper.semAt_some

theorem back_none (x : Int) (w : World) : Calls Tryz.prog 92 #[.pointer none, .int .i64 x] w fun e w' => e = .returned (.slice none 0 0) ∧ Below w.heap.size w w' := by
  by_cases h : x < 0
  · go_enter Tryz.func92, Tryz.ntmps92
    go_wp2
    go_ret
    exact ⟨rfl, by go_grown⟩
  · have h' : 0 ≤ x := by omega
    go_enter Tryz.func92, Tryz.ntmps92
    go_wp2_with (go_at_call 32; with_reducible (refine (levels_none _).mono ?_); rintro e w1 ⟨rfl, rfl⟩)
    go_ret
    exact ⟨rfl, by go_grown⟩

theorem back_out {k : K} {w : World} {F : Nat → Fc} {ls ss : List Int} {p : V} (s : Raw k w F ls ss p) (x : Int) (h : x < 0 ∨ (ss.length : Int) ≤ x) :
    Calls Tryz.prog 92 #[.pointer (some ⟨k.OB, 0, none⟩), .int .i64 x] w fun e w' => e = .returned (.slice none 0 0) ∧ Below w.heap.size w w' := by
  have HS := hid (s.below (w' := w.alloc (.cells #[.pointer (some ⟨k.OB, 0, none⟩)] 51)) (by go_grown))
  clear s
  by_cases h0 : x < 0
  · clear h
    go_enter Tryz.func92, Tryz.ntmps92
    go_wp2
    go_ret
    exact ⟨rfl, by go_grown⟩
  · have h1 : (ss.length : Int) ≤ x := by omega
    clear h
    go_enter Tryz.func92, Tryz.ntmps92
    go_wp2_with (go_at_call 32; with_reducible (refine (levels_any HS.out).mono ?_); rintro e w1 ⟨rfl, rfl⟩)
    go_ret
    exact ⟨rfl, by go_grown⟩

/-- What is so in the loop: variables vs are none any more. -/
structure Cl (k : K) (w : World) (F : Nat → Fc) (ls ss : List Int) (p : V) (vs : List Nat) (W : World) : Prop where
  raw : Raw k W (clr F vs) ls ss p
  lo : Lo k w W
  tb : Boxed W w.heap.size 51 (.pointer (some ⟨k.OB, 0, none⟩))
  sz : w.heap.size + 3 ≤ W.heap.size

def vof {n : Nat} (x : Al n) : Nat := x.1.2 / 2

theorem clr_nil (F : Nat → Fc) : clr F [] = F := by funext v; simp [clr]

theorem one_new {w w' : World} (h : w'.heap.size = w.heap.size) (x : Value) (t : TypeId) : ∀ j u, [x][j]? = some u → (w.alloc (.cells #[x] t)).cell? ((⟨w'.heap.size, 0, none⟩ : Addr).add j) = some u := by rw [h]; exact cell_one_new w x t

section
variable {k : K} {w : World} {F : Nat → Fc} {ls ss : List Int} {p : V} {vs : List Nat} {W : World}

theorem Cl.keep {W' : World} (h : Cl k w F ls ss p vs W) (hm : ∀ j, Mine k p j → j < w.heap.size) {r : Option Nat} (g : W.grownBy W' r) (hr : ∀ j, r = some j → w.heap.size < j) : Cl k w F ls ss p vs W' := by
  refine ⟨h.raw.keep g (fun j hj c => ?_), h.lo.grown g (fun j hj hlt => ?_), h.tb.kept g (fun e => ?_), Nat.le_trans h.sz g.size⟩
  · have := hr j hj; have := hm j c; omega
  · have := hr j hj; omega
  · have := hr _ e.symm; omega

theorem cl_own {α : Type} (f : α → Nat) (B : Nat) (hB : w.heap.size < B) (hm : ∀ j, Mine k p j → j < w.heap.size) : OwnFrom B (fun (pre : List α) W => Cl k w F ls ss p (pre.map f) W) :=
  fun pre W W' row hs hg hr => hs.keep hm hg (fun j hj => by have := (hr j hj).1; omega)

theorem below_others {W w3 : World} (b : Below W.heap.size W w3) : KeepsOthers W w3 := KeepsOthers.of_grownBy (grown_below b) (fun j o e => by cases e)

/-- A variable is none any more: behind the three stores. -/
theorem cl_step {w3 : World} {v : Value} {m u b : Nat} {xs : List Value} (h : Cl k w F ls ss p vs W) (hv : Boxed W (w.heap.size + 1) 42 v) (hrow : W.ownsRow (w.heap.size + 3) 3 1 v m xs) (b3 : Below W.heap.size W w3) (hu : u < k.n) (hm : ∀ j, Mine k p j → j < w.heap.size) (hb : b < w.heap.size) (hbf : b ≠ k.FB) {w4 : World}
    (e4 : w4 = ((w3.setCell ⟨k.FB, u * 3, none⟩ (.int .i64 0)).setCell ⟨k.FB, u * 3 + 1, none⟩ (.int .i64 0)).setCell ⟨k.FB, u * 3 + 2, none⟩ (.int .i64 0)) :
    Boxed w4 (w.heap.size + 1) 42 v ∧ w4.ownsRow (w.heap.size + 3) 3 1 v m xs ∧ Cl k w F ls ss p (vs ++ [u]) w4 ∧ KeepsOthers W w4 ∧ Keep2 (w.heap.size + 1 + 1) b W w4 := by
  subst e4
  have hfb : k.FB < w.heap.size := hm _ (.inl rfl)
  have g1 := grown_below b3
  have g2 := grown3 w3 k.FB (u * 3) (u * 3 + 1) (u * 3 + 2) (.int .i64 0) (.int .i64 0) (.int .i64 0)
  have hsz := h.sz
  have h3 := h.keep hm g1 (fun j hj => by cases hj)
  have r4 := h3.raw.putf hu ⟨0, 0, 0⟩
  refine ⟨(hv.kept g1 (by simp)).kept g2 (fun e => by have := Option.some.inj e; omega), own_keep (own_keep hrow g1 (fun j hj => by cases hj)) g2 (fun j hj e => ?_), ⟨?_, ?_, ?_, ?_⟩, ?_, ?_, ?_⟩
  · cases hj; have := (own_lt hrow e).1; omega
  · rw [clr_snoc]; exact r4
  · exact h3.lo.grown g2 (fun j hj _ => by cases hj; exact .inl rfl)
  · exact h3.tb.kept g2 (fun e => by have := Option.some.inj e; omega)
  · exact Nat.le_trans h3.sz g2.size
  · exact (((below_others b3).trans (KeepsOthers.setCell _ _ _)).trans (KeepsOthers.setCell _ _ _)).trans (KeepsOthers.setCell _ _ _)
  · rw [g2.block _ (by have := b3.size; omega) (fun e => by have := Option.some.inj e; omega), b3.block _ (by omega)]
  · rw [g2.block _ (by have := b3.size; omega) (fun e => hbf (Option.some.inj e)), b3.block _ (by omega)]

/-- It is told: behind the append and its store. -/
theorem cl_more {w4 w5 : World} {v v' : Value} {m b : Nat} {xs ys : List Value} {c : Array Value} (h : Cl k w F ls ss p vs w4) (hv : Boxed w4 (w.heap.size + 1) 42 v) (hrow : w4.ownsRow (w.heap.size + 3) 3 1 v m xs) (hown : w5.ownsRow (w.heap.size + 3) 3 1 v' (m + 1) ys) (g : (w4.alloc (.cells c 3)).grownBy w5 v.ownBlock) (hm : ∀ j, Mine k p j → j < w.heap.size) (hb : b < w.heap.size) :
    Boxed w5 (w.heap.size + 1) 42 v ∧ Boxed (w5.setCell ⟨w.heap.size + 1, 0, none⟩ v') (w.heap.size + 1) 42 v' ∧ (w5.setCell ⟨w.heap.size + 1, 0, none⟩ v').ownsRow (w.heap.size + 3) 3 1 v' (m + 1) ys ∧ Cl k w F ls ss p vs (w5.setCell ⟨w.heap.size + 1, 0, none⟩ v') ∧ KeepsOthers w4 (w5.setCell ⟨w.heap.size + 1, 0, none⟩ v') ∧ Keep2 (w.heap.size + 1 + 1) b w4 (w5.setCell ⟨w.heap.size + 1, 0, none⟩ v') := by
  have far : ∀ j, v.ownBlock = some j → w.heap.size + 3 ≤ j := fun j e => (own_lt hrow e).1
  have g1 := grown_two (grown_new w4 (.cells c 3) v.ownBlock) g
  have g2 := grown_set w5 ⟨w.heap.size + 1, 0, none⟩ v'
  have hsz := h.sz
  have b5 : Boxed w5 (w.heap.size + 1) 42 v := hv.kept g1 (fun e => by have := far _ e.symm; omega)
  have h5 := h.keep hm g1 (fun j hj => by have := far j hj; omega)
  refine ⟨b5, b5.set v', own_keep hown g2 (fun j hj e => ?_), h5.keep hm g2 (fun j hj => by cases hj; show w.heap.size < w.heap.size + 1; omega), ?_, ?_, ?_⟩
  · cases hj; have := (own_lt hown e).1; simp at this
  · refine (KeepsOthers.of_grownBy g1 fun j o ej hj => ?_).trans (KeepsOthers.setCell _ _ _)
    rcases hrow.2 with ⟨rfl, _⟩ | ⟨q, cap, cur, rfl, _, hgb, _⟩
    · simp [Value.ownBlock] at ej
    · obtain rfl : q = j := by simpa [Value.ownBlock] using ej
      rw [hgb] at hj; cases hj; rfl
  · rw [g2.block _ (by have := g1.size; omega) (fun e => by have := Option.some.inj e; simp at this), g1.block _ (by omega) (fun e => by have := far _ e.symm; omega)]
  · rw [g2.block _ (by have := g1.size; omega) (fun e => by have := Option.some.inj e; simp at this; omega), g1.block _ (by omega) (fun e => by have := far _ e.symm; omega)]
end

/-- What is so behind Back. -/
def BkEnd (k : K) (w : World) (F : Nat → Fc) (ls ss : List Int) (p : V) (i c : Nat) (vs : List Nat) (v : Value) (w' : World) : Prop :=
  w'.ownsRow w.heap.size 3 1 v vs.length (vs.map (fun u : Nat => Value.int .i64 (u : Int))) ∧ Lo k w w' ∧ ∃ p', Raw k w' (clr F vs) (ls.take c) (ss.take i) p' ∧ p'.l.ownBlock = p.l.ownBlock ∧ p'.s.ownBlock = p.s.ownBlock ∧ ∀ g i, Room p'.l g i → Room p.l g i

theorem grown_refl (w : World) (r : Option Nat) : w.grownBy w r := ⟨rfl, rfl, rfl, Nat.le_refl _, fun _ _ _ => rfl⟩

theorem own_low {w : World} {B B' : Nat} {e : TypeId} {size n : Nat} {v : Value} {xs : List Value} (h : w.ownsRow B e size v n xs) (hB : B' ≤ B) : w.ownsRow B' e size v n xs := by
  obtain ⟨h0, h1⟩ := h
  refine ⟨h0, ?_⟩
  rcases h1 with h1 | ⟨g, cap, cur, e1, hb, rest⟩
  · exact .inl h1
  · exact .inr ⟨g, cap, cur, e1, Nat.le_trans hB hb, rest⟩

theorem bk_end0 {k : K} {w W : World} {F : Nat → Fc} {ls ss : List Int} {p : V} {i c m cap b sb cs D : Nat} {v : Value} {zs : List (Al k.n)} (h : Cl k w F ls ss p (zs.map vof) W) (hp : p.l = .slice (some ⟨b, 0, none⟩) m cap) (es : p.s = .slice (some ⟨sb, 0, none⟩) ss.length cs) (hi : i ≤ ss.length) (hc : c ≤ m) (hv : Boxed W (w.heap.size + 1) 42 v)
    (hrow : W.ownsRow (w.heap.size + 3) 3 1 v zs.length (zs.map (fun x => Value.int .i64 ((vof x : Nat) : Int)))) (hm : ∀ j, Mine k p j → j < w.heap.size) (hD : w.heap.size + 3 ≤ D) (hK : W.heap[D]? = some (.deferred (some []))) :
    (W.setCell ⟨k.OB, 2, none⟩ (.slice (some ⟨sb, 0, none⟩) i cs)).drew.cell? ⟨w.heap.size, 0, none⟩ = some (.pointer (some ⟨k.OB, 0, none⟩)) ∧
    (W.setCell ⟨k.OB, 2, none⟩ (.slice (some ⟨sb, 0, none⟩) i cs)).drew.cell? ⟨k.OB, 1, none⟩ = some (.slice (some ⟨b, 0, none⟩) m cap) ∧
    (W.setCell ⟨k.OB, 2, none⟩ (.slice (some ⟨sb, 0, none⟩) i cs)).drew.frozen? ⟨k.OB, 1, none⟩ = false ∧
    (((W.setCell ⟨k.OB, 2, none⟩ (.slice (some ⟨sb, 0, none⟩) i cs)).drew.setCell ⟨k.OB, 1, none⟩ (.slice (some ⟨b, 0, none⟩) c c)).drew).cell? ⟨w.heap.size + 1, 0, none⟩ = some v ∧
    (((W.setCell ⟨k.OB, 2, none⟩ (.slice (some ⟨sb, 0, none⟩) i cs)).drew.setCell ⟨k.OB, 1, none⟩ (.slice (some ⟨b, 0, none⟩) c c)).drew).heap[D]? = some (.deferred (some [])) ∧
    BkEnd k w F ls ss p i c (zs.map vof) v ((((W.setCell ⟨k.OB, 2, none⟩ (.slice (some ⟨sb, 0, none⟩) i cs)).drew.setCell ⟨k.OB, 1, none⟩ (.slice (some ⟨b, 0, none⟩) c c)).drew).putObj D (.deferred none)) := by
  have hob : k.OB < w.heap.size := hm _ (.inr (.inl rfl))
  have hlen : m = ls.length := by
    obtain ⟨_, _, e, _⟩ := h.raw.rl.shape
    rw [hp] at e; cases e; rfl
  subst hlen
  have own1 : OwnL W (k.OB + 1) (.slice (some ⟨sb, 0, none⟩) i cs) (ss.take i) := by
    have q := h.raw.rs
    rw [es] at q
    exact q.cut hi
  obtain ⟨_, r1, _⟩ := h.raw.puts (grown_refl W _) own1 (fun j hj => .inl (by rw [es]; exact hj))
  have g1 := grown_set W ⟨k.OB, 2, none⟩ (.slice (some ⟨sb, 0, none⟩) i cs)
  have r2 := r1.drew
  have gd := grown_below (below_drew (W.setCell ⟨k.OB, 2, none⟩ (.slice (some ⟨sb, 0, none⟩) i cs)))
  have hsz := h.sz
  have tb1 := (h.tb.kept g1 (fun e => by have := Option.some.inj e; simp at this; omega)).kept gd (by simp)
  have lo1 := (h.lo.grown g1 (fun j hj _ => by cases hj; exact .inr rfl)).grown gd (fun j hj => by cases hj)
  have row1 := own_keep (own_keep hrow g1 (fun j hj e => by cases hj; have := (own_lt hrow e).1; simp at this; omega)) gd (fun j hj => by cases hj)
  have hv1 := (hv.kept g1 (fun e => by have := Option.some.inj e; simp at this; omega)).kept gd (by simp)
  have k1 : (W.setCell ⟨k.OB, 2, none⟩ (.slice (some ⟨sb, 0, none⟩) i cs)).drew.heap[D]? = some (.deferred (some [])) := by
    rw [gd.block D (by have := blk_lt hK; have := g1.size; omega) (by simp), g1.block D (blk_lt hK) (fun e => by have := Option.some.inj e; simp at this; omega)]; exact hK
  have c1 := r2.c1
  have f1 := r2.cf 1
  rw [hp] at c1
  revert r2 tb1 lo1 row1 hv1 k1 c1 f1
  generalize (W.setCell ⟨k.OB, 2, none⟩ (.slice (some ⟨sb, 0, none⟩) i cs)).drew = W1
  intro r2 tb1 lo1 row1 hv1 k1 c1 f1
  have own2 : LRow W1 (k.OB + 1) (.slice (some ⟨b, 0, none⟩) c c) (ls.take c) := by
    have q := r2.rl
    simp only [hp] at q
    exact q.full hc
  obtain ⟨_, r3, _⟩ := r2.putl (grown_refl W1 _) own2 (fun j hj => .inl (by show p.l.ownBlock = _; rw [hp]; exact hj)) (fun g i T ht hr => ⟨rfl, ht, fun hr' => by obtain ⟨n', c', e', h1', h2'⟩ := hr'; cases e'; omega⟩)
  have g3 := grown_set W1 ⟨k.OB, 1, none⟩ (.slice (some ⟨b, 0, none⟩) c c)
  have r4 := r3.drew
  have gd3 := grown_below (below_drew (W1.setCell ⟨k.OB, 1, none⟩ (.slice (some ⟨b, 0, none⟩) c c)))
  have lo2 := (lo1.grown g3 (fun j hj _ => by cases hj; exact .inr rfl)).grown gd3 (fun j hj => by cases hj)
  have row2 := own_keep (own_keep row1 g3 (fun j hj e => by cases hj; have := (own_lt row1 e).1; simp at this; omega)) gd3 (fun j hj => by cases hj)
  have hv2 := (hv1.kept g3 (fun e => by have := Option.some.inj e; simp at this; omega)).kept gd3 (by simp)
  have k2 : (W1.setCell ⟨k.OB, 1, none⟩ (.slice (some ⟨b, 0, none⟩) c c)).drew.heap[D]? = some (.deferred (some [])) := by
    rw [gd3.block D (by have := blk_lt k1; have := g3.size; omega) (by simp), g3.block D (blk_lt k1) (fun e => by have := Option.some.inj e; simp at this; omega)]; exact k1
  refine ⟨tb1.cell, c1, f1, hv2.cell, k2, ?_⟩
  revert r4 lo2 row2 k2
  generalize (W1.setCell ⟨k.OB, 1, none⟩ (.slice (some ⟨b, 0, none⟩) c c)).drew = W2
  intro r4 lo2 row2 k2
  have gp := grownBy_putObj' W2 D (.deferred none)
  refine ⟨?_, lo2.grown gp (fun j hj hlt => by cases hj; omega), _, r4.keep gp (fun j hj c => ?_), by rw [hp]; rfl, by rw [es]; rfl, fun g i hr => by obtain ⟨n', c', e', h1', h2'⟩ := hr; cases e'; omega⟩
  · have := own_low (ownsRow_putObj row2 (.deferred none) k2 rfl) (Nat.le_add_right _ 3)
    simpa [Function.comp_def] using this
  · cases hj
    have : D < w.heap.size := by
      refine hm D ?_
      rcases c with e | e | e | e
      · exact .inl e
      · exact .inr (.inl e)
      · exact .inr (.inr (.inl (by rw [hp]; exact e)))
      · exact .inr (.inr (.inr (by rw [es]; exact e)))
    omega

theorem bk_end {k : K} {w W : World} {F : Nat → Fc} {ls ss : List Int} {p : V} {i c m cap b sb cs D : Nat} {v : Value} {zs : List (Al k.n)} (h : Cl k w F ls ss p (zs.map vof) W) (hp : p.l = .slice (some ⟨b, 0, none⟩) m cap) (es : p.s = .slice (some ⟨sb, 0, none⟩) ss.length cs) (hi : i ≤ ss.length) (hc : c ≤ m) (hv : Boxed W (w.heap.size + 1) 42 v)
    (hrow : W.ownsRow (w.heap.size + 3) 3 1 v zs.length (zs.map (fun x => Value.int .i64 ((vof x : Nat) : Int)))) (hm : ∀ j, Mine k p j → j < w.heap.size) (hD : w.heap.size + 3 ≤ D) (hK : W.heap[D]? = some (.deferred (some []))) :
    (W.setCell ⟨k.OB, 2, none⟩ (.slice (some ⟨sb, 0, none⟩) i cs)).drew.cell? ⟨w.heap.size, 0, none⟩ = some (.pointer (some ⟨k.OB, 0, none⟩)) ∧
    (W.setCell ⟨k.OB, 2, none⟩ (.slice (some ⟨sb, 0, none⟩) i cs)).drew.cell? ⟨k.OB, 1, none⟩ = some (.slice (some ⟨b, 0, none⟩) m cap) ∧
    (W.setCell ⟨k.OB, 2, none⟩ (.slice (some ⟨sb, 0, none⟩) i cs)).drew.frozen? ⟨k.OB, 1, none⟩ = false ∧
    ((W.setCell ⟨k.OB, 2, none⟩ (.slice (some ⟨sb, 0, none⟩) i cs)).setCell ⟨k.OB, 1, none⟩ (.slice (some ⟨b, 0, none⟩) c c)).drew.drew.cell? ⟨w.heap.size + 1, 0, none⟩ = some v ∧
    ((W.setCell ⟨k.OB, 2, none⟩ (.slice (some ⟨sb, 0, none⟩) i cs)).setCell ⟨k.OB, 1, none⟩ (.slice (some ⟨b, 0, none⟩) c c)).cell? ⟨w.heap.size + 1, 0, none⟩ = some v ∧
    ((W.setCell ⟨k.OB, 2, none⟩ (.slice (some ⟨sb, 0, none⟩) i cs)).setCell ⟨k.OB, 1, none⟩ (.slice (some ⟨b, 0, none⟩) c c)).drew.drew.heap[D]? = some (.deferred (some [])) ∧
    BkEnd k w F ls ss p i c (zs.map vof) v (((W.setCell ⟨k.OB, 2, none⟩ (.slice (some ⟨sb, 0, none⟩) i cs)).setCell ⟨k.OB, 1, none⟩ (.slice (some ⟨b, 0, none⟩) c c)).drew.drew.putObj D (.deferred none)) := by
  obtain ⟨h1, h2, h3, h4, h5, h6⟩ := bk_end0 h hp es hi hc hv hrow hm hD hK
  exact ⟨h1, h2, h3, h4, h4, h5, h6⟩

set_option maxRecDepth 100000 in
set_option maxHeartbeats 4000000 in
theorem back_in {k : K} {w : World} {F : Nat → Fc} {ls ss : List Int} {p : V} (s : Raw k w F ls ss p) (i c len b cap : Nat) (hi : i < ss.length) (hss : ss.length ≤ 1048576) (hc : ss[i]? = some (c : Int)) (hp : p.l = .slice (some ⟨b, 0, none⟩) (c + len) cap) (hcap : c + len ≤ cap) (hcm : cap ≤ maxLen) (hl0 : 0 < len) (hcl : c + len ≤ 1048576)
    (zs : List (Al k.n)) (hz : zs.length = len) (hcz : ∀ q (x : Al k.n), zs[q]? = some x → x.1.1 + q + 1 = len ∧ w.cell? ⟨b, c + x.1.1, none⟩ = some (.int .i64 (x.1.2 : Int))) :
    CallsIn Fence.wide 5 Tryz.prog 92 #[.pointer (some ⟨k.OB, 0, none⟩), .int .i64 i] w fun e w' => ∃ v, e = .returned v ∧ BkEnd k w F ls ss p i c (zs.map vof) v w' := by
  have hm : ∀ j, Mine k p j → j < w.heap.size := fun j h => (s.mine_lt h).2
  have hb : b < w.heap.size := hm b (.inr (.inr (.inl (by rw [hp]; rfl))))
  have hbf : b ≠ k.FB := by
    have := (s.rl.lt (j := b) (by rw [hp]; rfl)).1
    have := s.lt
    omega
  have hkn := s.hn
  obtain ⟨i0, hi0, hz0, hz1, hz2⟩ := info_parts Tryz.info3
  have HS := hid (s.below (w' := w.alloc (.cells #[.pointer (some ⟨k.OB, 0, none⟩)] 51)) (by go_grown))
  have c1 := (s.below (w' := w.alloc (.cells #[.pointer (some ⟨k.OB, 0, none⟩)] 51)) (by go_grown)).c1
  have c2 := (s.below (w' := w.alloc (.cells #[.pointer (some ⟨k.OB, 0, none⟩)] 51)) (by go_grown)).c2
  obtain ⟨sb, cs', es, _⟩ := (LRow.of_own s.rs).filled (by omega)
  rw [es] at c2
  have cs : (w.alloc (.cells #[.pointer (some ⟨k.OB, 0, none⟩)] 51)).cell? ⟨sb, i, none⟩ = some (.int .i64 c) := by
    have q := LRow.of_own HS.out.rs
    rw [es] at q
    exact q.at hc
  have c1b := (s.below (w' := (w.alloc (.cells #[.pointer (some ⟨k.OB, 0, none⟩)] 51)).alloc (.cells #[.slice none 0 0] 42)) (by go_grown)).c1
  rw [hp] at c1b
  have di : decide ((i : Int) < 0) = false := by simp
  have dj : decide (ss.length ≤ i) = false := by simp; omega
  have ci : (c : Int) ≤ ((c + len : Nat) : Int) := by omega
  unfold maxLen at hcm
  rw [hp] at c1
  have hi' : (i : Int) < ss.length := by omega
  refine callsIn_of_wp_marks Tryz.func92 rfl trivial ?_ rfl
  simp only [Tryz.ntmps92, List.size_toArray, List.length_cons, List.length_nil, Nat.reduceAdd, Nat.reduceSub, Array.replicate_succ, Array.replicate_zero, List.push_toArray, List.append_toArray, List.nil_append, List.cons_append]
  gi_wp2_with (first
    | (refine ⟨trivial, ?_⟩; gi_at_call 32; refine (callsIn_wide.2 (levels_any HS.out)).mono ?_; rintro e w' ⟨rfl, rfl⟩)
    | (refine ⟨trivial, ?_⟩; gi_at_call 102; refine (backward_in 4 _ _ _ _).mono ?_; rintro e w' ⟨rfl, rfl⟩))
  have hW0 : Below w.heap.size w (((w.alloc (.cells #[.pointer (some ⟨k.OB, 0, none⟩)] 51)).alloc (.cells #[.slice none 0 0] 42)).alloc (.cells #[.slice (some ⟨b, c, none⟩) len (cap - c)] 42)) := by go_grown
  have bT := ((Boxed.new w 51 (.pointer (some ⟨k.OB, 0, none⟩))).alloc (.cells #[.slice none 0 0] 42)).alloc (.cells #[.slice (some ⟨b, c, none⟩) len (cap - c)] 42)
  have bG := (Boxed.new (w.alloc (.cells #[.pointer (some ⟨k.OB, 0, none⟩)] 51)) 42 (.slice none 0 0)).alloc (.cells #[.slice (some ⟨b, c, none⟩) len (cap - c)] 42)
  have bS := Boxed.new ((w.alloc (.cells #[.pointer (some ⟨k.OB, 0, none⟩)] 51)).alloc (.cells #[.slice none 0 0] 42)) 42 (.slice (some ⟨b, c, none⟩) len (cap - c))
  simp only [World.size_alloc] at bG bS
  have cl0 : Cl k w F ls ss p ([].map (vof (n := k.n))) (((w.alloc (.cells #[.pointer (some ⟨k.OB, 0, none⟩)] 51)).alloc (.cells #[.slice none 0 0] 42)).alloc (.cells #[.slice (some ⟨b, c, none⟩) len (cap - c)] 42)) :=
    ⟨by rw [List.map_nil, clr_nil]; exact s.below hW0, Lo.below hW0, bT, by simp⟩
  refine wpIn_rangeFunc_ownG rfl (by decide) (gf := 134) (lb := #[.pointer (some ⟨w.heap.size + 1 + 1, 0, none⟩)]) rfl trivial (enters_of Tryz.func134 (by kernel_rfl) rfl)
    (backward_stops 4 (by decide) (w.heap.size + 1 + 1) b c (cap - c) k.n len zs hz (by omega) _ (by simp) (by simp; omega) bS.cell (fun q x hq => ⟨(hcz q x hq).1, (hW0.cell (p := ⟨b, c + x.1.1, none⟩) hb).trans (hcz q x hq).2⟩)) keep2_t (keep2_b (by simp) (by simp; omega)) (Below.refl _ _) (fun _ => rfl)
    (fun pre W => (∃ v, Boxed W (w.heap.size + 1) 42 v ∧ W.ownsRow (w.heap.size + 3) 3 1 v pre.length (pre.map (fun x => Value.int .i64 ((vof x : Nat) : Int))) ∧ True) ∧ Cl k w F ls ss p (pre.map vof) W)
    (fun _ _ _ => False)
    (OwnFrom.and (Own.from (holdsRow_own (w.heap.size + 3) (w.heap.size + 1) 42 3 1 (fun pre : List (Al k.n) => pre.length) (fun pre : List (Al k.n) => pre.map (fun x => Value.int .i64 ((vof x : Nat) : Int))) (fun _ _ => True)) _) (cl_own vof _ (by simp; omega) hm))
    (fun _ _ _ _ _ hs _ _ => hs)
    ⟨⟨_, bG, World.ownsRow_nil _ _ _ _, trivial⟩, cl0⟩
    (fun x => { tmps := #[.pointer (some ⟨k.OB, 0, none⟩), .int .i64 i, .pointer (some ⟨w.heap.size, 0, none⟩), undef, .slice none 0 0, .int .i64 c, .pointer (some ⟨w.heap.size + 1, 0, none⟩), undef, .int .i64 x.1.2, undef, .int .i64 i, .bool false, .bool false, .int .i64 i, .pointer (some ⟨k.OB, 0, none⟩), .int .i64 ss.length, .bool false, .bool false, .pointer (some ⟨k.OB, 0, none⟩), .pointer (some ⟨k.OB, 0, none⟩), .pointer (some ⟨k.OB, 2, none⟩), .slice (some ⟨sb, 0, none⟩) ss.length cs', .int .i64 i, .pointer (some ⟨sb, i, none⟩), .int .i64 c, .pointer (some ⟨k.OB, 0, none⟩), .pointer (some ⟨k.OB, 0, none⟩), .pointer (some ⟨k.OB, 1, none⟩), .slice (some ⟨b, 0, none⟩) (c + len) cap, .int .i64 c, .slice (some ⟨b, c, none⟩) len (cap - c), .func (.func 134) #[] #[.pointer (some ⟨w.heap.size + 1 + 1, 0, none⟩)], .int .i64 x.1.1, .int .i64 x.1.2, undef, undef, undef, undef, undef, undef, undef, undef, undef, undef, undef, undef, undef, undef, undef, undef, undef, undef, undef, undef, undef, undef, undef, undef, undef, undef, undef, undef, undef, undef, undef, undef, undef], defers := [] }) ?assign ?body ?done ?stop
  case assign =>
    intro l x W K hK
    gi_wp2
    exact hK
  case body =>
    rintro l pre ⟨⟨xi, xl⟩, hxn⟩ W ⟨⟨v, hv, hrow, _⟩, hcl1⟩ hlt
    simp only at hxn
    have HV : Hid (vof (⟨(xi, xl), hxn⟩ : Al k.n) = xl / 2) := hid rfl
    obtain ⟨u, hu⟩ : ∃ u, xl / 2 = u := ⟨_, rfl⟩
    have hun : u < k.n := by omega
    have hun' : (u : Int) < k.n := by omega
    have hxl : (xl : Int) ≤ 9223372036854775807 := by omega
    have HU := hid hu
    have HCL := hid hcl1
    have hsz := hcl1.sz
    clear hu hcl1
    gi_wp2_with (first
      | (refine ⟨trivial, ?_⟩; gi_at_call 24; refine (CallsIn.inRound l (callsIn_wide.2 (var_nat xl u HU.out hxl _))).mono ?_; rintro e w3 ⟨rfl, b3⟩; have h3 := hid (HCL.out.keep hm (grown_below b3) (fun j hj => by cases hj)); have t3 := h3.out.tb.cell; have o3 := h3.out.raw.c0; have f1 := (h3.out.raw.fa hun).1; have f2 := (h3.out.raw.fa hun).2.1; have f3 := (h3.out.raw.fa hun).2.2; have f4 := h3.out.raw.ff (u * 3); have f5 := h3.out.raw.ff (u * 3 + 1); have f6 := h3.out.raw.ff (u * 3 + 2); have st := cl_step HCL.out hv hrow b3 hun hm hb hbf rfl; obtain ⟨hv4, hrow4, hcl4, hko4, hk4⟩ := st; have hc4 := hv4.cell)
      | (gi_at_builtin; refine wpListIn_append_own _ rfl _ _ 42 rfl (w.heap.size + 3) 3 i0 (.int .i64 0) 1 8 Tryz.underlying42 hi0 hz0 hz1 hz2 rfl (by decide) _ _ _ rfl (hrow4.alloc _) ⟨w3.heap.size, 0, none⟩ 1 1 [.int .i64 u] rfl rfl (one_new (by simp [World.setCell]) _ _) (by simp [Value.oneCell']) (by unfold maxLen; omega) (by omega) (by have := b3.size; simp [World.setCell]; omega) ?_; intro v' w5 hown' hgrow _; obtain ⟨g', cap', rfl⟩ := ownsRow_succ hown'; have q5 := cl_more hcl4 hv4 hrow4 hown' hgrow hm hb; obtain ⟨hv5, hv6, hr6, hcl6, hko6, hk6⟩ := q5; have hc5 := hv5.cell; have hf5 := hv5.frozen))
    have e1 : (pre ++ [(⟨(xi, xl), hxn⟩ : Al k.n)]).map vof = pre.map vof ++ [u] := by simp [vof, HU.out]
    refine ⟨(hko4.trans hko6).from _, keep2_t hk4 hk6, ⟨⟨_, hv6, ?_, trivial⟩, ?_⟩⟩
    · have e2 : (pre ++ [(⟨(xi, xl), hxn⟩ : Al k.n)]).map (fun x => Value.int .i64 ((vof x : Nat) : Int)) = pre.map (fun x => Value.int .i64 ((vof x : Nat) : Int)) ++ [.int .i64 u] := by rw [List.map_append, List.map_singleton, HV.out, HU.out]
      rw [e2, List.length_append]; exact hr6
    · rw [e1]; exact hcl6
  case done =>
    rintro D ys W hD rfl ⟨⟨v, hv, hrow, _⟩, hcl1⟩ hK
    have hD' : w.heap.size + 3 ≤ D := by simp at hD; omega
    have BE := hid (bk_end (i := i) (c := c) hcl1 hp es (by omega) (by omega) hv hrow hm hD' hK)
    have t1 := hcl1.tb.cell
    have d1 := hcl1.raw.c1
    have d2 := hcl1.raw.c2
    rw [hp] at d1
    rw [es] at d2
    have df1 := hcl1.raw.cf 1
    have df2 := hcl1.raw.cf 2
    obtain ⟨t2, d3, df3, t3, t4, hK3, _⟩ := BE.out
    have hic : (i : Int) ≤ cs' := by omega
    clear hcl1 hrow hcz hv HS cl0 bT bG bS hW0
    gi_wp2
    gi_region
    gi_wp2
    gi_region
    gi_wp2
    refine ⟨by simp, .inl ⟨_, _, rfl, run_takeDeferred hK3, ?_⟩⟩
    exact ⟨_, results_tmp rfl _ _ _, v, rfl, BE.out.2.2.2.2.2.2⟩
  case stop =>
    rintro D c pre W _ _ h _
    exact h.elim

end Go.Proofs.YtimfjoinjfecjaaGreat

namespace Go.Proofs.YtimfjoinjfecjaaGreat
open Go.RowKit
set_option linter.unusedVariables false

theorem lift_al (n : Nat) (ys : List (Nat × Nat)) (h : ∀ y ∈ ys, y.2 / 2 < n) : ∃ zs : List (Al n), zs.map Subtype.val = ys := by
  induction ys with
  | nil => exact ⟨[], rfl⟩
  | cons y ys ih =>
    obtain ⟨zs, e⟩ := ih (fun z hz => h z (by simp [hz]))
    exact ⟨⟨y, h y (by simp)⟩ :: zs, by simp [e]⟩

/-- The literals of a list, the last one first, each with its place. -/
theorem back_list (n : Nat) (D : List E) (h : ∀ e ∈ D, vr e < n) : ∃ zs : List (Al n), zs.length = D.length ∧ zs.map vof = D.reverse.map vr ∧ ∀ (q : Nat) (x : Al n), zs[q]? = some x → x.1.1 + q + 1 = D.length ∧ ∃ e, D[x.1.1]? = some e ∧ e.l = x.1.2 := by
  obtain ⟨zs, hz⟩ := lift_al n (D.reverse.zipIdx.map (fun y => (D.length - 1 - y.2, y.1.l))) (by
    intro y hy
    obtain ⟨⟨e, q⟩, hq, rfl⟩ := List.mem_map.1 hy
    have := List.mem_zipIdx hq
    simp at this
    have he : e ∈ D := by rw [this.2]; exact List.getElem_mem _
    exact h e he)
  have hl : zs.length = D.length := by
    have := congrArg List.length hz
    simpa using this
  refine ⟨zs, hl, ?_, ?_⟩
  · have e1 : zs.map vof = (zs.map Subtype.val).map (fun y => y.2 / 2) := by simp [vof, Function.comp_def]
    rw [e1, hz]
    apply List.ext_getElem
    · simp
    · intro i h1 h2
      simp [vr]
  · intro q x hx
    have hq := (List.getElem?_eq_some_iff.1 hx).1
    have hq' : q < D.length := by omega
    have e1 : (zs.map Subtype.val)[q]? = some x.1 := by simp [hx]
    rw [hz, List.getElem?_map, List.getElem?_zipIdx, List.getElem?_reverse hq', List.getElem?_eq_getElem (by omega)] at e1
    simp only [Option.map_some, Option.some.injEq] at e1
    rw [← e1]
    refine ⟨by simp; omega, ⟨D[D.length - 1 - q], ?_, rfl⟩⟩
    simp only [Nat.zero_add]
    exact List.getElem?_eq_getElem (by omega)

section
variable {k : K} {w : World} {L : List E} {lev : Nat} {p : V}

/-- What is so behind Back. -/
structure BtEnd (k : K) (w : World) (L : List E) (lev : Nat) (p : V) (x : Int) (v : Value) (p' : V) (w' : World) : Prop where
  row : OwnL w' w.heap.size v (backG L lev x)
  trl : Trl k w' (backL L lev x) (backV lev x) p'
  lo : Lo k w w'
  fr : Fr k p p' w w'
  same : p'.l.ownBlock = p.l.ownBlock

theorem back_any (t : Trl k w L lev p) (x : Int) : Calls Tryz.prog 92 #[.pointer (some ⟨k.OB, 0, none⟩), .int .i64 x] w fun e w' => ∃ v p', e = .returned v ∧ BtEnd k w L lev p x v p' w' := by
  obtain ⟨F, S, s, g, rfl⟩ := id t
  cases hok : backOk S.length x
  · obtain ⟨h1, h2, h3⟩ := back_no (L := L) hok
    have hx : x < 0 ∨ ((castS S).length : Int) ≤ x := by
      simp [backOk] at hok
      simp [castS]
      omega
    refine (back_out s x hx).mono fun e w' h => ?_
    refine ⟨_, p, h.1, ?_, ?_, Lo.below h.2, Fr.below h.2, rfl⟩
    · rw [h3]; exact World.ownsRow_nil _ _ _ _
    · rw [h1, h2]; exact t.below h.2
  · obtain ⟨i, rfl, hi⟩ := backOk_yes hok
    obtain ⟨c, hc⟩ : ∃ c, S[i]? = some c := ⟨_, List.getElem?_eq_getElem hi⟩
    obtain ⟨h1, h2, h3⟩ := g.back_yes hc
    obtain ⟨h4, ⟨e0, h5, _⟩, _⟩ := g.cut i c hc
    have hcl := (List.getElem?_eq_some_iff.1 h5).1
    have hln := g.len
    have hn := s.hn
    have hlL := litsF_len L
    have hsl : (castS S).length = S.length := by simp [castS]
    obtain ⟨b, cap, hp, hcap, hcm⟩ := s.rl.filled (by omega)
    obtain ⟨zs, hz1, hz2, hz3⟩ := back_list k.n (L.drop c) (fun e he => g.lt e (List.mem_of_mem_drop he))
    rw [List.length_drop] at hz1
    have hpl : c + (L.length - c) = (litsF L).length := by omega
    have hll := g.ll
    have key := back_in s i c (L.length - c) b cap (by rw [hsl]; exact hi) (by rw [hsl]; omega) (by simp [castS, hc]) (by rw [hpl]; exact hp) (by rw [hpl]; exact hcap) hcm (by omega) (by omega) zs hz1 (by
      intro q x hx
      obtain ⟨q1, e, q2, q3⟩ := hz3 q x hx
      rw [List.length_drop] at q1
      refine ⟨q1, ?_⟩
      have hr := s.rl
      rw [hp] at hr
      refine hr.at ?_
      rw [List.getElem?_drop] at q2
      simp [litsF, q2, q3])
    refine (callsIn_wide.1 key).mono fun e w' h => ?_
    obtain ⟨v, rfl, r1, r2, p', r3, r4, r5, r6⟩ := h
    refine ⟨v, p', rfl, ?_, ?_, r2, r2.fr r4 r5 r6, r4⟩
    · rw [h3]
      rw [hz2] at r1
      unfold OwnL
      simpa [Function.comp_def] using r1
    · rw [h1, h2]
      refine ⟨_, S.take i, ?_, g.back hc, ?_⟩
      · rw [hz2] at r3
        have e1 : (litsF L).take c = litsF (L.take c) := by simp [litsF, List.map_take]
        have e2 : (castS S).take i = castS (S.take i) := by simp [castS, List.map_take]
        rw [e1, e2] at r3
        exact r3
      · simp; omega

theorem back_is (t : Trl k w L lev p) (x : Int) : Calls Tryz.prog 92 #[.pointer (some ⟨k.OB, 0, none⟩), .int .i64 x] w fun e w' => ∃ ao n c p', e = .returned (.slice ao n c) ∧ Hid (BtEnd k w L lev p x (.slice ao n c) p' w') ∧ Hid (n = (backG L lev x).length) := by
  refine (back_any t x).mono fun e w' h => ?_
  obtain ⟨v, p', rfl, h⟩ := h
  obtain ⟨ao, c, rfl, _⟩ := (LRow.of_own h.row).shape
  exact ⟨ao, _, c, p', rfl, h, rfl⟩
end

end Go.Proofs.YtimfjoinjfecjaaGreat
