/-
  The document's terms: made.
-/
import Derived.Test.YtefielnmlekhaaaDoorRef
import Derived.Test.YtefielnmlekhaaaDoorNum
namespace Go.Proofs.YtefielnmlekhaaaDoor
open Go.RowKit Go.Maps
set_option linter.unusedVariables false
set_option maxRecDepth 100000

theorem eql32 (x y : Nd) (w : World) : (binOp BinOp.eql 63 (.agg #[.int .i64 x.op, .int .i64 x.wd, .int .i64 x.a, .int .i64 x.b, .int .i64 x.c, .int .u64 x.v]) (.agg #[.int .i64 y.op, .int .i64 y.wd, .int .i64 y.a, .int .i64 y.b, .int .i64 y.c, .int .u64 y.v])).run Tryd.prog w = .ok (.bool (eqN x y)) w := by
  simp only [eqN]
  by_cases h0 : x.op = y.op
  · by_cases h1 : x.wd = y.wd
    · by_cases h2 : x.a = y.a
      · by_cases h3 : x.b = y.b
        · by_cases h4 : x.c = y.c
          · by_cases h5 : x.v = y.v <;> simp [go_sem, h0, h1, h2, h3, h4, h5]
          · simp [go_sem, h0, h1, h2, h3, h4]
        · simp [go_sem, h0, h1, h2, h3]
      · simp [go_sem, h0, h1, h2]
    · simp [go_sem, h0, h1]
  · simp [go_sem, h0]

theorem two_of {w : World} {b : Nat} {x y : Value} {T : TypeId} (h : w.heap[b]? = some (.cells #[x, y] T (0, 0))) : w.cell? ⟨b, 0, none⟩ = some x ∧ w.cell? ⟨b, 1, none⟩ = some y := by
  constructor <;> rw [cell_of h] <;> rfl

theorem new_other {w : World} {k : Nat} (o : Obj) (h : k < w.heap.size) : (w.alloc o).heap[k]? = w.heap[k]? := (grown_new w o none).block k h (by simp)
theorem new_at' (w : World) (o : Obj) {k : Nat} (h : k = w.heap.size) : (w.alloc o).heap[k]? = some o := by subst h; exact new_same w o

theorem own_base {w : World} {B B' : Nat} {E : TypeId} {sz : Nat} {v : Value} {n : Nat} {xs : List Value} (h : w.ownsRow B E sz v n xs) (hb : B' ≤ B) : w.ownsRow B' E sz v n xs := by
  refine ⟨h.1, ?_⟩
  rcases h.2 with h2 | ⟨b, cap, cur, rfl, hbb, rest⟩
  · exact .inl h2
  · exact .inr ⟨b, cap, cur, rfl, by omega, rest⟩

/-- Between the rounds of made: the boxes of the dag, of the term, of the result. -/
structure RM (w0 : World) (ao : Option Addr) (c M : Nat) (N : List Nd) (n : Nd) (wr : World) : Prop where
  be : Below w0.heap.size w0 wr
  sz : w0.heap.size + 2 < wr.heap.size
  b0 : wr.heap[w0.heap.size]? = some (.cells #[.slice ao N.length c, .int .i64 M] 27 (0, 0))
  b1 : wr.heap[w0.heap.size + 1]? = some (.cells #[.int .i64 n.op, .int .i64 n.wd, .int .i64 n.a, .int .i64 n.b, .int .i64 n.c, .int .u64 n.v] 63 (0, 0))
  b2 : wr.heap[w0.heap.size + 1 + 1]? = some (.cells #[.slice none 0 0, .int .i64 0] 27 (0, 0))
  rd : RD wr ao c N

theorem RM.below {w0 wr wr' : World} {ao : Option Addr} {c M : Nat} {N : List Nd} {n : Nd} (h : RM w0 ao c M N n wr) (b : Below wr.heap.size wr wr') : RM w0 ao c M N n wr' :=
  ⟨Below.next h.be b, by have := b.size; have := h.sz; omega, by rw [b.block _ (blk_lt h.b0)]; exact h.b0, by rw [b.block _ (blk_lt h.b1)]; exact h.b1, by rw [b.block _ (blk_lt h.b2)]; exact h.b2, h.rd.below b⟩

theorem RM.start {w : World} {ao : Option Addr} {c M : Nat} {N : List Nd} (n : Nd) (s : RD w ao c N) :
    RM w ao c M N n (((w.alloc (.cells #[.slice ao N.length c, .int .i64 M] 27)).alloc (.cells #[.int .i64 n.op, .int .i64 n.wd, .int .i64 n.a, .int .i64 n.b, .int .i64 n.c, .int .u64 n.v] 63)).alloc (.cells #[.slice none 0 0, .int .i64 0] 27)) := by
  have b : Below w.heap.size w (((w.alloc (.cells #[.slice ao N.length c, .int .i64 M] 27)).alloc (.cells #[.int .i64 n.op, .int .i64 n.wd, .int .i64 n.a, .int .i64 n.b, .int .i64 n.c, .int .u64 n.v] 63)).alloc (.cells #[.slice none 0 0, .int .i64 0] 27)) := by go_grown
  refine ⟨b, by simp, ?_, ?_, ?_, s.below b⟩
  · rw [new_other _ (by simp; omega), new_other _ (by simp), new_same]
  · rw [new_other _ (by simp)]
    exact new_at' _ _ (by simp)
  · exact new_at' _ _ (by simp)

/-- A row is the one that it was, or a new one. -/
def Fresh (w : World) (ao ao' : Option Addr) : Prop := ao' = ao ∨ ∀ g, ao' = some g → w.heap.size ≤ g.block
def RDF (w : World) (ao : Option Addr) (w' : World) (ao' : Option Addr) (c' : Nat) (N : List Nd) : Prop := RD w' ao' c' N ∧ Fresh w ao ao'
theorem Fresh.same (w : World) (ao : Option Addr) : Fresh w ao ao := .inl rfl
theorem Fresh.from {w w1 : World} {ao ao' : Option Addr} (h : Fresh w1 ao ao') (hs : w.heap.size ≤ w1.heap.size) : Fresh w ao ao' := by
  rcases h with h | h
  · exact .inl h
  · exact .inr fun g hg => Nat.le_trans hs (h g hg)

def RmEnd (w : World) (ao : Option Addr) (M : Nat) (N : List Nd) (n : Nd) (e : Ending) (w' : World) : Prop := ∃ ao' c', e = .returned (.tuple #[.agg #[.slice ao' (mkN M N n).length c', .int .i64 M], .int .i64 (mkI M N n), .int .i64 (mkE M N n)]) ∧ Hid (RDF w ao w' ao' c' (mkN M N n)) ∧ Hid (Below w.heap.size w w')

theorem rm_end {w w' : World} {ao ao' : Option Addr} {c' M : Nat} {N : List Nd} {n : Nd} {I E : Int} {l : Nat} (hI : mkI M N n = I) (hE : mkE M N n = E) (hl : (mkN M N n).length = l) (hr : RD w' ao' c' (mkN M N n)) (b : Below w.heap.size w w') (hf : Fresh w ao ao') :
    RmEnd w ao M N n (.returned (.tuple #[.agg #[.slice ao' l c', .int .i64 M], .int .i64 I, .int .i64 E])) w' := by
  subst hI hE hl
  exact ⟨ao', c', rfl, hid ⟨hr, hf⟩, b⟩

/-- append of a list of terms to one of the call's own. -/
theorem append_nodes {w : World} {ops : Array Oper} {rest : List Oper} {o : Oper} {a : Act} {Q : Exit → Act → World → Prop} (hgd : o.guard = none) (s x : Operand)
    (ho : o.op = .call { callee := .builtin .append, args := #[s, x], argTypes := #[25, 25] }) (hs : a.eval s = .slice none 0 0)
    (ao : Option Addr) (N : List Nd) (c : Nat) (hx : a.eval x = .slice ao N.length c) (row : RD w ao c N) (hbd : N.length ≤ 1000000)
    (h : ∀ v' w', Hid (w'.ownsRow w.heap.size 63 6 v' N.length (flat N)) → Hid (Below w.heap.size w w') → wpList Tryd.prog ops Q rest (a.put o.dst v') w') : wpList Tryd.prog ops Q (o :: rest) a w := by
  obtain ⟨i0, hi, hz0, hz1, hz2⟩ := info_parts Tryd.info63
  cases ao with
  | none =>
    obtain ⟨rfl, rfl⟩ : N = [] ∧ c = 0 := by
      obtain ⟨ao, c', e, h2⟩ := own_shape6 row
      cases e
      exact h2 rfl
    refine wpList_append_own_none hgd s x 25 ho w.heap.size 63 i0 6 Tryd.underlying25 hi _ 0 [] hs (World.ownsRow_nil _ _ _ _) hx ?_
    exact h _ w (World.ownsRow_nil _ _ _ _) (Below.refl _ _)
  | some ad =>
    have hcell : ∀ j u, (flat N)[j]? = some u → w.cell? (ad.add j) = some u := by
      intro j u hj
      have hl : j < (flat N).length := by
        by_cases g : j < (flat N).length
        · exact g
        · rw [List.getElem?_eq_none (by omega)] at hj; cases hj
      have hN : 0 < N.length := by rw [flat_len] at hl; omega
      obtain ⟨g, e, _⟩ := row.at hN
      cases e
      rw [add_at, Nat.zero_add, row.cellAt j (by rw [flat_len] at hl; exact hl)]
      exact hj
    refine wpList_append_own (P := Tryd.prog) (w := w) hgd s x 25 ho w.heap.size 63 i0 _ 6 48 Tryd.underlying25 hi hz0 hz1 hz2 rfl (by decide) _ 0 [] hs (World.ownsRow_nil _ _ _ _) ad N.length c (flat N) hx (flat_len N) hcell (flat_one N) (by unfold maxLen; omega) (by omega) (Nat.le_refl _) ?_
    intro v' w' h1 h2 _
    refine h v' w' (hid (by simpa using h1)) (show Below w.heap.size w w' from ⟨h2.os, h2.tape, h2.output, h2.size, fun k hk => h2.block k hk (fun e => by simp [Value.ownBlock] at e)⟩)

theorem append_node {w w1 : World} {ops : Array Oper} {rest : List Oper} {o : Oper} {a : Act} {Q : Exit → Act → World → Prop} (hgd : o.guard = none) (s x : Operand)
    (ho : o.op = .call { callee := .builtin .append, args := #[s, x], argTypes := #[25, 25] }) (n : Nd) (hw : w = w1.alloc (.cells #[.int .i64 n.op, .int .i64 n.wd, .int .i64 n.a, .int .i64 n.b, .int .i64 n.c, .int .u64 n.v] 63)) (v : Value) (B : Nat) (N : List Nd) (hs : a.eval s = v) (own : w1.ownsRow B 63 6 v N.length (flat N)) (hB : B ≤ w1.heap.size)
    (q : Nat) (hx : a.eval x = .slice (some ⟨q, 0, none⟩) 1 1) (hq : q = w1.heap.size) (hbd : N.length ≤ 1000000)
    (h : ∀ g c w', Hid (w'.ownsRow B 63 6 (.slice (some ⟨g, 0, none⟩) (N.length + 1) c) (N.length + 1) (flat N ++ ndC n)) → Hid (Below B w w') → wpList Tryd.prog ops Q rest (a.put o.dst (.slice (some ⟨g, 0, none⟩) (N.length + 1) c)) w') : wpList Tryd.prog ops Q (o :: rest) a w := by
  subst hw hq
  obtain ⟨i0, hi, hz0, hz1, hz2⟩ := info_parts Tryd.info63
  have hnews : ∀ j u, (ndC n)[j]? = some u → (w1.alloc (.cells #[.int .i64 n.op, .int .i64 n.wd, .int .i64 n.a, .int .i64 n.b, .int .i64 n.c, .int .u64 n.v] 63)).cell? ((⟨w1.heap.size, 0, none⟩ : Addr).add j) = some u := by
    intro j u hj
    rw [add_at, Nat.zero_add, cell_of (new_same w1 _)]
    simpa [ndC] using hj
  refine wpList_append_own (P := Tryd.prog) (w := w1.alloc _) hgd s x 25 ho B 63 i0 _ 6 48 Tryd.underlying25 hi hz0 hz1 hz2 rfl (by decide) v N.length (flat N) hs (own.alloc _) ⟨w1.heap.size, 0, none⟩ 1 1 (ndC n) hx (by simp [ndC]) hnews (by simp [ndC, Value.oneCell']) (by unfold maxLen; omega) (by omega) (by simp; omega) ?_
  intro v' w' h1 h2 _
  have bel : Below B (w1.alloc (.cells #[.int .i64 n.op, .int .i64 n.wd, .int .i64 n.a, .int .i64 n.b, .int .i64 n.c, .int .u64 n.v] 63)) w' := (Below.refl B _).grown h2 (by simp; omega) fun k hk => (own_lt own hk).1
  rcases h1.2 with ⟨_, e⟩ | ⟨b, cap, cur, rfl, rest⟩
  · omega
  · exact h b cap w' h1 bel

theorem res_two {w : World} {r : Nat} {a b x y : Value} (h : w.heap[r]? = some (.cells #[a, b] 27 (0, 0))) : ((w.setCell ⟨r, 0, none⟩ x).setCell ⟨r, 1, none⟩ y).cell? ⟨r, 0, none⟩ = some x ∧ ((w.setCell ⟨r, 0, none⟩ x).setCell ⟨r, 1, none⟩ y).cell? ⟨r, 1, none⟩ = some y := by
  have h1 := set_same h (o := 0) x
  have h2 := set_same h1 (o := 1) y
  constructor <;> rw [cell_of h2] <;> simp
theorem res_keep {w : World} {r : Nat} {a b x y : Value} (h : w.heap[r]? = some (.cells #[a, b] 27 (0, 0))) {B n : Nat} {v : Value} {xs : List Value} (own : w.ownsRow B 63 6 v n xs) : ((w.setCell ⟨r, 0, none⟩ x).setCell ⟨r, 1, none⟩ y).ownsRow B 63 6 v n xs := by
  have hne : v.ownBlock ≠ some r := fun e => by
    obtain ⟨cur, g⟩ := own_block own e
    rw [h] at g; simp at g
  refine own_keep (own_keep own (grown_set w ⟨r, 0, none⟩ x) fun j hj => ?_) (grown_set _ ⟨r, 1, none⟩ y) fun j hj => ?_
  · cases hj; exact hne
  · cases hj; exact hne
theorem res_below {w0 w : World} {r : Nat} {x y : Value} (b : Below w0.heap.size w0 w) (hr : w0.heap.size ≤ r) : Below w0.heap.size w0 ((w.setCell ⟨r, 0, none⟩ x).setCell ⟨r, 1, none⟩ y) := by
  have hs := b.size
  refine (b.trans (below_grown (grown_set w ⟨r, 0, none⟩ x) (fun j hj => by cases hj; exact hr) hs)).trans (below_grown (grown_set _ ⟨r, 1, none⟩ y) (fun j hj => by cases hj; exact hr) ?_)
  simp [World.setCell]; omega
theorem RM.at3 {w0 wr w2 w3 : World} {ao : Option Addr} {c M : Nat} {N : List Nd} {n : Nd} {o : Obj} (h : RM w0 ao c M N n wr) (b2 : Below wr.heap.size wr w2) (b3 : Below wr.heap.size (w2.alloc o) w3) :
    w3.heap[w0.heap.size]? = some (.cells #[.slice ao N.length c, .int .i64 M] 27 (0, 0)) ∧ w3.heap[w0.heap.size + 1 + 1]? = some (.cells #[.slice none 0 0, .int .i64 0] 27 (0, 0)) ∧ Below w0.heap.size w0 w3 ∧ w0.heap.size + 2 < w3.heap.size := by
  have h1 := h.sz
  have h2 := b2.size
  have h3 := b3.size
  simp at h3
  have b1 : Below wr.heap.size wr w3 := (b2.trans (show Below wr.heap.size w2 (w2.alloc o) from below_grown (grown_new w2 o none) (fun j hj => by cases hj) h2)).trans b3
  exact ⟨by rw [b1.block _ (blk_lt h.b0)]; exact h.b0, by rw [b1.block _ (blk_lt h.b2)]; exact h.b2, Below.next h.be b1, by omega⟩

/-- Behind the new row's store. -/
def V4 (w0 : World) (M B g c : Nat) (N : List Nd) (n : Nd) (w4 : World) : Prop :=
  w4.heap[w0.heap.size]? = some (.cells #[.slice (some ⟨g, 0, none⟩) (N.length + 1) c, .int .i64 M] 27 (0, 0)) ∧ w4.heap[w0.heap.size + 1 + 1]? = some (.cells #[.slice none 0 0, .int .i64 0] 27 (0, 0)) ∧
    w4.ownsRow B 63 6 (.slice (some ⟨g, 0, none⟩) (N.length + 1) c) (N.length + 1) (flat N ++ ndC n) ∧ Below w0.heap.size w0 w4
theorem V4.drew {w0 : World} {M B g c : Nat} {N : List Nd} {n : Nd} {w4 : World} (h : V4 w0 M B g c N n w4) : V4 w0 M B g c N n w4.drew :=
  ⟨h.1, h.2.1, own_keep h.2.2.1 (grown_below (below_drew w4)) (fun j hj => by cases hj), h.2.2.2.trans ((below_drew w4).mono h.2.2.2.size)⟩
theorem rm_w4 {w0 w3 : World} {ao : Option Addr} {l c0 M B g c : Nat} {N : List Nd} {n : Nd} (h0 : w3.heap[w0.heap.size]? = some (.cells #[.slice ao l c0, .int .i64 M] 27 (0, 0))) (h1 : w3.heap[w0.heap.size + 1 + 1]? = some (.cells #[.slice none 0 0, .int .i64 0] 27 (0, 0)))
    (own : w3.ownsRow B 63 6 (.slice (some ⟨g, 0, none⟩) (N.length + 1) c) (N.length + 1) (flat N ++ ndC n)) (b : Below w0.heap.size w0 w3) :
    V4 w0 M B g c N n (w3.setCell ⟨w0.heap.size, 0, none⟩ (.slice (some ⟨g, 0, none⟩) (N.length + 1) c)) := by
  refine ⟨set_same h0 (o := 0) _, by rw [set_other _ (by simp; omega)]; exact h1, own_keep own (grown_set w3 ⟨w0.heap.size, 0, none⟩ _) fun j hj e => ?_, b.trans (below_grown (grown_set w3 ⟨w0.heap.size, 0, none⟩ _) (fun j hj => by cases hj; exact Nat.le_refl _) b.size)⟩
  cases hj
  obtain ⟨cur, g⟩ := own_block own e
  rw [h0] at g; simp at g
theorem own_rd {w : World} {g c : Nat} {N : List Nd} {n : Nd} (h : w.ownsRow 0 63 6 (.slice (some ⟨g, 0, none⟩) (N.length + 1) c) (N.length + 1) (flat N ++ ndC n)) : RD w (some ⟨g, 0, none⟩) c (N ++ [n]) := by
  unfold RD
  rw [flat_snoc, List.length_append]
  exact h

set_option maxHeartbeats 4000000 in
theorem rmade_any {w : World} {ao : Option Addr} {c M : Nat} {N : List Nd} (s : RD w ao c N) (n : Nd) (hN : N.length ≤ 65536) :
    Calls Tryd.prog 53 #[.agg #[.slice ao N.length c, .int .i64 M], .agg #[.int .i64 n.op, .int .i64 n.wd, .int .i64 n.a, .int .i64 n.b, .int .i64 n.c, .int .u64 n.v]] w fun e w' => RmEnd w ao M N n e w' := by
  have HS := hid s
  clear s
  go_enter Tryd.func53, Tryd.ntmps53
  go_wp2
  go_loopw [7] (fun i wr => ∃ q : Nat, q ≤ fnd N n ∧ i = .int .i64 q ∧ Hid (RM w ao c M N n wr)) (fun i _ => N.length - (intOf i).toNat)
  case atStart => exact ⟨0, Nat.zero_le _, rfl, hid (RM.start n HS.out)⟩
  case round =>
    obtain ⟨q, hq, rfl, hr⟩ := hrel
    have hle := fnd_le N n
    have hsz := hr.out.sz
    obtain ⟨d0, d1⟩ := two_of hr.out.b0
    obtain ⟨x0, x1, x2, x3, x4, x5⟩ := box6 hr.out.b1
    obtain ⟨r0, r1⟩ := two_of hr.out.b2
    by_cases hlt : q < N.length
    · have hlt' : (q : Int) < N.length := by omega
      obtain ⟨g, rfl, e0, e1, e2, e3, e4, e5⟩ := hr.out.rd.at hlt
      have he := eql32 (ndA N q) n
      by_cases hf : fnd N n = q
      · have hn : ndA N q = n := by
          have h1 := ndA_nat hlt
          have h2 := fnd_at (fnd_lt.1 (by omega : fnd N n < N.length))
          rw [hf, h1] at h2
          exact Option.some.inj h2
        have hI : Hid (mkI M N n = q ∧ mkE M N n = 0 ∧ mkN M N n = N) := hid (by
          have : fnd N n < N.length := by omega
          exact ⟨by rw [mkI, if_pos this, hf], by rw [mkE, if_pos this], by rw [mkN, if_pos this]⟩)
        have hev : eqN (ndA N q) n = true := (eqN_iff _ _).2 hn
        simp only [hev] at he
        have f0 := frozen_of (o := 0) hr.out.b2
        have f1 := frozen_of (o := 1) hr.out.b2
        clear hev hn hf hq hle
        go_wp2
        go_quiet (fail)
        go_wp2
        have hz := hid (hr.out.below (drewN_any _ wr nq))
        refine bodyPost_ret (results_box3 rfl _ _ (w.heap.size + 1 + 1) _ _ rfl (res_two hz.out.b2).1 (res_two hz.out.b2).2) rfl ?_
        exact rm_end hI.out.1 hI.out.2.1 (by rw [hI.out.2.2]) (by rw [hI.out.2.2]; exact res_keep hz.out.b2 hz.out.rd) (res_below hz.out.be (by omega)) (Fresh.same _ _)
      · have hev : eqN (ndA N q) n = false := eqN_ne (fnd_before (by omega) (ndA_nat hlt))
        simp only [hev] at he
        clear hev
        go_wp2
        go_quiet (fail)
        go_wp2
        go_round
        case rel => exact ⟨q + 1, by omega, by go_num, hid (hr.out.below (drewN_any _ _ _))⟩
        case measure => simp only [intOf]; omega
    · have hqe : q = N.length := by omega
      have hnn : n ∉ N := fun h => by have := fnd_lt.2 h; omega
      by_cases hM : N.length < M
      · have hI : Hid (mkI M N n = N.length ∧ mkE M N n = 0 ∧ mkN M N n = N ++ [n]) := hid (by
          have : ¬ fnd N n < N.length := by omega
          exact ⟨by rw [mkI, if_neg this, if_pos hM], by rw [mkE, if_neg this, if_pos hM], by rw [mkN, if_neg this, if_pos hM]⟩)
        go_wp2_with (first
          | (at_builtin; refine append_nodes rfl _ _ rfl rfl ao N c rfl hr.out.rd (by omega) ?_; intro v2 w2 own2 b2; have s2 := hid (hr.out.below b2.out); have y := box6 s2.out.b1; obtain ⟨y0, y1, y2, y3, y4, y5⟩ := y)
          | (at_builtin; refine append_node (w1 := w2) rfl _ _ rfl n rfl v2 wr.heap.size N rfl own2.out b2.out.size _ rfl rfl (by omega) ?_; intro g3 c3 w3 own3 b3; have s3 := hr.out.at3 b2.out b3.out; obtain ⟨u0, u1, u2, u3⟩ := s3; have k0 := two_of u0; have k1 := frozen_of (o := 0) u0; have k2 := two_of u1; have k3 := frozen_of (o := 0) u1; have k4 := frozen_of (o := 1) u1; obtain ⟨k5, k6⟩ := k0; obtain ⟨k7, k8⟩ := k2; have U0 := hid u0; have U1 := hid u1; have U2 := hid u2; clear u0 u1 u2))
        have V := hid (rm_w4 U0.out U1.out own3.out U2.out)
        clear k1 k3 k4 k5 k6 k7 k8 U0 U1 U2 own3 b3 x0 x1 x2 x3 x4 x5 y0 y1 y2 y3 y4 y5 d0 d1 r0 r1 s2 own2 u3
        revert V
        generalize w3.setCell { block := w.heap.size, off := 0 } (Value.slice (some { block := g3, off := 0 }) (N.length + 1) c3) = w4
        intro V
        obtain ⟨k5, k6⟩ := two_of V.out.1
        obtain ⟨k7, k8⟩ := two_of V.out.2.1
        have k3 := frozen_of (o := 0) V.out.2.1
        have k4 := frozen_of (o := 1) V.out.2.1
        have V2 := hid (V.out.drew)
        go_region
        all_goals go_wp2
        all_goals refine bodyPost_ret (results_box3 rfl _ _ (w.heap.size + 1 + 1) _ _ rfl (res_two V2.out.2.1).1 (res_two V2.out.2.1).2) rfl ?_
        all_goals exact rm_end (hI.out.1.trans (by go_num)) hI.out.2.1 (by rw [hI.out.2.2]; simp) (by rw [hI.out.2.2]; exact own_rd (own_base (res_keep V2.out.2.1 V2.out.2.2.1) (Nat.zero_le _))) (res_below V2.out.2.2.2 (by omega)) (Or.inr fun gg hgg => by cases hgg; have hg3 : wr.heap.size ≤ g3 := (own_lt V2.out.2.2.1 rfl).1; show w.heap.size ≤ g3; omega)
      · have hI : Hid (mkI M N n = 0 ∧ mkE M N n = 8 ∧ mkN M N n = N) := hid (by
          have : ¬ fnd N n < N.length := by omega
          exact ⟨by rw [mkI, if_neg this, if_neg hM], by rw [mkE, if_neg this, if_neg hM], by rw [mkN, if_neg this, if_neg hM]⟩)
        have f0 := frozen_of (o := 0) hr.out.b2
        have f1 := frozen_of (o := 1) hr.out.b2
        go_wp2
        refine bodyPost_ret (results_box3 rfl _ _ (w.heap.size + 1 + 1) _ _ rfl (res_two hr.out.b2).1 (res_two hr.out.b2).2) rfl ?_
        exact rm_end hI.out.1 hI.out.2.1 (by rw [hI.out.2.2]) (by rw [hI.out.2.2]; exact res_keep hr.out.b2 hr.out.rd) (res_below hr.out.be (by omega)) (Fresh.same _ _)

end Go.Proofs.YtefielnmlekhaaaDoor
