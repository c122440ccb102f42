/-
  number: the number of a term, which is made if it is not there.
-/
import Derived.Test.YtefielnmlekhaaaDoorNew
import Derived.Maps.AppendAt
import Derived.Deep.RegionLaw
namespace Go.Proofs.YtefielnmlekhaaaDoor
open Go.RowKit Go.Maps
set_option linter.unusedVariables false
set_option maxRecDepth 100000

section
variable {k : K} {w w' : World} {N : List Nd} {ws : List Int} {nv : Value} {mo : Option Nat} {P : Nat → Prop}

theorem Raw.drewN (s : Raw k w N ws nv mo P) (m : Nat) : Raw k (w.drewN m) N ws nv mo P := s.below (drewN_any _ _ _)

/-- The map is made. -/
theorem Raw.mapped (s : Raw k w N ws nv none P) :
    Raw k ((w.alloc (.map #[] 0)).setCell ⟨k.DB, 2, none⟩ (.map (some w.heap.size))) N ws nv (some w.heap.size) (fun j => P j ∨ j = w.heap.size) ∧ Fr P (fun j => P j ∨ j = w.heap.size) w ((w.alloc (.map #[] 0)).setCell ⟨k.DB, 2, none⟩ (.map (some w.heap.size))) := by
  obtain rfl : N = [] := by
    rcases s.mp with ⟨_, h⟩ | ⟨mb, h, _⟩
    · exact h
    · cases h
  have g1 := grown_new w (.map #[] 0) none
  have hd := blk_lt s.cl
  have e1 : (w.alloc (.map #[] 0)).heap[k.DB]? = some (.cells (dagC k.M nv none ws) 68 (0, 0)) := by rw [g1.block _ hd (by simp)]; exact s.cl
  have g2 := grown_set (w.alloc (.map #[] 0)) ⟨k.DB, 2, none⟩ (.map (some w.heap.size))
  have hsz : (w.alloc (.map #[] 0)).heap.size = w.heap.size + 1 := by simp
  refine ⟨⟨s.lw, ?_, s.hM, s.len, ?_, .inr ⟨_, rfl, ?_⟩, .inl s.pd, fun j hj => .inl (s.pn j hj), fun j hj => .inr (by cases hj; rfl), fun j hj => ?_⟩, ⟨g2.os.trans g1.os, g2.tape.trans g1.tape, g2.output.trans g1.output, Nat.le_trans g1.size g2.size, fun j hj hm => ?_, fun j hj => ?_⟩⟩
  · rw [set_same e1]; simp [dagC]
  · exact own_keep (own_keep s.ow g1 (fun j hj => by cases hj)) g2 (fun j hj e => by cases hj; exact s.ne_own e)
  · refine (MapIs.made w).same ?_
    rw [set_other _ (by show w.heap.size ≠ k.DB; omega)]
  · have h2 := g2.size
    rcases hj with hj | hj
    · have := s.bd j hj; exact ⟨this.1, by omega⟩
    · have := s.bd _ s.pd; exact ⟨by omega, by omega⟩
  · rw [set_other _ (fun e => hm (by rw [e]; exact s.pd)), g1.block _ hj (by simp)]
  · rcases hj with hj | hj
    · exact .inl hj
    · exact .inr (by omega)

/-- One term more in the row, where the map has it already. -/
theorem Raw.noded {mb : Nat} {n : Nd} {w2 w3 : World} {nv' : Value} (s : Raw k w N ws nv (some mb) P) (hm : MapIs w2 mb (N ++ [n])) (g : w.grownBy w2 (some mb)) (hl : N.length < k.M)
    (own : w3.ownsRow 0 63 6 nv' (N.length + 1) (flat N ++ ndC n)) (g3 : w2.grownBy w3 nv.ownBlock) (new : ∀ j, nv'.ownBlock = some j → nv.ownBlock = some j ∨ w2.heap.size ≤ j) :
    Raw k (w3.setCell ⟨k.DB, 1, none⟩ nv') (N ++ [n]) ws nv' (some mb) (fun j => P j ∨ nv'.ownBlock = some j) ∧ Fr P (fun j => P j ∨ nv'.ownBlock = some j) w (w3.setCell ⟨k.DB, 1, none⟩ nv') ∧
      w3.cell? ⟨k.DB, 1, none⟩ = some nv ∧ w3.frozen? ⟨k.DB, 1, none⟩ = false := by
  have hmb := s.pm mb rfl
  have hd := blk_lt s.cl
  have e1 : w2.heap[k.DB]? = some (.cells (dagC k.M nv (some mb) ws) 68 (0, 0)) := by rw [g.block _ hd (fun e => s.ne_map e.symm)]; exact s.cl
  have e2 : w3.heap[k.DB]? = some (.cells (dagC k.M nv (some mb) ws) 68 (0, 0)) := by rw [g3.block _ (blk_lt e1) (fun e => s.ne_own e.symm)]; exact e1
  have g4 := grown_set w3 ⟨k.DB, 1, none⟩ nv'
  have hs1 := g.size
  have hs2 := g3.size
  have hs3 := g4.size
  have own' : w3.ownsRow 0 63 6 nv' (N ++ [n]).length (flat (N ++ [n])) := by rw [flat_snoc]; simpa using own
  have hne : nv'.ownBlock ≠ some k.DB := by
    intro e
    obtain ⟨cur, h⟩ := own_block own' e
    rw [e2] at h; simp at h
  refine ⟨⟨s.lw, ?_, s.hM, by simp; omega, own_keep own' g4 (fun j hj e => by cases hj; exact hne e), .inr ⟨mb, rfl, ?_⟩, .inl s.pd, fun j hj => .inr hj, fun j hj => .inl (s.pm j hj), fun j hj => ?_⟩, ⟨g4.os.trans (g3.os.trans g.os), g4.tape.trans (g3.tape.trans g.tape), g4.output.trans (g3.output.trans g.output), by omega, fun j hj hp => ?_, fun j hj => ?_⟩, ?_, frozen_of e2⟩
  · rw [set_same e2]; simp [dagC]
  · refine hm.same ?_
    rw [set_other _ (by show mb ≠ k.DB; intro e; exact s.ne_map (by rw [e])), g3.block _ hm.lt (fun e => s.ne_both rfl e.symm)]
  · rcases hj with hj | hj
    · have := s.bd j hj; exact ⟨this.1, by omega⟩
    · have h1 := own_lt own' hj
      refine ⟨?_, by omega⟩
      rcases new j hj with h | h
      · exact (s.bd j (s.pn j h)).1
      · have := s.bd _ s.pd; omega
  · rw [set_other _ (fun e => hp (by rw [e]; exact s.pd)), g3.block _ (by omega) (fun e => hp (s.pn j e.symm)), g.block _ hj (fun e => hp (by cases e; exact hmb))]
  · rcases hj with hj | hj
    · exact .inl hj
    · rcases new j hj with h | h
      · exact .inl (s.pn j h)
      · exact .inr (by omega)
  · rw [cell_of e2]; simp [dagC]
end

/-- One term more at the end of a row of the dag's own. -/
theorem run_node {w w1 : World} (ty : TypeId) (n : Nd) (hw : w = (w1.alloc (.cells #[.int .i64 n.op, .int .i64 n.wd, .int .i64 n.a, .int .i64 n.b, .int .i64 n.c, .int .u64 n.v] 63)).drew) (v : Value) (N : List Nd) (own : w1.ownsRow 0 63 6 v N.length (flat N)) (q : Nat) (hq : q = w1.heap.size) (hbd : N.length ≤ 100000000) :
    ∃ v' w', (Builtin.append_ #[25, 25] ty #[v, .slice (some ⟨q, 0, none⟩) 1 1]).run Tryd.prog w = .ok v' w' ∧ w'.ownsRow 0 63 6 v' (N.length + 1) (flat N ++ ndC n) ∧ w1.grownBy w' v.ownBlock ∧ (∀ j, v'.ownBlock = some j → v.ownBlock = some j ∨ w1.heap.size ≤ j) := by
  subst hw hq
  obtain ⟨i0, hi, hz0, hz1, hz2⟩ := info_parts Tryd.info63
  have hnews : ∀ j u, (ndC n)[j]? = some u → (w1.alloc (.cells #[.int .i64 n.op, .int .i64 n.wd, .int .i64 n.a, .int .i64 n.b, .int .i64 n.c, .int .u64 n.v] 63)).drew.cell? ((⟨w1.heap.size, 0, none⟩ : Addr).add j) = some u := by
    intro j u hj
    have e2 : (w1.alloc (.cells #[.int .i64 n.op, .int .i64 n.wd, .int .i64 n.a, .int .i64 n.b, .int .i64 n.c, .int .u64 n.v] 63)).drew.cell? ⟨w1.heap.size, j, none⟩ = (w1.alloc (.cells #[.int .i64 n.op, .int .i64 n.wd, .int .i64 n.a, .int .i64 n.b, .int .i64 n.c, .int .u64 n.v] 63)).cell? ⟨w1.heap.size, j, none⟩ := rfl
    rw [add_at, Nat.zero_add, e2, cell_of (new_same w1 _)]
    simpa [ndC] using hj
  obtain ⟨v', w', h1, h2, h3, _, h4⟩ := run_append_own_at (P := Tryd.prog) (w1.alloc (.cells #[.int .i64 n.op, .int .i64 n.wd, .int .i64 n.a, .int .i64 n.b, .int .i64 n.c, .int .u64 n.v] 63)).drew 0 25 ty 63 i0 _ 6 48 Tryd.underlying25 hi hz0 hz1 hz2 rfl (by omega) v N.length _ (own.alloc (.cells #[.int .i64 n.op, .int .i64 n.wd, .int .i64 n.a, .int .i64 n.b, .int .i64 n.c, .int .u64 n.v] 63)) ⟨w1.heap.size, 0, none⟩ 1 1 (ndC n) (by simp [ndC]) hnews (by simp [ndC, Value.oneCell']) (by unfold maxLen; omega) (by omega) (by omega)
  refine ⟨v', w', h1, h2, grown_two (grown_new w1 (.cells #[.int .i64 n.op, .int .i64 n.wd, .int .i64 n.a, .int .i64 n.b, .int .i64 n.c, .int .u64 n.v] 63) _) ⟨h3.os, h3.tape, h3.output, h3.size, h3.block⟩, fun j hj => ?_⟩
  rcases h4 with h4 | h4
  · exact .inl (by rw [← h4]; exact hj)
  · rw [h4] at hj
    have := Option.some.inj hj
    have e3 : (w1.alloc (.cells #[.int .i64 n.op, .int .i64 n.wd, .int .i64 n.a, .int .i64 n.b, .int .i64 n.c, .int .u64 n.v] 63)).drew.heap.size = w1.heap.size + 1 := by show (w1.alloc _).heap.size = _; simp
    exact .inr (by omega)

/-- append, as one step of a region that draws its order. -/
theorem step_node {w w1 : World} {ops : Array Oper} {o : Oper} {a : Act} {Kc : Act → World → Prop} {Q : Exit → Act → World → Prop} {G : Prop} (hgd : o.guard = none) (s x : Operand)
    (ho : o.op = .call { callee := .builtin .append, args := #[s, x], argTypes := #[25, 25] }) (n : Nd) (hw : w = (w1.alloc (.cells #[.int .i64 n.op, .int .i64 n.wd, .int .i64 n.a, .int .i64 n.b, .int .i64 n.c, .int .u64 n.v] 63)).drew) (v : Value) (N : List Nd) (hs : a.eval s = v) (own : w1.ownsRow 0 63 6 v N.length (flat N))
    (q : Nat) (hx : a.eval x = .slice (some ⟨q, 0, none⟩) 1 1) (hq : q = w1.heap.size) (hbd : N.length ≤ 100000000)
    (h : ∀ v' w', Hid (w'.ownsRow 0 63 6 v' (N.length + 1) (flat N ++ ndC n)) → Hid (w1.grownBy w' v.ownBlock) → Hid (∀ j, v'.ownBlock = some j → v.ownBlock = some j ∨ w1.heap.size ≤ j) → Kc (a.put o.dst v') w') :
    if Region.wanted o (yielded ops a.tmps) = true then Oper.wp Tryd.prog o a w Kc Q else G := by
  have hwd : Region.wanted o (yielded ops a.tmps) = true := by simp [Region.wanted, hgd]
  rw [if_pos hwd]
  obtain ⟨v', w', hrun, r1, r2, r3⟩ := run_node o.type n hw v N own q hq hbd
  unfold Oper.wp
  simp [execOp, ho, resolve, invoke, builtin, hs, hx, hrun, Result.andThen]
  exact h v' w' r1 r2 r3

theorem own_some {w : World} {v : Value} {N : List Nd} {n : Nd} (h : w.ownsRow 0 63 6 v (N.length + 1) (flat N ++ ndC n)) : ∃ g c, v = .slice (some ⟨g, 0, none⟩) (N.length + 1) c := by
  rcases h.2 with ⟨_, e⟩ | ⟨b, cap, cur, rfl, _⟩
  · omega
  · exact ⟨_, _, rfl⟩

theorem MapIs.look_no {w : World} {b : Nat} {N : List Nd} (h : MapIs w b N) {n : Nd} (hf : Ft n) (hn : n ∉ N) :
    (Instr.lookup 65 (.map (some b)) (ndV n) true).run Tryd.prog w = .ok (.tuple #[.int .i64 0, .bool false]) w := by
  obtain ⟨kl, hkl⟩ := node_key n hf
  obtain ⟨D, h, h2⟩ := h
  have e : Maps.has D kl = false := by
    cases e : Maps.has D kl
    · rfl
    · exact absurd ((h2 n kl hkl).1.1 e) hn
  obtain ⟨v, ps, hr, hv⟩ := h.look_ok law32 Tryd.underlying65 (zero3 w) (plainElem_int (H := Unit) Tryd.underlying3 (wf64 (x := 0) (by omega) (by omega))) hkl
  obtain ⟨c, rfl, hc, _⟩ := plainElem_int_inv Tryd.underlying3 hv
  rw [atKey_of_not_has e] at hc
  have := congrArg Prod.fst hc
  simp at this
  subst this
  rw [hr, e]

theorem map_some (b : Nat) (w : World) : (binOp BinOp.eql 65 (.map (some b)) (.map none)).run Tryd.prog w = .ok (.bool false) w := by rfl
theorem make56 (w : World) : (Instr.makeMap 65 none).run Tryd.prog w = .ok (.map (some w.heap.size)) (w.alloc (.map #[] 0)) := by rfl
theorem map_nil (w : World) : (binOp BinOp.eql 65 (.map none) (.map none)).run Tryd.prog w = .ok (.bool true) w := by rfl

theorem box6 {w : World} {b : Nat} {n : Nd} (h : w.heap[b]? = some (.cells #[.int .i64 n.op, .int .i64 n.wd, .int .i64 n.a, .int .i64 n.b, .int .i64 n.c, .int .u64 n.v] 63 (0, 0))) : w.cell? ⟨b, 0, none⟩ = some (.int .i64 n.op) ∧ w.cell? ⟨b, 1, none⟩ = some (.int .i64 n.wd) ∧ w.cell? ⟨b, 2, none⟩ = some (.int .i64 n.a) ∧ w.cell? ⟨b, 3, none⟩ = some (.int .i64 n.b) ∧ w.cell? ⟨b, 4, none⟩ = some (.int .i64 n.c) ∧ w.cell? ⟨b, 5, none⟩ = some (.int .u64 n.v) := by
  refine ⟨?_, ?_, ?_, ?_, ?_, ?_⟩ <;> rw [cell_of h] <;> rfl

def NumEnd (k : K) (ws : List Int) (N : List Nd) (P : Nat → Prop) (n : Nd) (w w' : World) : Prop := ∃ nv' mo' P', Raw k w' (mkN k.M N n) ws nv' mo' P' ∧ Fr P P' w w'

set_option maxHeartbeats 2000000 in
theorem num_there {k : K} {w : World} {N : List Nd} {ws : List Int} {nv : Value} {mo : Option Nat} {P : Nat → Prop} (s : Raw k w N ws nv mo P) (n : Nd) (hf : Ft n) (hn : n ∈ N) :
    Calls Tryd.prog 25 #[.pointer (some ⟨k.DB, 0, none⟩), .agg #[.int .i64 n.op, .int .i64 n.wd, .int .i64 n.a, .int .i64 n.b, .int .i64 n.c, .int .u64 n.v]] w fun e w' => e = .returned (.tuple #[.int .i64 (mkI k.M N n), .int .i64 (mkE k.M N n)]) ∧ NumEnd k ws N P n w w' := by
  rcases mkN_cases k.M N n with ⟨_, e1, e2, e3⟩ | ⟨h, _⟩ | ⟨h, _⟩
  · rcases s.mp with ⟨_, h⟩ | ⟨mb, rfl, hm⟩
    · rw [h] at hn; simp at hn
    have HE : Hid (NumEnd k ws N P n w (w.alloc (.cells #[.int .i64 n.op, .int .i64 n.wd, .int .i64 n.a, .int .i64 n.b, .int .i64 n.c, .int .u64 n.v] 63)).drew) :=
      hid ⟨nv, some mb, P, by rw [e1]; exact s.below (by go_grown), Fr.below (by go_grown)⟩
    have hm2 : MapIs (w.alloc (.cells #[.int .i64 n.op, .int .i64 n.wd, .int .i64 n.a, .int .i64 n.b, .int .i64 n.c, .int .u64 n.v] 63)).drew mb N := hm.same ((show Below w.heap.size w (w.alloc (.cells #[.int .i64 n.op, .int .i64 n.wd, .int .i64 n.a, .int .i64 n.b, .int .i64 n.c, .int .u64 n.v] 63)).drew by go_grown).block _ hm.lt)
    obtain ⟨c, hc, hc2⟩ := hm2.look hf
    have hc3 := hc2 hn
    subst hc3
    rw [hasB_iff.2 hn] at hc
    have c2 := s.c2
    have hd := cell_lt c2
    simp only [] at hd
    unfold ndV at hc
    rw [e2, e3]
    clear s hm hm2 hc2 e1 e2 e3
    go_enter Tryd.func25, Tryd.ntmps25
    go_wp2
    go_region
    all_goals go_wp2
    all_goals go_ret2
    all_goals exact ⟨rfl, HE.out⟩
  · exact absurd hn h
  · exact absurd hn h

set_option maxHeartbeats 2000000 in
theorem num_full {k : K} {w : World} {N : List Nd} {ws : List Int} {nv : Value} {mo : Option Nat} {P : Nat → Prop} (s : Raw k w N ws nv mo P) (n : Nd) (hf : Ft n) (hn : n ∉ N) (hl : ¬ N.length < k.M) :
    Calls Tryd.prog 25 #[.pointer (some ⟨k.DB, 0, none⟩), .agg #[.int .i64 n.op, .int .i64 n.wd, .int .i64 n.a, .int .i64 n.b, .int .i64 n.c, .int .u64 n.v]] w fun e w' => e = .returned (.tuple #[.int .i64 (mkI k.M N n), .int .i64 (mkE k.M N n)]) ∧ NumEnd k ws N P n w w' := by
  rcases mkN_cases k.M N n with ⟨h, _⟩ | ⟨_, h, _⟩ | ⟨_, _, e1, e2, e3⟩
  · exact absurd h hn
  · exact absurd h hl
  · have b1 : Below w.heap.size w (w.alloc (.cells #[.int .i64 n.op, .int .i64 n.wd, .int .i64 n.a, .int .i64 n.b, .int .i64 n.c, .int .u64 n.v] 63)).drew := by go_grown
    have HE : Hid (∀ w', Below (w.alloc (.cells #[.int .i64 n.op, .int .i64 n.wd, .int .i64 n.a, .int .i64 n.b, .int .i64 n.c, .int .u64 n.v] 63)).drew.heap.size (w.alloc (.cells #[.int .i64 n.op, .int .i64 n.wd, .int .i64 n.a, .int .i64 n.b, .int .i64 n.c, .int .u64 n.v] 63)).drew w' → NumEnd k ws N P n w w') :=
      hid fun w' b => ⟨nv, mo, P, by rw [e1]; exact s.below (Below.next b1 b), Fr.below (Below.next b1 b)⟩
    have HS := hid (s.below b1)
    have hc : ∃ c : Int, (Instr.lookup 65 (.map mo) (.agg #[.int .i64 n.op, .int .i64 n.wd, .int .i64 n.a, .int .i64 n.b, .int .i64 n.c, .int .u64 n.v]) true).run Tryd.prog (w.alloc (.cells #[.int .i64 n.op, .int .i64 n.wd, .int .i64 n.a, .int .i64 n.b, .int .i64 n.c, .int .u64 n.v] 63)).drew = .ok (.tuple #[.int .i64 c, .bool false]) (w.alloc (.cells #[.int .i64 n.op, .int .i64 n.wd, .int .i64 n.a, .int .i64 n.b, .int .i64 n.c, .int .u64 n.v] 63)).drew := by
      rcases s.mp with ⟨rfl, h⟩ | ⟨mb, rfl, hm⟩
      · exact ⟨0, look_none hf⟩
      · obtain ⟨c, hc, _⟩ := (hm.same (b1.block _ hm.lt)).look hf
        rw [hasB_no hn] at hc
        exact ⟨c, hc⟩
    obtain ⟨c, hc⟩ := hc
    have c2 := s.c2
    have hd := cell_lt c2
    simp only [] at hd
    rw [e2, e3]
    have hl' : decide ((k.M : Int) ≤ N.length) = true := by simp; omega
    clear s e1 e2 e3 b1 hn hl
    go_enter Tryd.func25, Tryd.ntmps25
    go_wp2
    go_region
    all_goals go_wp2
    all_goals revert HS HE hc
    all_goals generalize (w.alloc (.cells #[.int .i64 n.op, .int .i64 n.wd, .int .i64 n.a, .int .i64 n.b, .int .i64 n.c, .int .u64 n.v] 63)).drew = w1
    all_goals intro HE HS hc
    all_goals have c0 := HS.out.c0
    all_goals go_region_with (go_at_call 19; with_reducible (refine (len_raw (HS.out.below (below_drew w1))).mono ?_); rintro e w2 ⟨rfl, rfl⟩)
    all_goals go_wp2
    all_goals go_ret2
    all_goals exact ⟨rfl, HE.out _ (below_drew w1)⟩

set_option maxHeartbeats 4000000 in
theorem num_more {k : K} {w : World} {N : List Nd} {ws : List Int} {nv : Value} {mb : Nat} {P : Nat → Prop} (s : Raw k w N ws nv (some mb) P) (n : Nd) (hf : Ft n) (hn : n ∉ N) (hl : N.length < k.M) :
    Calls Tryd.prog 25 #[.pointer (some ⟨k.DB, 0, none⟩), .agg #[.int .i64 n.op, .int .i64 n.wd, .int .i64 n.a, .int .i64 n.b, .int .i64 n.c, .int .u64 n.v]] w fun e w' => e = .returned (.tuple #[.int .i64 (mkI k.M N n), .int .i64 (mkE k.M N n)]) ∧ NumEnd k ws N P n w w' := by
  rcases mkN_cases k.M N n with ⟨h, _⟩ | ⟨_, _, e1, e2, e3⟩ | ⟨_, h, _⟩
  · exact absurd h hn
  · have b1 : Below w.heap.size w (w.alloc (.cells #[.int .i64 n.op, .int .i64 n.wd, .int .i64 n.a, .int .i64 n.b, .int .i64 n.c, .int .u64 n.v] 63)) := by go_grown
    have E1 := hid e1
    have F1 : Hid (Fr P P w (w.alloc (.cells #[.int .i64 n.op, .int .i64 n.wd, .int .i64 n.a, .int .i64 n.b, .int .i64 n.c, .int .u64 n.v] 63))) := hid (Fr.below b1)
    have HS := hid (s.below b1)
    have hM := s.hM
    have hm : MapIs w mb N := by
      rcases s.mp with ⟨h, _⟩ | ⟨m, h, h2⟩
      · cases h
      · cases h; exact h2
    have hc : ∃ c : Int, ∀ q, (Instr.lookup 65 (.map (some mb)) (.agg #[.int .i64 n.op, .int .i64 n.wd, .int .i64 n.a, .int .i64 n.b, .int .i64 n.c, .int .u64 n.v]) true).run Tryd.prog ((w.alloc (.cells #[.int .i64 n.op, .int .i64 n.wd, .int .i64 n.a, .int .i64 n.b, .int .i64 n.c, .int .u64 n.v] 63)).drewN q) = .ok (.tuple #[.int .i64 c, .bool false]) ((w.alloc (.cells #[.int .i64 n.op, .int .i64 n.wd, .int .i64 n.a, .int .i64 n.b, .int .i64 n.c, .int .u64 n.v] 63)).drewN q) := by
      refine ⟨0, fun q => ?_⟩
      exact (hm.same (w' := (w.alloc (.cells #[.int .i64 n.op, .int .i64 n.wd, .int .i64 n.a, .int .i64 n.b, .int .i64 n.c, .int .u64 n.v] 63)).drewN q) (by show (w.alloc _).heap[mb]? = _; exact b1.block _ hm.lt)).look_no hf hn
    obtain ⟨c, hc⟩ := hc
    have HN := hid hn
    have c2 := HS.out.c2
    have c0 := HS.out.c0
    have hd := cell_lt c2
    simp only [] at hd
    rw [e2, e3]
    have hl' : decide ((k.M : Int) ≤ N.length) = false := by simp; omega
    have HL := hid hl
    have bx : (w.alloc (.cells #[.int .i64 n.op, .int .i64 n.wd, .int .i64 n.a, .int .i64 n.b, .int .i64 n.c, .int .u64 n.v] 63)).heap[w.heap.size]? = some (.cells #[.int .i64 n.op, .int .i64 n.wd, .int .i64 n.a, .int .i64 n.b, .int .i64 n.c, .int .u64 n.v] 63 (0, 0)) := new_same w _
    clear s e1 e2 e3 b1 hn hl
    go_enter Tryd.func25, Tryd.ntmps25
    go_wp2
    obtain ⟨x0, x1, x2, x3, x4, x5⟩ := box6 bx
    generalize (w.alloc (.cells #[.int .i64 n.op, .int .i64 n.wd, .int .i64 n.a, .int .i64 n.b, .int .i64 n.c, .int .u64 n.v] 63)) = w1 at *
    generalize w.heap.size = bb at *
    go_quiet (fail)
    go_wp2
    have B2 := hid (drewN_any w1.heap.size w1 nq)
    revert B2
    generalize w1.drewN nq = w2
    intro B2
    have S2 := hid (HS.out.below B2.out)
    have c0 := S2.out.c0
    go_quiet ((go_at_call 19; refine Calls.quiet_of_same (len_raw (S2.out.drewN _))))
    have B3 := hid (drewN_any w2.heap.size w2 nq)
    revert B3
    generalize w2.drewN nq = w3
    intro B3
    have S3 := hid (S2.out.below B3.out)
    have bx3 : w3.heap[bb]? = some (.cells #[.int .i64 n.op, .int .i64 n.wd, .int .i64 n.a, .int .i64 n.b, .int .i64 n.c, .int .u64 n.v] 63 (0, 0)) := by rw [B3.out.block _ (by have := blk_lt bx; have := B2.out.size; omega), B2.out.block _ (blk_lt bx)]; exact bx
    have F3 : Hid (Fr P P w w3) := hid ((F1.out.trans (Fr.below B2.out)).trans (Fr.below B3.out))
    clear x0 x1 x2 x3 x4 x5 HS S2 hc F1 B2 B3
    clear c0
    clear c2
    clear c0
    obtain ⟨ao, cc, rfl, _⟩ := own_shape6 S3.out.ow
    have c2 := S3.out.c2
    have hd3 := cell_lt c2
    have cf2 := S3.out.cf 2
    have hq := map_some mb
    obtain ⟨y0, y1, y2, y3, y4, y5⟩ := box6 bx3
    have m3 : MapIs w3 mb N := by
      rcases S3.out.mp with ⟨h, _⟩ | ⟨m, h, h2⟩
      · cases h
      · cases h; exact h2
    obtain ⟨w5, hu, m5, g5⟩ := (m3.same (w' := w3.drew) rfl).put hf HN.out (by have := HL.out; omega)
    unfold ndV at hu
    have G5 : Hid (w3.grownBy w5 (some mb)) := hid ⟨g5.os, g5.tape, g5.output, g5.size, g5.block⟩
    have M5 := hid m5
    have hne1 : ¬ bb = mb := by
      rintro rfl
      obtain ⟨es, cl, h⟩ := m3.isMap
      rw [bx3] at h; simp at h
    have c5 : w5.cell? ⟨k.DB, 1, none⟩ = some (.slice ao N.length cc) := by
      have := G5.out.block k.DB (blk_lt S3.out.cl) (fun e => S3.out.ne_map e.symm)
      rw [cell_of (this.trans S3.out.cl)]; rfl
    have bx5 : w5.heap[bb]? = some (.cells #[.int .i64 n.op, .int .i64 n.wd, .int .i64 n.a, .int .i64 n.b, .int .i64 n.c, .int .u64 n.v] 63 (0, 0)) := by rw [G5.out.block bb (blk_lt bx3) (fun e => hne1 (Option.some.inj e))]; exact bx3
    obtain ⟨z0, z1, z2, z3, z4, z5⟩ := box6 bx5
    have O5 : Hid (w5.ownsRow 0 63 6 (.slice ao N.length cc) N.length (flat N)) := hid (own_keep S3.out.ow G5.out (fun j hj e => S3.out.ne_both hj e))
    have hd5 := cell_lt c5
    have hb5 := cell_lt z0
    simp only [] at hd5 hb5
    have hL := HL.out
    clear m5 g5 m3 bx bx3 bx5
    have c2 := S3.out.c2
    go_wp2_with (go_at_call 19; with_reducible (refine (len_raw S3.out).mono ?_); rintro e w4 ⟨rfl, rfl⟩)
    go_region
    all_goals clear hu y0 y1 y2 y3 y4 y5 c2
    all_goals go_wp2
    all_goals go_region_law (refine step_node (w1 := w5) rfl _ _ rfl n rfl (.slice ao N.length cc) N rfl O5.out _ rfl (by simp) (by omega) ?_; intro v7 w7 own7 g7 new7; obtain ⟨g8, c8, rfl⟩ := own_some own7.out; have r7 := S3.out.noded M5.out G5.out HL.out own7.out g7.out new7.out; obtain ⟨r8, f8, d7, d8⟩ := r7)
    all_goals go_wp2
    all_goals go_ret2
    all_goals exact ⟨rfl, _, _, _, by rw [E1.out]; exact r8, F3.out.trans f8⟩
  · exact absurd hl h

set_option maxHeartbeats 4000000 in
theorem num_first {k : K} {w : World} {N : List Nd} {ws : List Int} {nv : Value} {P : Nat → Prop} (s : Raw k w N ws nv none P) (n : Nd) (hf : Ft n) (hn : n ∉ N) (hl : N.length < k.M) :
    Calls Tryd.prog 25 #[.pointer (some ⟨k.DB, 0, none⟩), .agg #[.int .i64 n.op, .int .i64 n.wd, .int .i64 n.a, .int .i64 n.b, .int .i64 n.c, .int .u64 n.v]] w fun e w' => e = .returned (.tuple #[.int .i64 (mkI k.M N n), .int .i64 (mkE k.M N n)]) ∧ NumEnd k ws N P n w w' := by
  rcases mkN_cases k.M N n with ⟨h, _⟩ | ⟨_, _, e1, e2, e3⟩ | ⟨_, h, _⟩
  · exact absurd h hn
  · have b1 : Below w.heap.size w (w.alloc (.cells #[.int .i64 n.op, .int .i64 n.wd, .int .i64 n.a, .int .i64 n.b, .int .i64 n.c, .int .u64 n.v] 63)) := by go_grown
    have E1 := hid e1
    have F1 : Hid (Fr P P w (w.alloc (.cells #[.int .i64 n.op, .int .i64 n.wd, .int .i64 n.a, .int .i64 n.b, .int .i64 n.c, .int .u64 n.v] 63))) := hid (Fr.below b1)
    have HS := hid (s.below b1)
    have hM := s.hM
    have hc : ∃ c : Int, ∀ q, (Instr.lookup 65 (.map none) (.agg #[.int .i64 n.op, .int .i64 n.wd, .int .i64 n.a, .int .i64 n.b, .int .i64 n.c, .int .u64 n.v]) true).run Tryd.prog ((w.alloc (.cells #[.int .i64 n.op, .int .i64 n.wd, .int .i64 n.a, .int .i64 n.b, .int .i64 n.c, .int .u64 n.v] 63)).drewN q) = .ok (.tuple #[.int .i64 c, .bool false]) ((w.alloc (.cells #[.int .i64 n.op, .int .i64 n.wd, .int .i64 n.a, .int .i64 n.b, .int .i64 n.c, .int .u64 n.v] 63)).drewN q) := ⟨0, fun q => look_none hf⟩
    obtain ⟨c, hc⟩ := hc
    have HN := hid hn
    have c2 := HS.out.c2
    have c0 := HS.out.c0
    have hd := cell_lt c2
    simp only [] at hd
    rw [e2, e3]
    have hl' : decide ((k.M : Int) ≤ N.length) = false := by simp; omega
    have HL := hid hl
    have bx : (w.alloc (.cells #[.int .i64 n.op, .int .i64 n.wd, .int .i64 n.a, .int .i64 n.b, .int .i64 n.c, .int .u64 n.v] 63)).heap[w.heap.size]? = some (.cells #[.int .i64 n.op, .int .i64 n.wd, .int .i64 n.a, .int .i64 n.b, .int .i64 n.c, .int .u64 n.v] 63 (0, 0)) := new_same w _
    clear s e1 e2 e3 b1 hn hl
    go_enter Tryd.func25, Tryd.ntmps25
    go_wp2
    obtain ⟨x0, x1, x2, x3, x4, x5⟩ := box6 bx
    generalize (w.alloc (.cells #[.int .i64 n.op, .int .i64 n.wd, .int .i64 n.a, .int .i64 n.b, .int .i64 n.c, .int .u64 n.v] 63)) = w1 at *
    generalize w.heap.size = bb at *
    go_quiet (fail)
    go_wp2
    have B2 := hid (drewN_any w1.heap.size w1 nq)
    revert B2
    generalize w1.drewN nq = w2
    intro B2
    have S2 := hid (HS.out.below B2.out)
    have c0 := S2.out.c0
    go_quiet ((go_at_call 19; refine Calls.quiet_of_same (len_raw (S2.out.drewN _))))
    have B3 := hid (drewN_any w2.heap.size w2 nq)
    revert B3
    generalize w2.drewN nq = w3
    intro B3
    have S3 := hid (S2.out.below B3.out)
    have bx3 : w3.heap[bb]? = some (.cells #[.int .i64 n.op, .int .i64 n.wd, .int .i64 n.a, .int .i64 n.b, .int .i64 n.c, .int .u64 n.v] 63 (0, 0)) := by rw [B3.out.block _ (by have := blk_lt bx; have := B2.out.size; omega), B2.out.block _ (blk_lt bx)]; exact bx
    have F3 : Hid (Fr P P w w3) := hid ((F1.out.trans (Fr.below B2.out)).trans (Fr.below B3.out))
    clear x0 x1 x2 x3 x4 x5 HS S2 hc F1 B2 B3
    clear c0
    clear c2
    clear c0
    obtain ⟨ao, cc, rfl, _⟩ := own_shape6 S3.out.ow
    have c2 := S3.out.c2
    have hd3 := cell_lt c2
    have cf2 := S3.out.cf 2
    have hq := map_nil
    have hmk := make56 w3
    have hsw : (w3.alloc (.map #[] 0)).setCell ⟨k.DB, 2, none⟩ (.map (some w3.heap.size)) = (w3.setCell ⟨k.DB, 2, none⟩ (.map (some w3.heap.size))).alloc (.map #[] 0) := World.setCell_alloc_past _ _ _ _ hd3
    have S4 := hid S3.out.mapped.1
    have F4 := hid (F3.out.trans S3.out.mapped.2)
    have bx4 : ((w3.alloc (.map #[] 0)).setCell ⟨k.DB, 2, none⟩ (.map (some w3.heap.size))).heap[bb]? = some (.cells #[.int .i64 n.op, .int .i64 n.wd, .int .i64 n.a, .int .i64 n.b, .int .i64 n.c, .int .u64 n.v] 63 (0, 0)) := by
      have h1 := blk_lt bx3
      rw [set_other _ (by show bb ≠ k.DB; rintro rfl; rw [S3.out.cl] at bx3; simp at bx3), (grown_new w3 (.map #[] 0) none).block _ h1 (by simp)]; exact bx3
    rw [hsw] at S4 F4 bx4
    clear hsw
    go_wp2_with (go_at_call 19; with_reducible (refine (len_raw S4.out).mono ?_); rintro e w4 ⟨rfl, rfl⟩)
    clear c2 cf2 hd3 S3 F3 bx3 hmk
    revert S4 F4 bx4
    generalize (w3.setCell ⟨k.DB, 2, none⟩ (.map (some w3.heap.size))).alloc (.map #[] 0) = w4
    generalize w3.heap.size = mb
    intro S3 F3 bx3
    obtain ⟨y0, y1, y2, y3, y4, y5⟩ := box6 bx3
    have m3 : MapIs w4 mb N := by
      rcases S3.out.mp with ⟨h, _⟩ | ⟨m, h, h2⟩
      · cases h
      · cases h; exact h2
    obtain ⟨w5, hu, m5, g5⟩ := (m3.same (w' := w4.drew) rfl).put hf HN.out (by have := HL.out; omega)
    unfold ndV at hu
    have G5 : Hid (w4.grownBy w5 (some mb)) := hid ⟨g5.os, g5.tape, g5.output, g5.size, g5.block⟩
    have M5 := hid m5
    have hne1 : ¬ bb = mb := by
      rintro rfl
      obtain ⟨es, cl, h⟩ := m3.isMap
      rw [bx3] at h; simp at h
    have c5 : w5.cell? ⟨k.DB, 1, none⟩ = some (.slice ao N.length cc) := by
      have := G5.out.block k.DB (blk_lt S3.out.cl) (fun e => S3.out.ne_map e.symm)
      rw [cell_of (this.trans S3.out.cl)]; rfl
    have bx5 : w5.heap[bb]? = some (.cells #[.int .i64 n.op, .int .i64 n.wd, .int .i64 n.a, .int .i64 n.b, .int .i64 n.c, .int .u64 n.v] 63 (0, 0)) := by rw [G5.out.block bb (blk_lt bx3) (fun e => hne1 (Option.some.inj e))]; exact bx3
    obtain ⟨z0, z1, z2, z3, z4, z5⟩ := box6 bx5
    have O5 : Hid (w5.ownsRow 0 63 6 (.slice ao N.length cc) N.length (flat N)) := hid (own_keep S3.out.ow G5.out (fun j hj e => S3.out.ne_both hj e))
    have hd5 := cell_lt c5
    have hb5 := cell_lt z0
    simp only [] at hd5 hb5
    have hL := HL.out
    clear m5 g5 m3 bx bx3 bx5
    have c2 := S3.out.c2
    go_region
    all_goals clear hu y0 y1 y2 y3 y4 y5 c2
    all_goals go_wp2
    all_goals go_region_law (refine step_node (w1 := w5) rfl _ _ rfl n rfl (.slice ao N.length cc) N rfl O5.out _ rfl (by simp) (by omega) ?_; intro v7 w7 own7 g7 new7; obtain ⟨g8, c8, rfl⟩ := own_some own7.out; have r7 := S3.out.noded M5.out G5.out HL.out own7.out g7.out new7.out; obtain ⟨r8, f8, d7, d8⟩ := r7)
    all_goals go_wp2
    all_goals go_ret2
    all_goals exact ⟨rfl, _, _, _, by rw [E1.out]; exact r8, F3.out.trans f8⟩
  · exact absurd hl h

/-- Whatever term is asked for. -/
theorem num_any {k : K} {w : World} {N : List Nd} {ws : List Int} {nv : Value} {mo : Option Nat} {P : Nat → Prop} (s : Raw k w N ws nv mo P) (n : Nd) (hf : Ft n) :
    Calls Tryd.prog 25 #[.pointer (some ⟨k.DB, 0, none⟩), .agg #[.int .i64 n.op, .int .i64 n.wd, .int .i64 n.a, .int .i64 n.b, .int .i64 n.c, .int .u64 n.v]] w fun e w' => e = .returned (.tuple #[.int .i64 (mkI k.M N n), .int .i64 (mkE k.M N n)]) ∧ NumEnd k ws N P n w w' := by
  by_cases hn : n ∈ N
  · exact num_there s n hf hn
  · by_cases hl : N.length < k.M
    · cases mo with
      | none => exact num_first s n hf hn hl
      | some mb => exact num_more s n hf hn hl
    · exact num_full s n hf hn hl

/-- .. a term that is no variable, in a dag. -/
theorem num_dag {k : K} {w : World} {N : List Nd} {P : Nat → Prop} (s : Dg k w N P) (n : Nd) (hf : Ft n) (ho : n.op ≠ 21) (hw : 1 ≤ n.wd ∧ n.wd ≤ 64) :
    Calls Tryd.prog 25 #[.pointer (some ⟨k.DB, 0, none⟩), .agg #[.int .i64 n.op, .int .i64 n.wd, .int .i64 n.a, .int .i64 n.b, .int .i64 n.c, .int .u64 n.v]] w fun e w' => e = .returned (.tuple #[.int .i64 (mkI k.M N n), .int .i64 (mkE k.M N n)]) ∧ Hid (∃ P', Dg k w' (mkN k.M N n) P' ∧ Fr P P' w w') := by
  obtain ⟨g, nv, mo, s⟩ := s
  refine (num_any s n hf).mono fun e w' h => ?_
  obtain ⟨rfl, nv', mo', P', r, f⟩ := h
  exact ⟨rfl, hid ⟨P', ⟨gd_mk g hf hw (fun e => absurd e ho), nv', mo', by rw [wids_other ho]; exact r⟩, f⟩⟩

end Go.Proofs.YtefielnmlekhaaaDoor
