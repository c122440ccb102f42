/-
  The document's below, Size, Value, Vars; the walk of SemValues.
-/
import Derived.Test.YtbekgejbgmdbdaaOz
import Derived.Laws.MakeOwn
import Derived.Test.YtbekgejbgmdbdaaFw
import Derived.Deep.RegionHeld3
namespace Go.Proofs.Ytbekgejbgmdbdaa
section
open Go.RowKit Go.Maps
set_option linter.unusedVariables false
set_option maxRecDepth 20000

/-! ### kids -/
theorem kids_any (n : Nd) (hf : Ft n) {N : List Nd} {i : Nat} (hS : Shp N i n) (w : World) : Calls Try.prog 66 #[.agg #[.int .i64 n.op, .int .i64 n.wd, .int .i64 n.a, .int .i64 n.b, .int .i64 n.c, .int .u64 n.v]] w fun e w' =>
    ∃ ao c, e = .returned (.slice ao (ksF n).length c) ∧ Hid (Ls.Row w' ao (ksF n).length c (ksF n)) ∧ Hid (Below w.heap.size w w') ∧ Hid (∀ ad, ao = some ad → w.heap.size ≤ ad.block) := by
  have HF := hid (ks_in hf)
  have hop : (n.op = 20 ∨ n.op = 21) ∨ n.op = 22 ∨ (n.op = 15 ∨ n.op = 16 ∨ n.op = 23 ∨ n.op = 25 ∨ n.op = 26) ∨ ((1 ≤ n.op ∧ n.op ≤ 14) ∨ n.op = 24) := by
    rcases hS with ⟨e, _⟩ | ⟨e, _⟩ | ⟨e, _⟩ | ⟨e, _⟩ | ⟨e, _⟩ | ⟨e, _⟩ | ⟨e, _⟩ | ⟨e, _⟩ <;> omega
  clear hf hS
  obtain ⟨op, wd, a, b, c, v⟩ := n
  simp only [] at hop ⊢
  rcases hop with e | e | e | e
  · have HK : Hid (ksF ⟨op, wd, a, b, c, v⟩ = []) := hid (ks_none (by simpa using e))
    rw [HK.out]
    clear HF HK
    rcases e with rfl | rfl
    all_goals
      go_enter Try.func66, Try.ntmps66
      go_wp2
      go_ret
      exact ⟨none, 0, rfl, hid (row_nil _), hid (by go_grown), hid (fun ad h => by cases h)⟩
  · have HK : Hid (ksF ⟨op, wd, a, b, c, v⟩ = [a, b, c]) := hid (ks_ite (by simpa using e))
    rw [HK.out] at HF ⊢
    subst e
    clear HK
    go_enter Try.func66, Try.ntmps66
    go_wp2
    go_ret
    exact ⟨_, 3, rfl, hid (row_new _ [a, b, c] HF.out (by simp) (by simp)), hid (by go_grown), hid (fun ad h => by cases h; simp)⟩
  · have HK : Hid (ksF ⟨op, wd, a, b, c, v⟩ = [a]) := hid (ks_one (by simpa using e))
    rw [HK.out] at HF ⊢
    clear HK
    rcases e with rfl | rfl | rfl | rfl | rfl
    all_goals
      go_enter Try.func66, Try.ntmps66
      go_wp2
      go_ret
      exact ⟨_, 1, rfl, hid (row_new _ [a] HF.out (by simp) (by simp)), hid (by go_grown), hid (fun ad h => by cases h; simp)⟩
  · have HK : Hid (ksF ⟨op, wd, a, b, c, v⟩ = [a, b]) := hid (ks_two (by simpa using e))
    rw [HK.out] at HF ⊢
    clear HK
    rcases e with e | rfl
    · have e2 := e.2
      clear e
      go_enter Try.func66, Try.ntmps66
      go_wp2
      go_ret
      exact ⟨_, 2, rfl, hid (row_new _ [a, b] HF.out (by simp) (by simp)), hid (by go_grown), hid (fun ad h => by cases h; simp)⟩
    · go_enter Try.func66, Try.ntmps66
      go_wp2
      go_ret
      exact ⟨_, 2, rfl, hid (row_new _ [a, b] HF.out (by simp) (by simp)), hid (by go_grown), hid (fun ad h => by cases h; simp)⟩

/-! ### marks -/
def mk1 (bs : List Bool) (k : Int) : List Bool := bs.set k.toNat true
def mkAll (bs : List Bool) (ks : List Int) : List Bool := ks.foldl mk1 bs
theorem mkAll_len (ks : List Int) (bs : List Bool) : (mkAll bs ks).length = bs.length := by
  induction ks generalizing bs with
  | nil => rfl
  | cons k ks ih => simp only [mkAll, List.foldl_cons]; rw [show List.foldl mk1 (mk1 bs k) ks = mkAll (mk1 bs k) ks from rfl, ih]; simp [mk1]
theorem mkAll_step {ks : List Int} {bs : List Bool} {q : Nat} {y : Int} (hy : ks[q]? = some y) : mkAll bs (ks.take (q + 1)) = (mkAll bs (ks.take q)).set y.toNat true := by
  unfold mkAll
  rw [List.take_add_one, hy, List.foldl_append]
  rfl
def bAt (bs : List Bool) (j : Nat) : Bool := bs.getD j false
theorem bAt_set (bs : List Bool) (k j : Nat) : bAt (bs.set k true) j = (bAt bs j || (decide (k = j) && decide (j < bs.length))) := by
  unfold bAt
  by_cases e : k = j
  · subst e
    by_cases h : k < bs.length
    · simp [h]
    · simp [h, List.set_eq_of_length_le (Nat.le_of_not_lt h)]
  · simp [List.getElem?_set_ne e, e]
theorem bAt_all (ks : List Int) (bs : List Bool) (j : Nat) : bAt (mkAll bs ks) j = true ↔ bAt bs j = true ∨ (j < bs.length ∧ ∃ k ∈ ks, k.toNat = j) := by
  induction ks generalizing bs with
  | nil => simp [mkAll]
  | cons k ks ih =>
    simp only [mkAll, List.foldl_cons]
    rw [show List.foldl mk1 (mk1 bs k) ks = mkAll (mk1 bs k) ks from rfl, ih]
    unfold mk1
    rw [bAt_set]
    simp
    constructor
    · rintro ((h | ⟨h1, h2⟩) | ⟨h1, h2⟩)
      · exact .inl h
      · exact .inr ⟨h2, .inl h1⟩
      · exact .inr ⟨h1, .inr h2⟩
    · rintro (h | ⟨h1, h2 | h2⟩)
      · exact .inl (.inl h)
      · exact .inl (.inr ⟨h2, h1⟩)
      · exact .inr ⟨h1, h2⟩

/-- All terms from r on are looked at. -/
structure BI (N : List Nd) (id r : Nat) (bs : List Bool) (out : List Nat) : Prop where
  ln : bs.length = id + 1
  mk' : ∀ j, bAt bs j = true → Rch N id j
  self : bAt bs id = true
  cl : ∀ j, r ≤ j → bAt bs j = true → ∀ k ∈ ksF (ndA N j), bAt bs k.toNat = true
  nd : out.Nodup
  ot : ∀ j, j ∈ out ↔ (r ≤ j ∧ bAt bs j = true)

section
variable {N : List Nd} {id r : Nat} {bs : List Bool} {out : List Nat}

theorem bAt_len {bs : List Bool} {j : Nat} (h : bAt bs j = true) : j < bs.length := by
  by_cases e : j < bs.length
  · exact e
  · unfold bAt at h
    rw [List.getD_eq_getElem?_getD, List.getElem?_eq_none (by omega)] at h
    cases h

theorem BI.start (N : List Nd) (id : Nat) : BI N id (id + 1) ((List.replicate (id + 1) false).set id true) [] := by
  have hb : ∀ j, bAt ((List.replicate (id + 1) false).set id true) j = true → j = id := by
    intro j hj
    rw [bAt_set] at hj
    simp only [Bool.or_eq_true, Bool.and_eq_true, decide_eq_true_eq] at hj
    rcases hj with hj | hj
    · unfold bAt at hj
      rw [List.getD_eq_getElem?_getD, List.getElem?_replicate] at hj
      split at hj <;> simp at hj
    · exact hj.1.symm
  refine ⟨by simp, fun j hj => by rw [hb j hj]; exact Rch.refl _ _, by rw [bAt_set]; simp, fun j hj h => ?_, List.nodup_nil, fun j => ?_⟩
  · have := hb j h; omega
  · simp
    intro h1
    cases e : bAt ((List.replicate (id + 1) false).set id true) j
    · rfl
    · have := hb j e; omega

theorem BI.skip (h : BI N id (r + 1) bs out) (hr : bAt bs r = false) : BI N id r bs out := by
  have key : ∀ j, r ≤ j → bAt bs j = true → r + 1 ≤ j := by
    intro j hj hb
    by_cases e : j = r
    · subst e; rw [hr] at hb; cases hb
    · omega
  exact ⟨h.ln, h.mk', h.self, fun j hj hb => h.cl j (key j hj hb) hb, h.nd, fun j => by rw [h.ot]; exact ⟨fun g => ⟨by omega, g.2⟩, fun g => ⟨key j g.1 g.2, g.2⟩⟩⟩

theorem BI.take (wl : Wl N) (g : Gd N) (hi : id < N.length) (h : BI N id (r + 1) bs out) (hr : bAt bs r = true) : BI N id r (mkAll bs (ksF (ndA N r))) (out ++ [r]) := by
  have hrl := bAt_len hr
  have hln := h.ln
  have hka := ks_ahead (wl.shp g (show r < N.length by omega))
  have hrr := h.mk' r hr
  have old : ∀ j, r ≤ j → bAt (mkAll bs (ksF (ndA N r))) j = true → bAt bs j = true := by
    intro j hj hb
    rcases (bAt_all _ _ _).1 hb with hb | ⟨_, k, hk, e⟩
    · exact hb
    · obtain ⟨k0, k1⟩ := hka k hk
      omega
  refine ⟨by rw [mkAll_len]; exact h.ln, fun j hj => ?_, (bAt_all _ _ _).2 (.inl h.self), fun j hj hb k hk => ?_, ?_, fun j => ?_⟩
  · rcases (bAt_all _ _ _).1 hj with hb | ⟨_, k, hk, e⟩
    · exact h.mk' j hb
    · rw [← e]; exact hrr.step hk
  · have ho := old j hj hb
    by_cases e : j = r
    · subst e
      obtain ⟨k0, k1⟩ := hka k hk
      exact (bAt_all _ _ _).2 (.inr ⟨by omega, k, hk, rfl⟩)
    · exact (bAt_all _ _ _).2 (.inl (h.cl j (by omega) ho k hk))
  · rw [List.nodup_append]
    refine ⟨h.nd, by simp, fun a ha b hb => ?_⟩
    simp at hb; subst hb
    intro e; subst e
    have := (h.ot a).1 ha
    omega
  · rw [List.mem_append, h.ot]
    simp only [List.mem_singleton]
    constructor
    · rintro (⟨h1, h2⟩ | rfl)
      · exact ⟨by omega, (bAt_all _ _ _).2 (.inl h2)⟩
      · exact ⟨Nat.le_refl _, (bAt_all _ _ _).2 (.inl hr)⟩
    · rintro ⟨h1, h2⟩
      have ho := old j h1 h2
      by_cases e : j = r
      · exact .inr e
      · exact .inl ⟨by omega, ho⟩

theorem BI.done (h : BI N id 0 bs out) : BelL N id out := by
  refine ⟨h.nd, fun j => ⟨fun hj => h.mk' j ((h.ot j).1 hj).2, fun hj => (h.ot j).2 ⟨Nat.zero_le _, ?_⟩⟩⟩
  exact hj (fun m => bAt bs m = true) h.self fun m hm k hk => h.cl m (Nat.zero_le _) hm k hk

theorem BI.few (h : BI N id r bs out) : out.length ≤ id + 1 := nodup_le h.nd fun j hj => by
  have := bAt_len ((h.ot j).1 hj).2
  rw [h.ln] at this; exact this
end

theorem Try.info4 : (Try.prog.info? 4).map (fun i => (i.zero, i.size, i.bytes)) = some (some (.bool false), 1, 1) := by kernel_rfl
def bC (bs : List Bool) : List Value := bs.map Value.bool
theorem made_bools (n : Nat) : madeCells #[.bool false] n = (bC (List.replicate n false)).toArray := by
  apply Array.toList_inj.1
  apply List.ext_getElem
  · simp [madeCells, bC]
  · intro i h1 h2
    simp [madeCells, bC, Nat.mod_one]

theorem makeB (n : Nat) (hn : n ≤ 1000000) {c : Int} (hc : c = (n : Int)) (w : World) : (Instr.makeSlice 102 (.int .i64 c) (.int .i64 c)).run Try.prog w = .ok (.slice (some ⟨w.heap.size, 0, none⟩) n n) (w.alloc (.cells (bC (List.replicate n false)).toArray 4)) := by
  subst hc
  obtain ⟨i0, hi, hz0, hz1, hz2⟩ := info_parts Try.info4
  have := run_make (P := Try.prog) w 102 4 i0 (.bool false) Try.underlying102 hi hz0 .i64 .i64 n n (by omega) (Int.le_refl _) (by rw [hz2]; omega) (by omega)
  rw [this, hz1, ← made_bools]
  simp [Value.cells]

end
end Go.Proofs.Ytbekgejbgmdbdaa

namespace Go.Proofs.Ytbekgejbgmdbdaa
section
open Go.RowKit Go.Maps
set_option linter.unusedVariables false
set_option maxRecDepth 20000

structure BM (w0 : World) (N : List Nd) (ao : Option Addr) (c M XB ib : Nat) (bs : List Bool) (out : List Nat) (v : Value) (wr : World) : Prop where
  be : Below w0.heap.size w0 wr
  xb : wr.heap[XB]? = some (.cells #[.slice ao N.length c, .int .i64 M] 28 (0, 0))
  im : wr.heap[ib]? = some (.cells (bC bs).toArray 4 (0, 0))
  iw : w0.heap.size ≤ ib
  ow : wr.ownsRow w0.heap.size 3 1 v out.length (stC out)

section
variable {w0 wr w2 : World} {N : List Nd} {ao : Option Addr} {c M XB ib : Nat} {bs : List Bool} {out : List Nat} {v : Value}

theorem BM.below (h : BM w0 N ao c M XB ib bs out v wr) (b : Below wr.heap.size wr w2) : BM w0 N ao c M XB ib bs out v w2 :=
  ⟨Below.next h.be b, by rw [b.block _ (blk_lt h.xb)]; exact h.xb, by rw [b.block _ (blk_lt h.im)]; exact h.im, h.iw, own_keep h.ow (grown_below b) (fun j hj => by cases hj)⟩
theorem BM.two (h : BM w0 N ao c M XB ib bs out v wr) : wr.cell? ⟨XB, 0, none⟩ = some (.slice ao N.length c) ∧ wr.cell? ⟨XB, 1, none⟩ = some (.int .i64 M) := two_of h.xb
theorem BM.cell (h : BM w0 N ao c M XB ib bs out v wr) {j : Nat} (hj : j < bs.length) {b : Bool} (hb : bAt bs j = b) : wr.cell? ⟨ib, j, none⟩ = some (.bool b) ∧ wr.frozen? ⟨ib, j, none⟩ = false := by
  subst hb
  refine ⟨?_, frozen_of h.im⟩
  rw [cell_of h.im]
  simp [bC, bAt, hj]
theorem BM.mark (h : BM w0 N ao c M XB ib bs out v wr) (j : Nat) : BM w0 N ao c M XB ib (bs.set j true) out v (wr.setCell ⟨ib, j, none⟩ (.bool true)) := by
  have g := grown_set wr ⟨ib, j, none⟩ (.bool true)
  have hx : XB ≠ ib := by
    intro e
    have := h.xb
    rw [e, h.im] at this
    simp at this
  refine ⟨h.be.grown g h.be.size (fun i hi => by cases hi; exact h.iw), by rw [set_other _ (by simpa using hx)]; exact h.xb, ?_, h.iw, own_keep h.ow g fun i hi e => ?_⟩
  · rw [set_same h.im]
    simp [bC, List.map_set]
  · cases hi
    obtain ⟨_, cur, hc⟩ := own_type h.ow e
    rw [h.im] at hc
    simp at hc
theorem BM.push (h : BM w0 N ao c M XB ib bs out v wr) {x : Nat} {w3 : World} {v3 : Value} {o : Obj} (g : (wr.alloc o).grownBy w3 v.ownBlock) (ow : w3.ownsRow w0.heap.size 3 1 v3 (out.length + 1) (stC out ++ [.int .i64 (x : Int)])) : BM w0 N ao c M XB ib bs (out ++ [x]) v3 w3 := by
  have h1 := h.below (new_b wr o)
  have hne : ∀ {j : Nat} {cc : Array Value} {t : TypeId}, (wr.alloc o).heap[j]? = some (.cells cc t (0, 0)) → t ≠ 3 → w3.heap[j]? = (wr.alloc o).heap[j]? := by
    intro j cc t hj ht
    refine g.block j (blk_lt hj) fun e => ?_
    obtain ⟨_, cur, hc⟩ := own_type h1.ow e.symm
    rw [hj] at hc
    simp at hc
    exact ht hc.2
  refine ⟨h1.be.grown g h1.be.size (fun j hj => (own_type h1.ow hj).1), by rw [hne h1.xb (by decide)]; exact h1.xb, by rw [hne h1.im (by decide)]; exact h1.im, h.iw, ?_⟩
  rw [stC_snoc]; simpa using ow
end

theorem rd_cells {w : World} {gg c : Nat} {N : List Nd} (h : RD w (some ⟨gg, 0, none⟩) c N) {i : Nat} (hi : i < N.length) {n : Nd} (hn : ndA N i = n) : w.cell? ⟨gg, i * 6, none⟩ = some (.int .i64 n.op) ∧ w.cell? ⟨gg, i * 6 + 1, none⟩ = some (.int .i64 n.wd) ∧ w.cell? ⟨gg, i * 6 + 2, none⟩ = some (.int .i64 n.a) ∧ w.cell? ⟨gg, i * 6 + 3, none⟩ = some (.int .i64 n.b) ∧ w.cell? ⟨gg, i * 6 + 4, none⟩ = some (.int .i64 n.c) ∧ w.cell? ⟨gg, i * 6 + 5, none⟩ = some (.int .u64 n.v) := by
  subst hn
  obtain ⟨g, e, h0, h1, h2, h3, h4, h5⟩ := h.at hi
  cases e
  exact ⟨h0, h1, h2, h3, h4, h5⟩

theorem bm_start {w0 w2 : World} {N : List Nd} {ao : Option Addr} {c M XB L id : Nat} (b : Below w0.heap.size w0 w2) (xb : w2.heap[XB]? = some (.cells #[.slice ao N.length c, .int .i64 M] 28 (0, 0))) :
    BM w0 N ao c M XB w2.heap.size ((List.replicate L false).set id true) [] (.slice none 0 0) (w2.alloc (.cells ((bC (List.replicate L false)).set id (.bool true)).toArray 4)) := by
  have b2 := new_b w2 (.cells ((bC (List.replicate L false)).set id (.bool true)).toArray 4)
  have e : (bC (List.replicate L false)).set id (.bool true) = bC ((List.replicate L false).set id true) := by simp [bC, List.map_set]
  exact ⟨Below.next b b2, by rw [b2.block _ (blk_lt xb)]; exact xb, by rw [← e]; exact new_same _ _, b.size, World.ownsRow_nil _ _ _ _⟩

def BelEnd (w : World) (N : List Nd) (id : Nat) (e : Ending) (w' : World) : Prop := ∃ (B : List Nat) (ao : Option Addr) (c : Nat), e = .returned (.slice ao B.length c) ∧ Hid (BelL N id B) ∧ Hid (Ls.Row w' ao B.length c (B.map fun (n : Nat) => (n : Int))) ∧ Hid (Below w.heap.size w w')
theorem BelEnd.out {w : World} {N : List Nd} {id : Nat} {e : Ending} {w' : World} (h : BelEnd w N id e w') : ∃ (B : List Nat) (ao : Option Addr) (c : Nat), e = .returned (.slice ao B.length c) ∧ Hid (BelL N id B) ∧ Hid (Ls.Row w' ao B.length c (B.map fun (n : Nat) => (n : Int))) ∧ Hid (Below w.heap.size w w') := h

theorem row_own {w : World} {B : Nat} {v : Value} {S : List Nat} (h : w.ownsRow B 3 1 v S.length (stC S)) (hs : ∀ j ∈ S, j ≤ 1000000) : ∃ ao c, v = .slice ao S.length c ∧ Ls.Row w ao S.length c (S.map fun (n : Nat) => (n : Int)) := by
  have hf : Ls.Fit (S.map fun (n : Nat) => (n : Int)) := by
    intro x hx
    obtain ⟨j, hj, rfl⟩ := List.mem_map.1 hx
    have := hs j hj
    omega
  rcases h.2 with ⟨rfl, hn⟩ | ⟨g, cap, cur, rfl, hb, hg, hl, hm, hs2, ht⟩
  · exact ⟨none, 0, by rw [hn], by simp, by omega, by unfold maxLen; omega, fun _ => rfl, hf, fun h0 => by omega⟩
  · refine ⟨_, cap, rfl, by simp, hl, hm, fun e => by simp at e, hf, fun _ => ⟨g, 0, rfl, fun j hj => ?_⟩⟩
    rw [Nat.zero_add, h.cellAt j (by omega)]
    simp [stC, hj]

theorem ks_at {w5 : World} {ao : Option Addr} {c : Nat} {ks : List Int} {z : Nat} (r5 : Ls.Row w5 ao ks.length c ks) (f5 : ∀ ad, ao = some ad → z ≤ ad.block) : ∃ kb ko, Hid (0 < ks.length → ao = some ⟨kb, ko, none⟩) ∧ Hid (0 < ks.length → z ≤ kb) ∧ Hid (∀ j, j < ks.length → w5.cell? ⟨kb, ko + j, none⟩ = some (.int .i64 (ks.getD j 0))) := by
  by_cases h0 : 0 < ks.length
  · obtain ⟨kb, ko, e, hc⟩ := r5.2.2.2.2.2 h0
    exact ⟨kb, ko, hid fun _ => e, hid fun _ => f5 _ e, hid hc⟩
  · exact ⟨0, 0, hid fun h => absurd h h0, hid fun h => absurd h h0, hid fun j hj => by omega⟩

set_option maxHeartbeats 4000000 in
theorem rbelow_any {w : World} {N : List Nd} {ao : Option Addr} {c M : Nat} (s : RD w ao c N) (wl : Wl N) (g : Gd N) (hL : N.length ≤ 150) (id : Nat) (hi : id < N.length) :
    Calls Try.prog 33 #[.agg #[.slice ao N.length c, .int .i64 M], .int .i64 id] w fun e w' => BelEnd w N id e w' := by
  obtain ⟨gg, rfl, _⟩ := s.at hi
  have HS := hid s
  have HW := hid wl
  have GD := hid g
  have HL := hid hL
  have HI := hid hi
  have HIN := hid (isN_nat hi)
  obtain ⟨L, hLe⟩ : ∃ L, id + 1 = L := ⟨_, rfl⟩
  have hmk := makeB L (by omega) (c := (id : Int) + 1) (by omega)
  have hidL : (id : Int) < L := by omega
  have HLE := hid hLe
  have hid9 : id ≤ 150 := by omega
  have HB : Hid (BI N id (id + 1) ((List.replicate L false).set id true) []) := hid (by rw [← hLe]; exact BI.start N id)
  have hbc : (bC (List.replicate L false))[id]? = some (.bool false) := by
    unfold bC
    rw [List.getElem?_map, List.getElem?_replicate, if_pos (by omega)]
    rfl
  clear s wl g hL hi hLe
  go_enter Try.func33, Try.ntmps33
  go_wp2_with (go_at_call 35; with_reducible (refine (ris_is (id : Int) HIN.out).mono ?_); rintro e w2 ⟨rfl, b2⟩; have hce := (bm_start (w0 := w) (L := L) (id := id) (M := M) (XB := w.heap.size) (c := c) (N := N) (ao := some ⟨gg, 0, none⟩) (w2 := w2) (Below.next (new_b w _) b2.out) ((b2.out.block _ (by simp)).trans (new_same _ _))))
  have B0 := hid hce
  clear hce hmk hbc b2
  revert B0
  generalize w2.alloc (.cells ((bC (List.replicate L false)).set id (.bool true)).toArray 4) = wz
  generalize w2.heap.size = ib
  intro B0
  go_loopw [6, 7] (fun v i wr => ∃ (r : Nat) (bs : List Bool) (out : List Nat), i = .int .i64 ((r : Int) - 1) ∧ r ≤ id + 1 ∧ Hid (BI N id r bs out) ∧ Hid (BM w N (some ⟨gg, 0, none⟩) c M w.heap.size ib bs out v wr)) (fun _ i _ => (intOf i + 1).toNat)
  case atStart => exact ⟨id + 1, _, [], by congr 1; omega, Nat.le_refl _, HB, B0⟩
  case round =>
    clear B0 HB
    obtain ⟨r0, bs, out, rfl, hr0, hbi, hbm⟩ := hrel
    rcases r0 with _ | r
    · have hneg : ¬ (0 : Int) ≤ ((0 : Nat) : Int) - 1 := by omega
      obtain ⟨ao9, c9, rfl, hrow⟩ := row_own hbm.out.ow (fun j hj => by have := bAt_len ((hbi.out.ot j).1 hj).2; rw [hbi.out.ln] at this; omega)
      have HRW := hid hrow
      clear hrow
      go_wp2_with fail
      go_ret
      exact (show BelEnd _ _ _ _ _ from ⟨out, ao9, c9, rfl, hid hbi.out.done, HRW, hid hbm.out.be⟩)
    · have er : (((r + 1 : Nat) : Int) - 1) = (r : Int) := by omega
      rw [er]
      clear er
      have hrL : (r : Int) < L := by have := HLE.out; omega
      have hrb : r < bs.length := by rw [hbi.out.ln]; omega
      have hrN : r < N.length := by have := HI.out; omega
      have HRN := hid hrN
      have hr9 : r ≤ 150 := by omega
      have hrN' : (r : Int) < N.length := by omega
      cases hb : bAt bs r
      · have HB2 := hid (hbi.out.skip hb)
        have hcell := (hbm.out.cell hrb hb).1
        clear hb hrb hrN
        go_wp2_with fail
        go_roundw
        case rel => exact ⟨r, bs, out, rfl, by omega, HB2, hbm⟩
        case measure => simp only [intOf]; omega
      · have HB2 := hid (hbi.out.take HW.out GD.out HI.out hb)
        have hcell := (hbm.out.cell hrb hb).1
        obtain ⟨n1, hn⟩ : ∃ n1, ndA N r = n1 := ⟨_, rfl⟩
        have HN := hid hn
        have HF : Hid (Ft n1) := hid (by rw [← hn]; exact GD.out.ft _ (ndA_mem (isN_nat hrN)))
        have HSH : Hid (Shp N r n1) := hid (by rw [← hn]; exact HW.out.shp GD.out hrN)
        rw [hn] at HB2
        have HBL : Hid (r < bs.length) := hid hrb
        have HOL : Hid (out.length ≤ 1000000) := hid (by have := hbi.out.few; omega)
        have HBZ := hid hbm.out.be.size
        clear hb hrb hrN hn
        go_wp2_with (first
          | (at_builtin; refine append_one rfl (.tmp 30) (.tmp 32) rfl w.heap.size _ out (r : Int) rfl hbm.out.ow _ rfl rfl HOL.out HBZ.out ?_; intro v6 w6 ow6 gr6 nb6; have B6 := hid (hbm.out.push gr6.out ow6.out); have h2 := B6.out.two; obtain ⟨k0, k1⟩ := h2; have h6 := rd_cells (HS.out.below B6.out.be) HRN.out HN.out; obtain ⟨e0, e1, e2, e3, e4, e5⟩ := h6)
          | (go_at_call 66; with_reducible (refine (kids_any n1 HF.out HSH.out _).mono ?_); rintro e w7 ⟨ao7, c7, rfl, r7, b7, f7⟩; have B7 := hid (B6.out.below b7.out)))
        obtain ⟨kb, ko, hk, hkz, HKC⟩ := ks_at r7.out f7.out
        have HKI : Hid (0 < (ksF n1).length → kb ≠ ib) := hid fun h => by have h1 := hkz.out h; have h2 := blk_lt B6.out.im; omega
        have HKA := hid (ks_ahead HSH.out)
        have hks3 := ks_len n1
        clear r7 b7 f7 hkz B6 gr6 nb6 ow6 k0 k1 e0 e1 e2 e3 e4 e5 hcell hbm hbi
        go_loopw [9] (fun i wq => ∃ q : Nat, q ≤ (ksF n1).length ∧ i = .int .i64 q ∧ Hid (BM w N (some ⟨gg, 0, none⟩) c M w.heap.size ib (mkAll bs ((ksF n1).take q)) (out ++ [r]) v6 wq) ∧ Hid (∀ j, j < (ksF n1).length → wq.cell? ⟨kb, ko + j, none⟩ = some (.int .i64 ((ksF n1).getD j 0)))) (fun i _ => (ksF n1).length - (intOf i).toNat)
        case atStart => exact ⟨0, Nat.zero_le _, rfl, B7, HKC⟩
        case round =>
          clear B7 HKC
          obtain ⟨q, hq, rfl, HQ, HC⟩ := hrel
          by_cases hlt : q < (ksF n1).length
          · obtain rfl := hk.out (by omega)
            have hlt' : (q : Int) < (ksF n1).length := by omega
            obtain ⟨yn, hyn, hyx, hyl⟩ := part_at HKA.out hlt
            have cy := HC.out q hlt
            rw [hyn] at cy
            have hyL : (yn : Int) < L := by have := HLE.out; omega
            have HLB : Hid (yn < (mkAll bs ((ksF n1).take q)).length) := hid (by rw [mkAll_len]; have := HBL.out; omega)
            obtain ⟨hu, hf⟩ := HQ.out.cell HLB.out rfl
            have Q2 := hid (HQ.out.mark yn)
            have HST : Hid (mkAll bs ((ksF n1).take (q + 1)) = (mkAll bs ((ksF n1).take q)).set yn true) := hid (by rw [mkAll_step hyl]; simp)
            have HC2 : Hid (∀ j, j < (ksF n1).length → (wr.setCell ⟨ib, yn, none⟩ (.bool true)).cell? ⟨kb, ko + j, none⟩ = some (.int .i64 ((ksF n1).getD j 0))) := hid fun j hj => by rw [cell_set_other (by simpa using HKI.out (by omega))]; exact HC.out j hj
            clear hyn hyl
            go_wp2_with fail
            go_roundw
            case rel => exact ⟨q + 1, by omega, by go_num, by rw [HST.out]; exact Q2, HC2⟩
            case measure => simp only [intOf]; omega
          · have hlt' : ¬ (q : Int) < (ksF n1).length := by omega
            obtain rfl : q = (ksF n1).length := by omega
            rw [List.take_length] at HQ
            go_wp2_with fail
            go_roundw
            case rel => exact ⟨r, mkAll bs (ksF n1), out ++ [r], rfl, by omega, HB2, HQ⟩
            case measure => simp only [intOf]; omega

end
end Go.Proofs.Ytbekgejbgmdbdaa

namespace Go.Proofs.Ytbekgejbgmdbdaa
section
open Go.RowKit Go.Maps
set_option linter.unusedVariables false
set_option maxRecDepth 20000

theorem rsize_any {w : World} {N : List Nd} {ao : Option Addr} {c M : Nat} (s : RD w ao c N) (wl : Wl N) (g : Gd N) (hL : N.length ≤ 150) (id : Nat) (hi : id < N.length) {B : List Nat} (hB : BelL N id B) {z : Int} (hz : (B.length : Int) = z) :
    Calls Try.prog 13 #[.agg #[.slice ao N.length c, .int .i64 M], .int .i64 id] w fun e w' => e = .returned (.int .i64 z) ∧ Hid (Below w.heap.size w w') := by
  have HS := hid (s.below (new_b w (.cells #[.slice ao N.length c, .int .i64 M] 28)))
  have HW := hid wl
  have GD := hid g
  have HL := hid hL
  have HI := hid hi
  have HB : Hid (∀ H, BelL N id H → (H.length : Int) = z) := hid fun H h => by rw [h.len hB]; exact hz
  clear s wl g hL hi hB hz
  go_enter Try.func13, Try.ntmps13
  go_wp2_with (go_at_call 33; with_reducible (refine (rbelow_any (M := M) HS.out HW.out GD.out HL.out id HI.out).mono ?_); rintro e w2 h2; obtain ⟨B, bo, bc, rfl, l2, r2, b2⟩ := h2.out; have hzz := HB.out B l2.out)
  go_ret
  exact ⟨rfl, hid (Below.next (new_b w _) b2.out)⟩

theorem rvalue_yes {w : World} {N : List Nd} {ao : Option Addr} {c M : Nat} {ea : Option Addr} {elen ecap : Nat} {E : List Int} (s : RD w ao c N) (hE : Us w ea elen E) (wl : Wl N) (g : Gd N) (hL : N.length ≤ 150) (id : Nat) (hi : id < N.length) {x : Int} (hx : vF N E id = x) :
    Calls Try.prog 14 #[.agg #[.slice ao N.length c, .int .i64 M], .int .i64 id, .slice ea elen ecap] w fun e w' => e = .returned (.tuple #[.int .u64 x, .int .i64 0]) ∧ Hid (Below w.heap.size w w') := by
  have HS := hid (s.below (new_b w (.cells #[.slice ao N.length c, .int .i64 M] 28)))
  have HE := hid (hE.below (new_b w (.cells #[.slice ao N.length c, .int .i64 M] 28)))
  have HW := hid wl
  have GD := hid g
  have HL := hid hL
  have HI := hid hi
  have HIN := hid (isN_nat hi)
  have HX : Hid (enF (valsF N E N.length) (id : Int) = x) := hid hx
  have hi' : (id : Int) < N.length := by omega
  clear s wl g hL hi hE hx
  go_enter Try.func14, Try.ntmps14
  go_wp2_with (first
    | (go_at_call 35; with_reducible (refine (ris_is (id : Int) HIN.out).mono ?_); rintro e w2 ⟨rfl, b2⟩; have h3 := two_of ((b2.out.block w.heap.size (by simp)).trans (new_same w (.cells #[.slice ao N.length c, .int .i64 M] 28))); obtain ⟨k0, k1⟩ := h3)
    | (go_at_call 7; with_reducible (refine (all_any (M := M) (HS.out.below b2.out) (HE.out.below b2.out) HW.out GD.out HL.out).mono ?_); rintro e w3 h3; obtain ⟨vo, vc, rfl, u3, b3⟩ := h3.out; have h4 := u3.out.at HI.out; obtain ⟨vb, vof, rfl, hc⟩ := h4; rw [HX.out] at hc))
  go_ret2
  exact ⟨rfl, hid (Below.next (new_b w _) (Below.next b2.out b3.out))⟩

theorem rvalue_no {w : World} {N : List Nd} {ao : Option Addr} {c M : Nat} {ea : Option Addr} {elen ecap : Nat} (id : Int) (hi : isN N id = false) :
    Calls Try.prog 14 #[.agg #[.slice ao N.length c, .int .i64 M], .int .i64 id, .slice ea elen ecap] w fun e w' => e = .returned (.tuple #[.int .u64 0, .int .i64 11]) ∧ Hid (Below w.heap.size w w') := by
  have HIN := hid hi
  clear hi
  go_enter Try.func14, Try.ntmps14
  go_wp2_with (go_at_call 35; with_reducible (refine (ris_is id HIN.out).mono ?_); rintro e w2 ⟨rfl, b2⟩)
  go_ret2
  exact ⟨rfl, hid (Below.next (new_b w _) b2.out)⟩

/-! ### Vars -/
structure VM (w3 : World) (xs : List Int) (v : Value) (wr : World) : Prop where
  be : Below w3.heap.size w3 wr
  ow : wr.ownsRow w3.heap.size 3 1 v xs.length (iC xs)

theorem VM.below {w3 wr w2 : World} {xs : List Int} {v : Value} (h : VM w3 xs v wr) (b : Below wr.heap.size wr w2) : VM w3 xs v w2 :=
  ⟨Below.next h.be b, own_keep h.ow (grown_below b) (fun j hj => by cases hj)⟩
theorem VM.push {w3 wr w6 : World} {xs : List Int} {v v6 : Value} {x : Int} (h : VM w3 xs v wr) (g : wr.grownBy w6 v.ownBlock) (ow : w6.ownsRow w3.heap.size 3 1 v6 (xs ++ [x]).length (iC (xs ++ [x]))) : VM w3 (xs ++ [x]) v6 w6 :=
  ⟨h.be.grown g h.be.size (fun j hj => (own_type h.ow hj).1), ow⟩

theorem step_int {w w1 : World} {ops : Array Oper} {o : Oper} {a : Act} {Kc : Act → World → Prop} {Q : Exit → Act → World → Prop} {G : Prop} (hgd : o.guard = none) (s x : Operand)
    (ho : o.op = .call { callee := .builtin .append, args := #[s, x], argTypes := #[37, 37] }) (y : Int) (hw : w = (w1.alloc (.cells #[.int .i64 y] 3)).drew) (B : Nat) (v : Value) (xs : List Int) (hs : a.eval s = v) (own : w1.ownsRow B 3 1 v xs.length (iC xs))
    (q : Nat) (hx : a.eval x = .slice (some ⟨q, 0, none⟩) 1 1) (hq : q = w1.heap.size) (hbd : xs.length ≤ 1000000) (hB : B ≤ w1.heap.size)
    (h : ∀ v' w', Hid (w'.ownsRow B 3 1 v' (xs ++ [y]).length (iC (xs ++ [y]))) → Hid (w1.grownBy w' v.ownBlock) → Kc (a.put o.dst v') w') :
    if Region.wanted o (yielded ops a.tmps) = true then Oper.wp Try.prog o a w Kc Q else G := by
  have hwd : Region.wanted o (yielded ops a.tmps) = true := by simp [Region.wanted, hgd]
  rw [if_pos hwd]
  subst hw hq
  obtain ⟨i0, hi, hz0, hz1, hz2⟩ := info_parts Ls.Try.info3
  obtain ⟨v', w', hrun, r1, r2, _, r4⟩ := run_append_own_at (P := Try.prog) (w := (w1.alloc (.cells #[.int .i64 y] 3)).drew) B 37 o.type 3 i0 (.int .i64 0) 1 8 Try.underlying37 hi hz0 hz1 hz2 rfl (by decide) v xs.length _ (own.alloc _).drew ⟨w1.heap.size, 0, none⟩ 1 1 [.int .i64 y] rfl (cell_one_new w1 _ _) (by intro u hu; simp at hu; subst hu; rfl) (by unfold maxLen; omega) (by omega) (by simp; omega)
  unfold Oper.wp
  simp [execOp, ho, resolve, invoke, builtin, hs, hx, hrun, Result.andThen]
  have g0 : w1.grownBy (w1.alloc (.cells #[.int .i64 y] 3)).drew none := grown_below (Below.next (new_b w1 _) (below_drew _))
  exact h v' w' (hid (by simpa [iC] using r1)) (hid ((g0.but v.ownBlock).trans r2))

theorem rise_vars {N : List Nd} {id : Nat} {B : List Nat} (hB : BelL N id B) {vs : List Int} (hv : VarL N id vs) : Ls.rise (vsF N B) = vs := by
  refine rise_eq (Ls.up_rise _) hv.1 fun a => ?_
  rw [Ls.mem_rise, hv.2]
  unfold vsF
  rw [List.mem_map]
  constructor
  · rintro ⟨j, hj, e⟩
    obtain ⟨h1, h2⟩ := List.mem_filter.1 hj
    exact ⟨j, (hB.2 j).1 h1, h2, e⟩
  · rintro ⟨j, hj, h2, e⟩
    exact ⟨j, List.mem_filter.2 ⟨(hB.2 j).2 hj, h2⟩, e⟩

theorem vsF_step_yes {N : List Nd} {B : List Nat} {q j : Nat} (hj : B[q]? = some j) (h : isV N j = true) : vsF N (B.take (q + 1)) = vsF N (B.take q) ++ [(ndA N j).a] := by
  rw [List.take_add_one, hj]; exact vsF_yes h
theorem vsF_step_no {N : List Nd} {B : List Nat} {q j : Nat} (hj : B[q]? = some j) (h : isV N j = false) : vsF N (B.take (q + 1)) = vsF N (B.take q) := by
  rw [List.take_add_one, hj]; exact vsF_no h
theorem row_vs {w : World} {B : Nat} {v : Value} {xs : List Int} (h : w.ownsRow B 3 1 v xs.length (iC xs)) (hf : Ls.Fit xs) : ∃ ao c, v = .slice ao xs.length c ∧ Ls.Row w ao xs.length c xs := Ls.Own.row (B := B) ⟨h, hf⟩
theorem vsF_fit {N : List Nd} (g : Gd N) {B : List Nat} (hb : ∀ j ∈ B, j < N.length) : Ls.Fit (vsF N B) := by
  intro x hx
  unfold vsF at hx
  obtain ⟨j, hj, rfl⟩ := List.mem_map.1 hx
  have := (g.ft _ (ndA_mem (isN_nat (hb j (List.mem_filter.1 hj).1)))).2.2.1
  exact this

def VarsEnd (w : World) (vs : List Int) (e : Ending) (w' : World) : Prop := ∃ ao c, e = .returned (.slice ao vs.length c) ∧ Hid (Ls.Row w' ao vs.length c vs) ∧ Hid (Below w.heap.size w w')
theorem VarsEnd.out {w : World} {vs : List Int} {e : Ending} {w' : World} (h : VarsEnd w vs e w') : ∃ ao c, e = .returned (.slice ao vs.length c) ∧ Hid (Ls.Row w' ao vs.length c vs) ∧ Hid (Below w.heap.size w w') := h

set_option maxHeartbeats 2000000 in
theorem rvars_any {w : World} {N : List Nd} {ao : Option Addr} {c M : Nat} (s : RD w ao c N) (wl : Wl N) (g : Gd N) (hL : N.length ≤ 150) (id : Nat) (hi : id < N.length) {vs : List Int} (hv : VarL N id vs) :
    Calls Try.prog 11 #[.agg #[.slice ao N.length c, .int .i64 M], .int .i64 id] w fun e w' => VarsEnd w vs e w' := by
  obtain ⟨gg, rfl, _⟩ := s.at hi
  have HS := hid (s.below (new_b w (.cells #[.slice (some ⟨gg, 0, none⟩) N.length c, .int .i64 M] 28)))
  have HW := hid wl
  have GD := hid g
  have HL := hid hL
  have HI := hid hi
  have HV := hid hv
  clear s wl g hL hi hv
  go_enter Try.func11, Try.ntmps11
  go_wp2_with (go_at_call 33; with_reducible (refine (rbelow_any (M := M) HS.out HW.out GD.out HL.out id HI.out).mono ?_); rintro e w3 h3; obtain ⟨B, bo, bc, rfl, l3, r3, b3⟩ := h3.out)
  have HX := hid ((b3.out.block w.heap.size (by simp)).trans (new_same w (.cells #[.slice (some ⟨gg, 0, none⟩) N.length c, .int .i64 M] 28)))
  have HS3 := hid (HS.out.below b3.out)
  have HBE := hid (Below.next (new_b w (.cells #[.slice (some ⟨gg, 0, none⟩) N.length c, .int .i64 M] 28)) b3.out)
  have HBN : Hid (∀ j ∈ B, j < N.length) := hid fun j hj => by have := ((l3.out.2 j).1 hj).le HW.out GD.out HI.out; have := HI.out; omega
  have HBL : Hid (B.length ≤ 150) := hid (Nat.le_trans (nodup_le l3.out.1 HBN.out) HL.out)
  have V0 : Hid (VM w3 (vsF N (B.take 0)) (.slice none 0 0) w3) := hid ⟨Below.refl _ _, World.ownsRow_nil _ _ _ _⟩
  clear b3
  go_loopw [6, 7] (fun v i wr => ∃ q : Nat, q ≤ B.length ∧ i = .int .i64 q ∧ Hid (VM w3 (vsF N (B.take q)) v wr)) (fun _ i _ => B.length - (intOf i).toNat)
  case atStart => exact ⟨0, Nat.zero_le _, rfl, V0⟩
  case round =>
    clear V0
    obtain ⟨q, hq, rfl, hvm⟩ := hrel
    have hq9 : q ≤ 150 := by have := HBL.out; omega
    by_cases hlt : q < B.length
    · have hlt' : (q : Int) < B.length := by omega
      obtain ⟨j, hj⟩ : ∃ j, B[q]? = some j := ⟨_, List.getElem?_eq_getElem hlt⟩
      have hjN := HBN.out j (List.mem_of_getElem? hj)
      have hjN' : (j : Int) < N.length := by omega
      obtain ⟨lb, lo, y, rfl, hcy, hy, y0, y1⟩ := (r3.out.keep hvm.out.be).at hlt
      obtain rfl : y = (j : Int) := by
        have := hy.out
        rw [List.getElem?_map, hj] at this
        simpa using this.symm
      obtain ⟨n1, hn⟩ : ∃ n1, ndA N j = n1 := ⟨_, rfl⟩
      obtain ⟨e0, e1, e2, e3, e4, e5⟩ := rd_cells (HS3.out.below hvm.out.be) hjN hn
      have kk := two_of ((hvm.out.be.block _ (blk_lt HX.out)).trans HX.out)
      obtain ⟨k0, k1⟩ := kk
      have HJ := hid hj
      have HN := hid hn
      have HVL : Hid ((vsF N (B.take q)).length ≤ 1000000) := hid (by have := vsF_len N (B.take q); simp at this; omega)
      have HBZ := hid hvm.out.be.size
      have HLT := hid hlt
      cases hop : (n1.op == 21)
      · have HNV : Hid (isV N j = false) := hid (by rw [isV, hn]; exact hop)
        clear hj hn hlt hy y0 y1 hjN
        go_wp2_with fail
        go_region
        all_goals go_wp2_with fail
        all_goals go_roundw
        all_goals first
          | exact ⟨q + 1, HLT.out, by go_num, by rw [vsF_step_no HJ.out HNV.out]; exact hid (hvm.out.below (below_drew _))⟩
          | (have := HLT.out; simp only [intOf]; omega)
      · have VD := hid (hvm.out.below (below_drew wr))
        have HNV : Hid (isV N j = true) := hid (by rw [isV, hn]; exact hop)
        clear hj hn hlt hy y0 y1 hjN
        go_wp2_with fail
        go_region
        all_goals go_wp2_with fail
        all_goals go_region_law (refine step_int (w1 := wr.drew) rfl _ _ rfl n1.a rfl w3.heap.size u6 (vsF N (B.take q)) rfl VD.out.ow _ rfl (by simp) HVL.out HBZ.out ?_; intro v7 w7 ow7 g7)
        all_goals go_wp2_with fail
        all_goals go_roundw
        all_goals first
          | exact ⟨q + 1, HLT.out, by go_num, by rw [vsF_step_yes HJ.out HNV.out, HN.out]; exact hid (VD.out.push g7.out ow7.out)⟩
          | (have := HLT.out; simp only [intOf]; omega)
    · have hlt' : ¬ (q : Int) < B.length := by omega
      obtain rfl : q = B.length := by omega
      rw [List.take_length] at hvm
      obtain ⟨ao5, c5, rfl, hrow⟩ := row_vs hvm.out.ow (vsF_fit GD.out HBN.out)
      have HRW := hid hrow
      have HVL : Hid ((vsF N B).length ≤ 1000) := hid (by have := vsF_len N B; have := HBL.out; omega)
      clear hrow
      go_wp2_with (go_at_call 34; with_reducible (refine (Ls.sorted_any ao5 _ c5 _ _ HRW.out HVL.out).mono ?_); rintro e w8 ⟨bo8, m8, c8, rfl, r8, b8⟩)
      go_ret
      have hr8 := r8.out
      rw [rise_vars l3.out HV.out] at hr8
      obtain rfl : m8 = vs.length := hr8.1.symm
      exact (show VarsEnd _ _ _ _ from ⟨bo8, c8, rfl, hid hr8, hid (Below.next HBE.out (Below.next hvm.out.be b8))⟩)

end
end Go.Proofs.Ytbekgejbgmdbdaa

namespace Go.Proofs.Ytbekgejbgmdbdaa
section
open Go.RowKit Go.Maps
set_option linter.unusedVariables false
set_option maxRecDepth 20000

/-- Terms, the document's in the box XB, and all words. -/
structure LV (w0 : World) (k : K) (XB : Nat) (N : List Nd) (P : Nat → Prop) (ao : Option Addr) (c : Nat) (E : List Int) (vb vo : Nat) (wr : World) : Prop where
  ls : LS w0 k XB N P ao c wr
  us : Us wr (some ⟨vb, vo, none⟩) N.length (valsF N E N.length)

section
variable {w0 wr w2 : World} {k : K} {XB : Nat} {N : List Nd} {P : Nat → Prop} {ao : Option Addr} {c : Nat} {E : List Int} {vb vo : Nat}

theorem LV.below (h : LV w0 k XB N P ao c E vb vo wr) (b : Below wr.heap.size wr w2) : LV w0 k XB N P ao c E vb vo w2 := ⟨h.ls.below b, h.us.below b⟩
theorem LV.three (h : LV w0 k XB N P ao c E vb vo wr) {m : Nat} (hm : m < N.length) {x : Int} (hx : vF N E m = x) : wr.cell? ⟨XB, 0, none⟩ = some (.slice ao N.length c) ∧ wr.cell? ⟨XB, 1, none⟩ = some (.int .i64 k.M) ∧ wr.cell? ⟨vb, vo + m, none⟩ = some (.int .u64 x) := by
  obtain ⟨b, o, e, hc⟩ := h.us.at hm
  cases e
  refine ⟨h.ls.two.1, h.ls.two.2, ?_⟩
  rw [hc, ← hx]
  rfl

theorem vars_at (h : LV w0 k XB N P ao c E vb vo wr) (wl : Wl N) (hL : N.length ≤ 150) {m : Nat} (hm : m < N.length) {x : Int} (hx : vF N E m = x) {vs : List Int} (hv : VarL N m vs) :
    Calls Try.prog 10 #[.pointer (some ⟨k.DB, 0, none⟩), .int .i64 m] wr fun e w' => ∃ a1 c1, e = .returned (.slice a1 vs.length c1) ∧ Hid (LV w0 k XB N P ao c E vb vo w') ∧ Hid (Ls.Row w' a1 vs.length c1 vs) ∧
      (w'.cell? ⟨XB, 0, none⟩ = some (.slice ao N.length c) ∧ w'.cell? ⟨XB, 1, none⟩ = some (.int .i64 k.M) ∧ w'.cell? ⟨vb, vo + m, none⟩ = some (.int .u64 x)) := by
  refine (vars_any h.ls.dg wl hL m hm hv).mono fun e w' hh => ?_
  obtain ⟨a1, c1, rfl, r, b⟩ := hh
  exact ⟨a1, c1, rfl, hid (h.below b.out), r, (h.below b.out).three hm hx⟩
theorem rvars_at (h : LV w0 k XB N P ao c E vb vo wr) (wl : Wl N) (hL : N.length ≤ 150) {m : Nat} (hm : m < N.length) {x : Int} (hx : vF N E m = x) {vs : List Int} (hv : VarL N m vs) {a1 : Option Addr} {c1 : Nat} (hr : Ls.Row wr a1 vs.length c1 vs) :
    Calls Try.prog 11 #[.agg #[.slice ao N.length c, .int .i64 k.M], .int .i64 m] wr fun e w' => ∃ a2 c2, e = .returned (.slice a2 vs.length c2) ∧ Hid (LV w0 k XB N P ao c E vb vo w') ∧ Hid (Ls.Row w' a1 vs.length c1 vs ∧ Ls.Row w' a2 vs.length c2 vs) ∧
      (w'.cell? ⟨XB, 0, none⟩ = some (.slice ao N.length c) ∧ w'.cell? ⟨XB, 1, none⟩ = some (.int .i64 k.M) ∧ w'.cell? ⟨vb, vo + m, none⟩ = some (.int .u64 x)) := by
  refine (rvars_any h.ls.rd wl h.ls.dg.1 hL m hm hv).mono fun e w' hh => ?_
  obtain ⟨a2, c2, rfl, r, b⟩ := hh.out
  exact ⟨a2, c2, rfl, hid (h.below b.out), hid ⟨hr.keep b.out, r.out⟩, (h.below b.out).three hm hx⟩
theorem same_at (h : LV w0 k XB N P ao c E vb vo wr) {m : Nat} (hm : m < N.length) {x : Int} (hx : vF N E m = x) {vs : List Int} {a1 a2 : Option Addr} {c1 c2 : Nat} (hr : Ls.Row wr a1 vs.length c1 vs ∧ Ls.Row wr a2 vs.length c2 vs) :
    Calls Try.prog 9 #[.slice a1 vs.length c1, .slice a2 vs.length c2] wr fun e w' => e = .returned (.bool true) ∧ Hid (LV w0 k XB N P ao c E vb vo w') ∧
      (w'.cell? ⟨XB, 0, none⟩ = some (.slice ao N.length c) ∧ w'.cell? ⟨XB, 1, none⟩ = some (.int .i64 k.M) ∧ w'.cell? ⟨vb, vo + m, none⟩ = some (.int .u64 x)) := by
  refine (Ls.same_any a1 a2 _ _ c1 c2 vs vs wr hr.1 hr.2).mono fun e w' hh => ?_
  exact ⟨by rw [hh.1]; simp [Ls.sameF], hid (h.below hh.2), (h.below hh.2).three hm hx⟩
theorem size_at (h : LV w0 k XB N P ao c E vb vo wr) (wl : Wl N) (hL : N.length ≤ 150) {m : Nat} (hm : m < N.length) {x : Int} (hx : vF N E m = x) {B : List Nat} (hB : BelL N m B) {z : Int} (hz : (B.length : Int) = z) :
    Calls Try.prog 12 #[.pointer (some ⟨k.DB, 0, none⟩), .int .i64 m] wr fun e w' => e = .returned (.int .i64 z) ∧ Hid (LV w0 k XB N P ao c E vb vo w') ∧
      (w'.cell? ⟨XB, 0, none⟩ = some (.slice ao N.length c) ∧ w'.cell? ⟨XB, 1, none⟩ = some (.int .i64 k.M) ∧ w'.cell? ⟨vb, vo + m, none⟩ = some (.int .u64 x)) := by
  refine (size_yes h.ls.dg wl hL m hm hB hz).mono fun e w' hh => ?_
  exact ⟨hh.1, hid (h.below hh.2.out), (h.below hh.2.out).three hm hx⟩
theorem rsize_at (h : LV w0 k XB N P ao c E vb vo wr) (wl : Wl N) (hL : N.length ≤ 150) {m : Nat} (hm : m < N.length) {x : Int} (hx : vF N E m = x) {B : List Nat} (hB : BelL N m B) {z : Int} (hz : (B.length : Int) = z) :
    Calls Try.prog 13 #[.agg #[.slice ao N.length c, .int .i64 k.M], .int .i64 m] wr fun e w' => e = .returned (.int .i64 z) ∧ Hid (LV w0 k XB N P ao c E vb vo w') ∧
      (w'.cell? ⟨XB, 0, none⟩ = some (.slice ao N.length c) ∧ w'.cell? ⟨XB, 1, none⟩ = some (.int .i64 k.M) ∧ w'.cell? ⟨vb, vo + m, none⟩ = some (.int .u64 x)) := by
  refine (rsize_any h.ls.rd wl h.ls.dg.1 hL m hm hB hz).mono fun e w' hh => ?_
  exact ⟨hh.1, hid (h.below hh.2.out), (h.below hh.2.out).three hm hx⟩
theorem dg_gd {P : Nat → Prop} (s : Dg k wr N P) : Gd N := s.1
theorem LV.drew (h : LV w0 k XB N P ao c E vb vo wr) : LV w0 k XB N P ao c E vb vo wr.drew := h.below (below_drew wr)
end

set_option maxHeartbeats 4000000 in
theorem values_walk (a0 : Option Addr) (len0 cap0 : Nat) (D : Nat → Dd) (a1 : Option Addr) (len1 cap1 : Nat) (E : List Int) (z : Int) (w : World) (hD : Deeds w a0 len0 D) (h1 : Us w a1 len1 E) (hz : (Lit.int .i64 z).wf = true) :
    Calls Try.prog 3 #[.slice a0 len0 cap0, .slice a1 len1 cap1, .int .i64 z] w fun e w' => e = .returned (.bool true) ∧ Below w.heap.size w w' := by
  have HD := hid hD
  have HE := hid h1
  have HZ : Hid (-9223372036854775808 ≤ z ∧ z ≤ 9223372036854775807) := hid (by
    simp [Lit.wf, IntKind.min, IntKind.max, IntKind.signed, IntKind.bits] at hz
    omega)
  clear hD h1 hz
  by_cases hl : 100 < len0 ∨ 300 < len1
  · by_cases l0 : 100 < len0
    · have l0' : (100 : Int) < len0 := by omega
      clear hl
      go_enter Try.func3, Try.ntmps3
      go_wp2_with (go_at_call 5; with_reducible (refine (awake_any _).mono ?_); rintro e w6 ⟨rfl, b6⟩)
      go_ret
      exact ⟨rfl, b6.out⟩
    · have l0' : ¬ (100 : Int) < len0 := by omega
      have l1' : (300 : Int) < len1 := by omega
      clear hl
      go_enter Try.func3, Try.ntmps3
      go_wp2_with (go_at_call 5; with_reducible (refine (awake_any _).mono ?_); rintro e w6 ⟨rfl, b6⟩)
      go_ret
      exact ⟨rfl, b6.out⟩
  have l0' : ¬ (100 : Int) < len0 := by omega
  have l1' : ¬ (300 : Int) < len1 := by omega
  have HL0 : Hid (len0 ≤ 150) := hid (by omega)
  clear hl
  go_enter Try.func3, Try.ntmps3
  go_wp2_with (first
    | (go_at_call 6; with_reducible (refine (build_any 1000 a0 len0 cap0 D _ HD.out HL0.out).mono ?_); rintro e w1 ⟨k, N, P, ao, c, rfl, s1, r1, b1, wl1, hn1⟩; have S1 := hid (ls_start s1.out r1.out b1.out); have HL : Hid (N.length ≤ 150) := hid (Nat.le_trans hn1 HL0.out); have GD := hid (dg_gd s1.out))
    | (go_at_call 7; with_reducible (refine (all_any (M := k.M) S1.out.rd (HE.out.below S1.out.be) wl1.out GD.out HL.out).mono ?_); rintro e w2 h2; obtain ⟨va, vc, rfl, u2, b2⟩ := h2.out; have S2 := hid (S1.out.below b2.out)))
  have HW := wl1
  have HEW := hid HE.out
  clear s1 r1 b1 wl1 hn1 S1 b2 HL0 HD
  revert S2 u2
  generalize w1.heap.size = XB
  intro u2 S2
  go_loopw [10] (fun i wr => ∃ m : Nat, m ≤ N.length ∧ i = .int .i64 m ∧ Hid (LS w k XB N P ao c wr ∧ Us wr va N.length (valsF N E N.length))) (fun i _ => N.length - (intOf i).toNat)
  case atStart => exact ⟨0, Nat.zero_le _, rfl, hid ⟨S2.out, u2.out⟩⟩
  case round =>
    clear S2 u2
    obtain ⟨m, hm, rfl, hr⟩ := hrel
    have hL := HL.out
    by_cases hlt : m < N.length
    · have hlt' : (m : Int) < N.length := by omega
      have HLT := hid hlt
      obtain ⟨vb, vo, rfl, _⟩ := hr.out.2.at hlt
      have LW : Hid (LV w k XB N P ao c E vb vo wr) := hid ⟨hr.out.1, hr.out.2⟩
      obtain ⟨x, hx⟩ : ∃ x, vF N E m = x := ⟨_, rfl⟩
      obtain ⟨vs, hvs⟩ := var_some HW.out GD.out hlt
      obtain ⟨B, hB⟩ := bel_some HW.out GD.out hlt
      obtain ⟨sz, hsz⟩ : ∃ sz : Int, (B.length : Int) = sz := ⟨_, rfl⟩
      have HX := hid hx
      have HVS := hid hvs
      have HBB := hid hB
      have HSZ := hid hsz
      have x1 : (x != x) = false := by simp
      have x2 : (sz != sz) = false := by simp
      clear hx hvs hB hsz hlt hr
      go_upto_region 11 with (go_at_call 8; with_reducible (refine (value_yes LW.out.ls.dg HW.out HL.out (HE.out.below LW.out.ls.be) m HLT.out HX.out).mono ?_); rintro e w2 ⟨rfl, b2⟩)
      have L2 := hid (LW.out.below b2.out)
      have L2d := hid L2.out.drew
      clear b2 LW
      go_region_held3 (fun W => W.cell? ⟨XB, 0, none⟩ = some (.slice ao N.length c) ∧ W.cell? ⟨XB, 1, none⟩ = some (.int .i64 k.M) ∧ W.cell? ⟨vb, vo + m, none⟩ = some (.int .u64 x)) (exact LV.three (Hid.out (by assumption)) HLT.out HX.out) (first
        | (go_at_call 10; with_reducible (refine (vars_at (Hid.out (by assumption)) HW.out HL.out HLT.out HX.out HVS.out).mono ?_); rintro e w3 ⟨a3, c3, rfl, L3, r3, q3⟩; obtain ⟨k30, k31, k32⟩ := q3)
        | (go_at_call 11; with_reducible (refine (rvars_at (Hid.out (by assumption)) HW.out HL.out HLT.out HX.out HVS.out r3.out).mono ?_); rintro e w4 ⟨a4, c4, rfl, L4, r4, q4⟩; obtain ⟨k40, k41, k42⟩ := q4)
        | (go_at_call 9; with_reducible (refine (same_at (Hid.out (by assumption)) HLT.out HX.out r4.out).mono ?_); rintro e w5 ⟨rfl, L5, q5⟩; obtain ⟨k50, k51, k52⟩ := q5)
        | (go_at_call 12; with_reducible (refine (size_at (Hid.out (by assumption)) HW.out HL.out HLT.out HX.out HBB.out HSZ.out).mono ?_); rintro e w6 ⟨rfl, L6, q6⟩; obtain ⟨k60, k61, k62⟩ := q6)
        | (go_at_call 13; with_reducible (refine (rsize_at (Hid.out (by assumption)) HW.out HL.out HLT.out HX.out HBB.out HSZ.out).mono ?_); rintro e w7 ⟨rfl, L7, q7⟩; obtain ⟨k70, k71, k72⟩ := q7))
      all_goals go_wp2_with fail
      all_goals go_roundw
      all_goals first
        | exact ⟨m + 1, HLT.out, by go_num, hid ⟨L7.out.ls, L7.out.us⟩⟩
        | (have := HLT.out; simp only [intOf]; omega)
    · have hlt' : ¬ (m : Int) < N.length := by omega
      obtain ⟨k0, k1⟩ := hr.out.1.two
      cases hin : isN N z
      · have HIN := hid hin
        clear hin
        go_wp2_with (first
          | (go_at_call 8; with_reducible (refine (value_no hr.out.1.dg z HIN.out HZ.out.1 HZ.out.2).mono ?_); rintro e w2 ⟨rfl, b2⟩; have S3 := hid (hr.out.1.below b2.out); have kk := S3.out.two; obtain ⟨k20, k21⟩ := kk)
          | (go_at_call 14; with_reducible (refine (rvalue_no z HIN.out).mono ?_); rintro e w3 ⟨rfl, b3⟩; have S4 := hid (S3.out.below b3.out))
          | (go_at_call 5; with_reducible (refine (awake_any _).mono ?_); rintro e w6 ⟨rfl, b6⟩))
        go_ret
        exact ⟨rfl, Below.next S4.out.be b6.out⟩
      · obtain ⟨i, rfl, hi⟩ := isN_yes hin
        obtain ⟨x, hx⟩ : ∃ x, vF N E i = x := ⟨_, rfl⟩
        have HX := hid hx
        have HI := hid hi
        have x1 : (x == x) = true := by simp
        clear hin hx hi
        go_wp2_with (first
          | (go_at_call 8; with_reducible (refine (value_yes hr.out.1.dg HW.out HL.out (HE.out.below hr.out.1.be) i HI.out HX.out).mono ?_); rintro e w2 ⟨rfl, b2⟩; have S3 := hid (hr.out.1.below b2.out); have kk := S3.out.two; obtain ⟨k20, k21⟩ := kk)
          | (go_at_call 14; with_reducible (refine (rvalue_yes S3.out.rd (HE.out.below S3.out.be) HW.out GD.out HL.out i HI.out HX.out).mono ?_); rintro e w3 ⟨rfl, b3⟩; have S4 := hid (S3.out.below b3.out))
          | (go_at_call 5; with_reducible (refine (awake_any _).mono ?_); rintro e w6 ⟨rfl, b6⟩))
        go_ret
        exact ⟨rfl, Below.next S4.out.be b6.out⟩

end
end Go.Proofs.Ytbekgejbgmdbdaa
