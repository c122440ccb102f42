/-
  Learn at a level above 0.
  The closing of clauses under those of one literal, as the document does it.
  The document's Step; few clauses.
-/
import Derived.Test.YtimfjoinjfecjaaGreatP15
import Derived.Test.YtimfjoinjfecjaaGreatP05
import Derived.Maps.OwnSet

namespace Go.Proofs.YtimfjoinjfecjaaGreat
open Go.RowKit Go.Sort
set_option linter.unusedVariables false

def backF (L : List E) : List Int → Int
  | [] => 0
  | y :: _ => levelF L (vl y : Nat)

def LearnNo (e : Ending) : Prop := e = .returned (.tuple #[.slice none 0 0, .int .i64 0, .slice none 0 0, .bool false])

structure LearnYes (L : List E) (n : Nat) (w : World) (x : Nat) (s1 : PS) (g cc m : Nat) (bk : Int) (va : Option Addr) (vn vc : Nat) (es : List Int) (w' : World) : Prop where
  row : U.Row w' (some ⟨g, 0, none⟩) m cc (U.notF x :: es)
  met : U.Row w' va vn vc (riseI (natI s1.met))
  perm : es.Perm s1.oth
  fall : Fall L es
  bk : bk = backF L es
  be : Below w.heap.size w w'
  ml : m ≤ n + 1
  hg : w.heap.size ≤ g
  tg : Typ w' g 3
  mn : vn ≤ n
  lt : ∀ y ∈ U.notF x :: es, 0 ≤ y ∧ y < 2 * (n : Int)
  tm : ∀ b off, va = some ⟨b, off, none⟩ → Typ w' b 3 ∧ w.heap.size ≤ b

def LearnE (L : List E) (n : Nat) (w : World) (o : Option (Nat × PS)) (e : Ending) (w' : World) : Prop :=
  (o = none ∧ LearnNo e ∧ Below w.heap.size w w') ∨
  ∃ x s1 g cc m bk va vn vc es, o = some (x, s1) ∧ e = .returned (.tuple #[.slice (some ⟨g, 0, none⟩) m cc, .int .i64 bk, .slice va vn vc, .bool true]) ∧ LearnYes L n w x s1 g cc m bk va vn vc es w'

section
variable {k : SK} {w0 w w1 w' : World} {kt : K} {L : List E} {lev : Nat} {p : V} {cls : List (List Int)} {s s' : PS} {v v' : SV} {n : Nat}

theorem repl_not_found {x : Nat} {s : PS} {y : Nat} {s1 : PS} (h : downP L lev cls s x = .inr (some (y, s1))) : y = x := by
  unfold downP at h
  split at h
  · split at h
    · split at h
      · simp at h; exact h.1.symm
      · split at h <;> simp at h
    · simp at h
  · simp at h

theorem downs_mem : ∀ (r : List Nat) (s : PS) (y : Nat) (s1 : PS), downsP L lev cls s r = .inr (some (y, s1)) → y ∈ r := by
  intro r
  induction r with
  | nil => intro s y s1 h; simp [downsP] at h
  | cons x r ih =>
    intro s y s1 h
    simp only [downsP] at h
    cases hd : downP L lev cls s x with
    | inl s' => rw [hd] at h; exact List.mem_cons_of_mem _ (ih s' y s1 h)
    | inr o =>
      rw [hd] at h
      simp only [Sum.inr.injEq] at h
      subst h
      rw [repl_not_found hd]; simp

theorem found_lt (hlt : ∀ e ∈ L, vr e < n) {s : PS} {x : Nat} {s1 : PS} (h : endP (downsP L lev cls s (L.reverse.map E.l)) = some (x, s1)) : x / 2 < n := by
  have h2 : downsP L lev cls s (L.reverse.map E.l) = .inr (some (x, s1)) := by
    cases hd : downsP L lev cls s (L.reverse.map E.l) with
    | inl s' => rw [hd] at h; simp [endP] at h
    | inr o => rw [hd] at h; simp only [endP] at h; rw [h]
  have := downs_mem _ _ _ _ h2
  rw [List.mem_map] at this
  obtain ⟨e, he, rfl⟩ := this
  exact hlt e (List.mem_reverse.1 he)

theorem met_fit (h : Rn k w0 n w s v) (hn : n ≤ 4096) : U.Fit (riseI (natI s.met)) := by
  intro x hx
  unfold riseI natI at hx
  rw [List.mem_mergeSort, List.mem_map] at hx
  obtain ⟨u, hu, rfl⟩ := hx
  have := h.wf.lt u hu
  omega

/-- Behind the sort of the variables. -/
theorem behind {w4 w5 w6 : World} {g cc : Nat} {x : Int} {es : List Int} {go : Option Nat} (c : Cm k w0 kt L lev p cls) (h4 : Rn k w0 n w4 s v) (h5 : Rn k w0 n w5 s v) (ln : Ln w4 w5 g cc x es) (gr : w5.grownBy w6 go) (hgo : ∀ j, go = some j → v.mv.ownBlock = some j) (own : OwnL w6 (k.SB + 1) v.mv (riseI (natI s.met))) :
    Lv k kt L lev p w6 ∧ w6.cell? ⟨k.SB, 259, none⟩ = some v.mv ∧ Ln w4 w6 g cc x es ∧ Below w0.heap.size w0 w6 := by
  have hmine : ∀ j, go = some j → MineS k v j ∧ k.SB < j := fun j e => ⟨.inr (.inr (.inl (hgo j e))), (ownL_lt h5.r.me (hgo j e)).1⟩
  have hlo : w0.heap.size ≤ k.SB := by have := h5.r.lo; rw [c.hB] at this; exact this
  have hsb : w6.heap[k.SB]? = w5.heap[k.SB]? := gr.block _ h5.r.lt (fun e => by have := (hmine _ e.symm).2; omega)
  have hb : Below w0.heap.size w0 w6 := ⟨gr.os.trans h5.b.os, gr.tape.trans h5.b.tape, gr.output.trans h5.b.output, Nat.le_trans h5.b.size gr.size, fun j hj => (gr.block j (Nat.lt_of_lt_of_le hj h5.b.size) (fun e => by have := (hmine _ e.symm).2; omega)).trans (h5.b.block j hj)⟩
  refine ⟨⟨?_, c.t.below hb⟩, ?_, ⟨⟨ln.hg.1, Nat.lt_of_lt_of_le ln.hg.2 gr.size⟩, ln.hc, fun j y hj => ?_, ?_⟩, hb⟩
  · rw [World.cell?_of_block (a := ⟨k.SB, 0, none⟩) hsb]; exact (c.cell h5).1
  · rw [World.cell?_of_block (a := ⟨k.SB, 259, none⟩) hsb]; exact h5.r.c.2.2.2.2.1
  · have hg : w6.heap[g]? = w5.heap[g]? := gr.block g ln.hg.2 (fun e => by have := (h4.r.mine (hmine _ e.symm).1).2.1; have := ln.hg.1; omega)
    rw [World.cell?_of_block (a := ⟨g, j, none⟩) hg]
    exact ln.cells j y hj
  · have hg : w6.heap[g]? = w5.heap[g]? := gr.block g ln.hg.2 (fun e => by have := (h4.r.mine (hmine _ e.symm).1).2.1; have := ln.hg.1; omega)
    obtain ⟨cc, f, h⟩ := ln.ty
    exact ⟨cc, f, hg.trans h⟩

/-! ### The calls, where the block is named otherwise -/
variable {SB : Nat}
theorem has_w (hk : k.SB = SB) (c : Cm k w0 kt L lev p cls) (h : Rn k w0 kt.n w s v) (x : Int) (b : Bool) (hb : decide (0 ≤ x ∧ x < cls.length) = b) :
    Calls Tryz.prog 80 #[.pointer (some ⟨SB, 0, none⟩), .int .i64 x] w fun e w' => e = .returned (.bool b) ∧ w' = w := by subst hk; exact has_is c h x b hb

theorem meetAll_w (hk : k.SB = SB) (c : Cm k w0 kt L lev p cls) (h : Rn k w0 kt.n w s v) {ao : Option Addr} {m cap : Nat} {cl : List Int} (row : U.Row w0 ao m cap cl) (hl0 : lev ≠ 0) (hop : -1000000 ≤ s.op) :
    Calls Tryz.prog 81 #[.pointer (some ⟨SB, 0, none⟩), .slice ao m cap] w fun e w' => ∃ b s' v', e = .returned (.bool b) ∧ Hid (meetsP L lev s cl = (b, s')) ∧ Hid (Rn k w0 kt.n w' s' v') ∧ Hid (s.op ≤ s'.op) := by
  subst hk
  refine (meetAll_is c h row hl0 hop).mono fun e w' q => ?_
  obtain ⟨q1, v', q2, q3⟩ := q
  exact ⟨_, _, v', q1, rfl, q2, (Wf.meets cl s h.wf h.m2 (fun x _ hv => vlA_lt c.t.lits_lt hv)).2.1⟩

theorem goDown_w (hk : k.SB = SB) (c : Cm k w0 kt L lev p cls) (h : Rn k w0 kt.n w s v) (hl0 : lev ≠ 0) (hop : -800000 ≤ s.op) :
    Calls Tryz.prog 82 #[.pointer (some ⟨SB, 0, none⟩)] w fun e w' => (∃ x s1 v1, e = .returned (.tuple #[.int .i64 (x : Nat), .bool true]) ∧ Hid (endP (downsP L lev cls s (L.reverse.map E.l)) = some (x, s1)) ∧ Hid (Rn k w0 kt.n w' s1 v1)) ∨ (e = .returned (.tuple #[.int .i64 0, .bool false]) ∧ Hid (endP (downsP L lev cls s (L.reverse.map E.l)) = none) ∧ Hid (Below w0.heap.size w0 w')) := by
  subst hk
  refine (goDown_is c h hl0 hop).mono fun e w' q => ?_
  rcases q with ⟨x, s1, v1, q1, q2, q3, q4⟩ | ⟨q1, q2, s1, v1, q3, q4⟩
  · exact .inl ⟨x, s1, v1, q2, q1, q3⟩
  · exact .inr ⟨q2, q1, q3.b⟩

theorem clauseWith_w (hk : k.SB = SB) (c : Cm k w0 kt L lev p cls) (h : Rn k w0 kt.n w s v) (x : Int) (hx : 0 ≤ x ∧ x ≤ 9223372036854775807) :
    Calls Tryz.prog 83 #[.pointer (some ⟨SB, 0, none⟩), .int .i64 x] w fun e w' => ∃ g cc es, e = .returned (.slice (some ⟨g, 0, none⟩) (s.oth.length + 1) cc) ∧ Hid (Ln w w' g cc x es) ∧ Hid (es.Perm s.oth ∧ Fall L es) ∧ Hid (Rn k w0 kt.n w' s v) ∧ Hid (Below w.heap.size w w') := by
  subst hk; exact clauseWith_is c h x hx

/-- backLevel, in one form. -/
theorem backLevel_w (hk : k.SB = SB) (h : Lv k kt L lev p w) {w4 : World} {g c m : Nat} {x : Int} {es : List Int} (ln : Ln w4 w g c x es) (hm : es.length + 1 = m) (hes : ∀ y ∈ es, 0 ≤ y ∧ y < 8192) (hml : m ≤ 100000) {bk : Int} (hb : backF L es = bk) :
    Calls Tryz.prog 85 #[.pointer (some ⟨SB, 0, none⟩), .slice (some ⟨g, 0, none⟩) m c] w fun e w' => e = .returned (.int .i64 bk) ∧ Hid (Gr w w') := by
  subst hk hb
  cases es with
  | nil =>
    refine (backLevel_one ⟨k.SB, 0, none⟩ (some ⟨g, 0, none⟩) m c (by simp at hm; omega)).mono fun e w' q => ?_
    exact ⟨q.1, by rw [q.2]; exact Gr.refl _⟩
  | cons y es =>
    have hy := hes y (by simp)
    obtain ⟨u, rfl⟩ := Int.eq_ofNat_of_zero_le hy.1
    have hvl : levelF L ((u / 2 : Nat) : Int) = backF L ((u : Int) :: es) := by
      unfold backF
      have : vl (u : Int) = u / 2 := by unfold vl; simp
      show _ = levelF L (vl (u : Int) : Nat)
      rw [this]
    simp at hm
    exact backLevel_more h g c m u (by omega) (by omega) (by omega) (ln.cells 1 u (by simp)) hvl

set_option maxRecDepth 100000 in
set_option maxHeartbeats 2000000 in
theorem learn_out (t : Trl kt w L lev p) {la : Option Addr} {ln cap : Nat} (gr : U.Grid w la ln cap cls) (hn : kt.n ≤ 4096) (hl0 : lev ≠ 0) (x : Int) (hx : clF cls x = none) :
    Calls Tryz.prog 51 #[.pointer (some ⟨kt.OB, 0, none⟩), .slice la ln cap, .int .i64 x] w fun e w' => LearnNo e ∧ Below w.heap.size w w' := by
  have HT := hid t
  have hst := store71 w (.pointer (some ⟨kt.OB, 0, none⟩)) (.slice la ln cap) (.int .i64 lev) rfl rfl rfl
  have hS := start_is t gr hn
  obtain ⟨Z, hZ⟩ : ∃ Z, Z = z3 Tryz.zeroCells124 (.pointer (some ⟨kt.OB, 0, none⟩)) (.slice la ln cap) (.int .i64 lev) := ⟨_, rfl⟩
  rw [← hZ] at hst hS
  have HS := hid hS
  have HK : Hid ((kOf w kt la ln cap lev).SB = w.heap.size) := hid rfl
  have h2 : Z[2]? = some (.int .i64 lev) := by rw [hZ]; exact (z71_at _ _ _).2.2.1
  have hlb : ((lev : Int) == 0) = false := by simpa using hl0
  have HH : Hid (decide (0 ≤ x ∧ x < cls.length) = false) := hid (by
    unfold clF at hx
    by_cases h0 : x < 0
    · simp; omega
    · rw [if_neg h0, List.getElem?_eq_none_iff] at hx
      simp; omega)
  clear t hZ hS gr hx
  go_enter Tryz.func51, Tryz.ntmps51
  go_wp2_with (first
    | (go_at_call 32; with_reducible (refine (levels_is HT.out).mono ?_); rintro e w ⟨rfl, rfl⟩)
    | (go_at_call 80; with_reducible (refine (has_w HK.out HS.out.1 HS.out.2 _ _ HH.out).mono ?_); rintro e w2 ⟨rfl, rfl⟩))
  go_returns
  exact ⟨rfl, by go_grown⟩

def learnO (L : List E) (lev : Nat) (cls : List (List Int)) (cl : List Int) : Option (Nat × PS) :=
  if (meetsP L lev zeroP cl).1 = true then endP (downsP L lev cls (meetsP L lev zeroP cl).2 (L.reverse.map E.l)) else none
theorem learnO_no {cl : List Int} {s2 : PS} (h : meetsP L lev zeroP cl = (false, s2)) : learnO L lev cls cl = none := by unfold learnO; rw [h]; rfl
theorem learnO_yes {cl : List Int} {s2 : PS} (h : meetsP L lev zeroP cl = (true, s2)) : learnO L lev cls cl = endP (downsP L lev cls s2 (L.reverse.map E.l)) := by unfold learnO; rw [h, if_pos rfl]
theorem op_ok {s2 : PS} (h : zeroP.op ≤ s2.op) : -800000 ≤ s2.op := by have : zeroP.op = 0 := rfl; omega

theorem lit_ok {x : Nat} (h : x / 2 < n) (hn : n ≤ 4096) : (x : Int) ≤ 9223372036854775807 ∧ 0 ≤ U.notF (x : Int) ∧ U.notF (x : Int) ≤ 9223372036854775807 := by
  unfold U.notF
  rw [if_neg (by omega)]
  split <;> omega

theorem sort_met_at (h : Rn k w0 n w s v) (hn : n ≤ 4096) {a : Option Addr} {m c : Nat} (em : v.mv = .slice a m c) :
    Calls Tryz.prog 84 #[.slice a m c] w fun e w' => e = .returned (.tuple #[]) ∧ ∃ go, Hid (w.grownBy w' go) ∧ Hid (∀ j, go = some j → v.mv.ownBlock = some j) ∧ Hid (OwnL w' (k.SB + 1) v.mv (riseI (natI s.met))) := by
  rw [← em]
  exact sort_met h.r.me (by have := h.wf.len; simp [natI]; omega)

theorem es_ok (h : Rn k w0 n w s v) (hn : n ≤ 4096) {es : List Int} (hp : es.Perm s.oth) : (∀ y ∈ es, 0 ≤ y ∧ y < 8192) ∧ es.length + 1 ≤ 100000 ∧ es.length = s.oth.length := by
  have h1 := h.wf.ob
  have h2 := h.wf.ol
  have h3 := h.wf.len
  have h4 := hp.length_eq
  exact ⟨fun y hy => by have := h1 y (hp.mem_iff.1 hy); omega, by omega, h4⟩

theorem gr_cell {w' : World} {a : Addr} {x : Value} (g : Gr w w') (h : w.cell? a = some x) : w'.cell? a = some x := (g.below.cell (cell_lt h)).trans h

theorem typ_below {w w' : World} {j : Nat} {T : TypeId} (b : Below w.heap.size w w') (h : Typ w j T) : Typ w' j T := by
  obtain ⟨c, f, h⟩ := h
  exact ⟨c, f, (b.block j (blk_lt h)).trans h⟩
theorem own_typ0 {w : World} {B : Nat} {v : Value} {xs : List Int} (h : OwnL w B v xs) {j : Nat} (e : v.ownBlock = some j) : Typ w j 3 := by
  rcases h.2 with ⟨q, _⟩ | ⟨b, cap, cur, q, _, hg, _⟩
  · rw [q] at e; simp [Value.ownBlock] at e
  · rw [q] at e; simp [Value.ownBlock] at e; subst e; exact ⟨_, _, hg⟩

/-- All of it, told. -/
theorem learn_end {w4 w6 w7 : World} {x : Nat} {g cc : Nat} {es : List Int} {am : Option Addr} {m cm : Nat} (c : Cm k w kt L lev p cls) (r4 : Rn k w kt.n w4 s v) (hn : kt.n ≤ 4096) (ln : Ln w4 w6 g cc (U.notF x) es) (hp : es.Perm s.oth ∧ Fall L es) (own : OwnL w6 (k.SB + 1) v.mv (riseI (natI s.met))) (em : v.mv = .slice am m cm) (b6 : Below w.heap.size w w6) (g7 : Gr w6 w7) (hx : x / 2 < kt.n) (hsb : w.heap.size ≤ k.SB) :
    LearnYes L kt.n w x s g cc (s.oth.length + 1) (backF L es) am m cm es w7 := by
  obtain ⟨e1, e2, e3⟩ := es_ok r4 hn hp.1
  have hl := lit_ok hx hn
  have r := ln.row (fun y hy => by
    rcases List.mem_cons.1 hy with rfl | hy
    · omega
    · have := e1 y hy; omega)
  rw [e3] at r
  have own2 : U.Own w6 (k.SB + 1) (.slice am m cm) (riseI (natI s.met)) := ⟨by rw [em] at own; exact own, met_fit r4 hn⟩
  obtain ⟨a', c', ee, r2⟩ := own2.row
  cases ee
  have hlm := r2.1
  refine ⟨r.keep g7.below, r2.keep g7.below, hp.1, hp.2, rfl, b6.trans (g7.below.mono b6.size), by have h1 := r4.wf.ol; have h2 := r4.wf.len; omega, Nat.le_trans r4.b.size ln.hg.1, typ_below g7.below ln.ty, ?_, fun y hy => ?_, fun b off e => ?_⟩
  · have := r4.wf.len
    simp [riseI, natI, List.length_mergeSort]; omega
  · rcases List.mem_cons.1 hy with rfl | hy
    · unfold U.notF
      rw [if_neg (by omega)]
      split <;> omega
    · exact r4.wf.ob y (hp.1.mem_iff.1 hy)
  have eo : v.mv.ownBlock = some b := by
    rcases own.2 with ⟨q, _⟩ | ⟨b', cap, cur, q, _, hg, _⟩
    · rw [em, e] at q; cases q
    · rw [em, e] at q; cases q; rw [em, e]; rfl
  exact ⟨typ_below g7.below (own_typ0 own eo), by have := (ownL_lt own eo).1; omega⟩

set_option maxRecDepth 100000 in
set_option maxHeartbeats 4000000 in
theorem learn_in (t : Trl kt w L lev p) {la : Option Addr} {ln cap : Nat} (gr : U.Grid w la ln cap cls) (hn : kt.n ≤ 4096) (hl0 : lev ≠ 0) (x : Nat) {cl : List Int} (hx : cls[x]? = some cl) :
    Calls Tryz.prog 51 #[.pointer (some ⟨kt.OB, 0, none⟩), .slice la ln cap, .int .i64 x] w fun e w' => LearnE L kt.n w (learnO L lev cls cl) e w' := by
  have HT := hid t
  have hst := store71 w (.pointer (some ⟨kt.OB, 0, none⟩)) (.slice la ln cap) (.int .i64 lev) rfl rfl rfl
  have hS := start_is t gr hn
  have hrl := (List.getElem?_eq_some_iff.1 hx).1
  have hgl := gr.1
  have hgm := gr.max
  obtain ⟨gb, go, a, m, cp, ys, rfl, gc, gy, grow⟩ := gr.at (show x < ln by omega)
  have : ys = cl := by have := gy.out; rw [hx] at this; exact (Option.some.inj this).symm
  subst this
  obtain ⟨Z, hZ⟩ : ∃ Z, Z = z3 Tryz.zeroCells124 (.pointer (some ⟨kt.OB, 0, none⟩)) (.slice (some ⟨gb, go, none⟩) ln cap) (.int .i64 lev) := ⟨_, rfl⟩
  rw [← hZ] at hst hS
  obtain ⟨k, hk⟩ : ∃ k, k = kOf w kt (some ⟨gb, go, none⟩) ln cap lev := ⟨_, rfl⟩
  have HK : Hid (k.SB = w.heap.size) := hid (by rw [hk]; rfl)
  rw [← hk] at hS
  have HS := hid hS
  have h2 : Z[2]? = some (.int .i64 lev) := by rw [hZ]; exact (z71_at _ _ _).2.2.1
  have hlb : ((lev : Int) == 0) = false := by simpa using hl0
  have HH : Hid (decide (0 ≤ (x : Int) ∧ (x : Int) < cls.length) = true) := hid (by simp; omega)
  have hxl : (x : Int) < ln := by omega
  have gc1 : (w.alloc (.cells Z 124)).cell? ⟨gb, go + x, none⟩ = some (.slice a m cp) := by
    have b1 : Below w.heap.size w (w.alloc (.cells Z 124)) := by go_grown
    exact (b1.cell (cell_lt gc)).trans gc
  have hz0 : -1000000 ≤ zeroP.op := by decide
  have HLT := hid t.lits_lt
  have hnn := hn
  clear t hZ hS gr hx hk gy gc
  go_enter Tryz.func51, Tryz.ntmps51
  go_wp2_with (first
    | (go_at_call 32; with_reducible (refine (levels_is HT.out).mono ?_); rintro e w ⟨rfl, rfl⟩)
    | (go_at_call 80; with_reducible (refine (has_w HK.out HS.out.1 HS.out.2 _ _ HH.out).mono ?_); rintro e w2 ⟨rfl, rfl⟩)
    | (go_at_call 81; with_reducible (refine (meetAll_w HK.out HS.out.1 HS.out.2 grow.out hl0 hz0).mono ?_); rintro e w2 ⟨b2, s2, v2, rfl, m2, r2, o2⟩; have O2 := hid (op_ok o2.out); cases b2)
    | (go_at_call 82; with_reducible (refine (goDown_w HK.out HS.out.1 r2.out hl0 O2.out).mono ?_); rintro e w3 (⟨x3, s3, v3, rfl, d3, r3⟩ | ⟨rfl, d3, b3⟩); rotate_left; rotate_left; have X3 := hid (found_lt HLT.out d3.out); have Y3 := hid (lit_ok X3.out hnn); rotate_left)
    | (go_at_call 79; with_reducible (refine (U.not_any _ _ Y3.out.1).mono ?_); rintro e w4 ⟨rfl, b4⟩; have R4 := hid (r3.out.below b4))
    | (go_at_call 83; with_reducible (refine (clauseWith_w HK.out HS.out.1 R4.out _ Y3.out.2).mono ?_); rintro e w5 ⟨g5, cc5, es5, rfl, l5, p5, r5, b5⟩; have sh5 := r5.out.r.shapes; obtain ⟨⟨am, cm, em⟩, _⟩ := sh5; have c259 := r5.out.r.c.2.2.2.2.1; rw [HK.out, em] at c259)
    | (go_at_call 84; with_reducible (refine (sort_met_at r5.out hnn em).mono ?_); rintro e w6 ⟨rfl, go6, g6, h6, own6⟩; have B6 := behind HS.out.1 R4.out r5.out l5.out g6.out h6.out own6.out; obtain ⟨lv6, c6, ln6, b6⟩ := B6; have LV6 := hid lv6; have LN6 := hid ln6; have BB6 := hid b6; rw [HK.out, em] at c6; clear lv6 ln6 b6))
  · go_returns
    exact .inl ⟨learnO_no m2.out, rfl, (HS.out.1.hB ▸ r2.out.b)⟩
  · go_returns
    exact .inl ⟨(learnO_yes m2.out).trans d3.out, rfl, b3.out⟩
  · have hes := es_ok r5.out hnn p5.out.1
    have HE := hid hes.1
    have HM : Hid (es5.length + 1 = s3.oth.length + 1) := hid (by rw [hes.2.2])
    have hml : s3.oth.length + 1 ≤ 100000 := by rw [← hes.2.2]; exact hes.2.1
    have HLd := hid (LV6.out.below (below_drew w6))
    have LNd : Hid (Ln w4 w6.drew g5 cc5 (U.notF x3) es5) := hid ⟨LN6.out.hg, LN6.out.hc, LN6.out.cells, LN6.out.ty⟩
    have c6d : w6.drew.cell? ⟨w.heap.size, 259, none⟩ = some (.slice am s3.met.length cm) := c6
    obtain ⟨bk, hbk⟩ : ∃ bk, backF L es5 = bk := ⟨_, rfl⟩
    have HBK := hid hbk
    clear hes hbk c6
    go_region_with (go_at_call 85; with_reducible (refine (backLevel_w HK.out HLd.out LNd.out HM.out HE.out hml HBK.out).mono ?_); rintro e w7 ⟨rfl, g7⟩; have c7 := gr_cell g7.out c6d)
    all_goals go_wp2_with fail
    all_goals go_returns
    all_goals exact .inr ⟨x3, s3, g5, cc5, _, bk, am, _, cm, es5, (learnO_yes m2.out).trans d3.out, rfl, HBK.out ▸ learn_end HS.out.1 R4.out hnn LN6.out p5.out own6.out em BB6.out ((Gr.drew w6).trans g7.out) X3.out (Nat.le_of_eq HK.out.symm)⟩

/-- Learn, in one form. -/
theorem learn_is (t : Trl kt w L lev p) {la : Option Addr} {ln cap : Nat} (gr : U.Grid w la ln cap cls) (hn : kt.n ≤ 4096) (x : Int) :
    Calls Tryz.prog 51 #[.pointer (some ⟨kt.OB, 0, none⟩), .slice la ln cap, .int .i64 x] w fun e w' => LearnE L kt.n w (learnP L lev cls x) e w' := by
  by_cases hl0 : lev = 0
  · subst hl0
    have e1 : learnP L 0 cls x = none := by unfold learnP; rw [if_pos rfl]
    rw [e1]
    refine (learn_zero t la ln cap x).mono fun e w' q => ?_
    exact .inl ⟨rfl, q.1, q.2⟩
  · cases hc : clF cls x with
    | none =>
      have e1 : learnP L lev cls x = none := by unfold learnP; rw [if_neg hl0, hc]
      rw [e1]
      refine (learn_out t gr hn hl0 x hc).mono fun e w' q => ?_
      exact .inl ⟨rfl, q.1, q.2⟩
    | some cl =>
      have e1 : learnP L lev cls x = learnO L lev cls cl := by unfold learnP learnO; rw [if_neg hl0, hc]
      rw [e1]
      unfold clF at hc
      by_cases h0 : x < 0
      · rw [if_pos h0] at hc; cases hc
      · rw [if_neg h0] at hc
        obtain ⟨m, rfl⟩ := Int.eq_ofNat_of_zero_le (show 0 ≤ x by omega)
        exact learn_in t gr hn hl0 m (by simpa using hc)
end

end Go.Proofs.YtimfjoinjfecjaaGreat

namespace Go.Proofs.YtimfjoinjfecjaaGreat.U
open Go.RowKit Go.Maps
set_option linter.unusedVariables false

theorem hid {p : Prop} (h : p) : Hid p := h

/-! ### Blocks -/
theorem grown_set (w : World) (a : Addr) (v : Value) : w.grownBy (w.setCell a v) (some a.block) :=
  ⟨rfl, rfl, rfl, by simp [World.setCell], fun k _ hne => Below.heap_setCell _ _ _ _ (fun e => hne (by rw [e]))⟩

theorem grown_new (w : World) (o : Obj) (r : Option Nat) : w.grownBy (w.alloc o) r := World.grownBy_alloc w o r

theorem grown_two {a b c : World} {r : Option Nat} (h : a.grownBy b r) (g : b.grownBy c r) : a.grownBy c r :=
  ⟨g.os.trans h.os, g.tape.trans h.tape, g.output.trans h.output, Nat.le_trans h.size g.size, fun k hk hn => (g.block k (Nat.lt_of_lt_of_le hk h.size) hn).trans (h.block k hk hn)⟩

theorem below_grown {w w' : World} {B : Nat} {r : Option Nat} (g : w.grownBy w' r) (hr : ∀ j, r = some j → B ≤ j) (hB : B ≤ w.heap.size) : Below B w w' :=
  ⟨g.os, g.tape, g.output, g.size, fun k hk => g.block k (by omega) (fun e => by have := hr k e.symm; omega)⟩

theorem blk_lt {w : World} {b : Nat} {o : Obj} (h : w.heap[b]? = some o) : b < w.heap.size := (Array.getElem?_eq_some_iff.1 h).1

theorem blk_ne {w : World} {b b' : Nat} {c c' : Array Value} {T T' : TypeId} {fr fr' : Nat × Nat} (h : w.heap[b]? = some (.cells c T fr)) (h' : w.heap[b']? = some (.cells c' T' fr')) (hT : T ≠ T') : b ≠ b' := by
  rintro rfl
  rw [h] at h'
  simp only [Option.some.injEq, Obj.cells.injEq] at h'
  exact hT h'.2.1

theorem set_same {w : World} {b o : Nat} {c : Array Value} {T : TypeId} {fr : Nat × Nat} (h : w.heap[b]? = some (.cells c T fr)) (v : Value) : (w.setCell ⟨b, o, none⟩ v).heap[b]? = some (.cells (c.setIfInBounds o v) T fr) := by
  simp [World.setCell, Array.getElem?_modify, h]

theorem new_same (w : World) (o : Obj) : (w.alloc o).heap[w.heap.size]? = some o := by
  show (w.heap.push _)[w.heap.size]? = _; simp

theorem cell_of {w : World} {b o : Nat} {c : Array Value} {T : TypeId} {fr : Nat × Nat} (h : w.heap[b]? = some (.cells c T fr)) : w.cell? ⟨b, o, none⟩ = c[o]? := by simp [World.cell?, h]
theorem frozen_of {w : World} {b o : Nat} {c : Array Value} {T : TypeId} (h : w.heap[b]? = some (.cells c T (0, 0))) : w.frozen? ⟨b, o, none⟩ = false := by simp [World.frozen?, h]

theorem own_keep {w w' : World} {base : Nat} {E : TypeId} {sz : Nat} {v : Value} {n : Nat} {xs : List Value} {r : Option Nat} (h : w.ownsRow base E sz v n xs) (g : w.grownBy w' r)
    (hr : ∀ j, r = some j → j < base ∨ ∀ c T fr, w.heap[j]? = some (.cells c T fr) → T ≠ E) : w'.ownsRow base E sz v n xs := by
  refine ⟨h.1, ?_⟩
  rcases h.2 with h2 | ⟨b, cap, cur, rfl, hb, hg, rest⟩
  · exact .inl h2
  · refine .inr ⟨b, cap, cur, rfl, hb, ?_, rest⟩
    rw [g.block b (blk_lt hg) ?_]
    · exact hg
    · intro e
      rcases hr b e.symm with h3 | h3
      · omega
      · exact h3 _ _ _ hg rfl

theorem len_sub : ∀ {a b : List Int}, a.Nodup → (∀ x ∈ a, x ∈ b) → a.length ≤ b.length := by
  intro a
  induction a with
  | nil => intro b _ _; simp
  | cons x a ih =>
    intro b hn hs
    rw [List.nodup_cons] at hn
    have hx : x ∈ b := hs x (by simp)
    have := ih (b := b.erase x) hn.2 (fun y hy => by
      have hne : y ≠ x := fun e => hn.1 (e ▸ hy)
      exact (List.mem_erase_of_ne hne).2 (hs y (by simp [hy])))
    rw [List.length_erase_of_mem hx] at this
    have := List.length_pos_of_mem hx
    simp only [List.length_cons]; omega

def lits (L : List (List Int)) (S : List Int) : List Int := (S ++ L.flatten).filter (fun x => decide (0 ≤ x))
end Go.Proofs.YtimfjoinjfecjaaGreat.U

namespace Go.Proofs.YtimfjoinjfecjaaGreat.U
open Go.RowKit
set_option linter.unusedVariables false

def bothF (xs : List Int) : Bool := xs.any (fun x => hasF xs (notF x))

/-- Of a clause the literals that may hold. -/
def leftF (c now : List Int) : List Int := (dd c).filter (fun y => !hasF now (notF y))
def metF (c now : List Int) : Bool := c.any (fun y => decide (0 ≤ y) && hasF now y)

theorem take_next {c : List Int} {k : Nat} {y : Int} (h : c[k]? = some y) : c.take (k + 1) = c.take k ++ [y] := by rw [List.take_add_one, h]; rfl

end Go.Proofs.YtimfjoinjfecjaaGreat.U

namespace Go.Proofs.YtimfjoinjfecjaaGreat.U
open Go.RowKit
set_option linter.unusedVariables false

def posF (S : List Int) : List Int := S.filter (fun x => decide (0 ≤ x))

theorem mem_pos {S : List Int} {x : Int} : x ∈ posF S ↔ x ∈ S ∧ 0 ≤ x := by simp [posF]
/-- What has come to hold behind the beginning. -/
structure Rc (L : List (List Int)) (S A : List Int) : Prop where
  nod : A.Nodup
  sub : ∀ x ∈ A, x ∈ lits L S
  der : ∀ x ∈ posF S ++ A, Der L S x

theorem Rc.start (L : List (List Int)) (S : List Int) : Rc L S [] := ⟨List.nodup_nil, fun x h => by simp at h, fun x h => by
  rw [List.append_nil] at h; exact .base (mem_pos.1 h).1 (mem_pos.1 h).2⟩

theorem Rc.len {L : List (List Int)} {S A : List Int} (h : Rc L S A) : A.length ≤ (lits L S).length := len_sub h.nod h.sub

def ClosedC (c now : List Int) : Prop := metF c now = true ∨ 2 ≤ (leftF c now).length

theorem left_in {c now : List Int} {y : Int} (h : y ∈ leftF c now) : y ∈ c ∧ 0 ≤ y ∧ notF y ∉ now := by
  obtain ⟨h1, h2⟩ := List.mem_filter.1 h
  have := (mem_dd c y).1 h1
  refine ⟨this.1, this.2, fun hn => ?_⟩
  rw [(hasF_mem _ _).2 hn] at h2; cases h2

def RcDone (L : List (List Int)) (S A : List Int) (g : Bool) : Prop := g = false → bothF (posF S ++ A) = false ∧ ∀ (i : Nat) (c : List Int), L[i]? = some c → ClosedC c (posF S ++ A)

/-- Clauses ahead of q are gone over. -/
def RcPart (L : List (List Int)) (S A : List Int) (q : Nat) (A2 : List Int) (g : Bool) : Prop := (g = true → A.length < A2.length) ∧ (g = false → A2 = A ∧ ∀ (j : Nat) (c : List Int), j < q → L[j]? = some c → ClosedC c (posF S ++ A2))

theorem RcPart.next {L : List (List Int)} {S A A2 c : List Int} {q : Nat} {g : Bool} (h : RcPart L S A q A2 g) (hc : L[q]? = some c) (hl : ClosedC c (posF S ++ A2)) : RcPart L S A (q + 1) A2 g := by
  refine ⟨h.1, fun hg => ⟨(h.2 hg).1, fun j d hj hd => ?_⟩⟩
  by_cases e : j = q
  · subst e; rw [hc] at hd; cases hd; exact hl
  · exact (h.2 hg).2 j d (by omega) hd

theorem RcPart.more {L : List (List Int)} {S A A2 : List Int} {q : Nat} {g : Bool} (h : RcPart L S A q A2 g) (x : Int) : RcPart L S A (q + 1) (A2 ++ [x]) true := by
  refine ⟨fun _ => ?_, fun h => by cases h⟩
  cases g
  · rw [(h.2 rfl).1]; simp
  · have := h.1 rfl; simp; omega

theorem RcPart.all {L : List (List Int)} {S A A2 : List Int} {q : Nat} {g : Bool} (h : RcPart L S A q A2 g) (hq : L.length ≤ q) (hb : bothF (posF S ++ A) = false) : RcDone L S A2 g := by
  intro hg
  obtain ⟨e, h2⟩ := h.2 hg
  subst e
  exact ⟨hb, fun i c hi => h2 i c (by have := (List.getElem?_eq_some_iff.1 hi).1; omega) hi⟩

end Go.Proofs.YtimfjoinjfecjaaGreat.U

namespace Go.Proofs.YtimfjoinjfecjaaGreat.U
open Go.RowKit
set_option linter.unusedVariables false

/-- A clause follows at once. -/
def Stp (L : List (List Int)) (c : List Int) : Prop := Bad L (c.map notF)

def longF (xs : List Int) : Bool := decide (40 < xs.length)

def fewF (xss : List (List Int)) (most : Int) : Int := if most < xss.length then 0 else if xss.any longF = true then 0 else 1

theorem few_any (ao : Option Addr) (n cap : Nat) (xss : List (List Int)) (most : Int) (w : World) (h : Grid w ao n cap xss) :
    Calls Tryz.prog 7 #[.slice ao n cap, .int .i64 most] w fun e w' => e = .returned (.int .i64 (fewF xss most)) ∧ w' = w := by
  have HR : Hid (Grid w ao n cap xss) := h
  have hm := h.max
  have hl := h.1
  clear h
  by_cases hb : most < n
  · have HV : Hid (fewF xss most = 0) := by show _ = _; simp only [fewF]; rw [if_pos (by omega)]
    clear hl
    go_enter Tryz.func7, Tryz.ntmps7
    go_wp2
    go_ret
    exact ⟨by rw [HV.out]; rfl, rfl⟩
  · have HV : Hid (fewF xss most = if xss.any longF = true then 0 else 1) := by show _ = _; simp only [fewF]; rw [if_neg (by omega)]
    clear hl
    go_enter Tryz.func7, Tryz.ntmps7
    go_wp2
    go_loop [5] (fun i => ∃ k : Nat, k ≤ n ∧ i = .int .i64 k ∧ Hid ((xss.take k).any longF = false)) (fun i => n - (intOf i).toNat)
    case atStart => exact ⟨0, Nat.zero_le _, rfl, rfl⟩
    case round =>
      obtain ⟨k, hk, rfl, hno⟩ := hrel
      by_cases hlt : k < n
      · obtain ⟨b, off, a, m, c, ys, rfl, hc, hy, hr⟩ := HR.out.at hlt
        have hm2 := hr.out.max
        by_cases he : 40 < m
        · have HW : Hid (fewF xss most = 0) := by
            show _ = _; rw [HV.out, if_pos (gany_hit hy.out (by simp only [longF, decide_eq_true_eq]; rw [hr.out.1]; exact he))]
          have he' : (40 : Int) < m := by omega
          go_wp2
          go_ret
          exact ⟨by rw [HW.out]; rfl, rfl⟩
        · have HW : Hid ((xss.take (k + 1)).any longF = false) := gany_step hno.out hy.out (by simp only [longF, decide_eq_false_iff_not]; rw [hr.out.1]; exact he)
          have he' : ¬ (40 : Int) < m := by omega
          go_wp2
          go_round
          case rel => exact ⟨k + 1, by omega, by go_num, HW⟩
          case measure => simp [intOf]; omega
      · have HW : Hid (fewF xss most = 1) := by
          have := gany_end hno.out (by rw [HR.out.1]; omega)
          show _ = _; rw [HV.out, this]; rfl
        go_wp2
        go_ret
        exact ⟨by rw [HW.out]; rfl, rfl⟩

theorem few_len {xss : List (List Int)} {most : Nat} (h : ¬ fewF xss most = 0) : xss.length ≤ most := by
  by_cases hl : (most : Int) < xss.length
  · exact absurd (by simp only [fewF]; rw [if_pos hl]) h
  · omega

theorem few_short {xss : List (List Int)} {most : Int} (h : ¬ fewF xss most = 0) : ∀ c ∈ xss, c.length ≤ 40 := by
  intro c hc
  by_cases h1 : most < xss.length
  · exact absurd (by simp only [fewF]; rw [if_pos h1]) h
  · cases h2 : xss.any longF
    · have := List.any_eq_false.1 h2 c hc
      simp [longF] at this; omega
    · exact absurd (by simp only [fewF]; rw [if_neg h1, if_pos h2]) h


end Go.Proofs.YtimfjoinjfecjaaGreat.U
