/-
  Learn at a level above 0.
-/
import Derived.Test.YtimfjoinjfecjaaGreatQ33

namespace Go.Proofs.YtimfjoinjfecjaaGreat
open Go.RowKit Go.Sort
set_option linter.unusedVariables false

def backF (L : List E) : List Int → Int
  | [] => 0
  | y :: _ => levelF L (vl y : Nat)

def LearnNo (e : Ending) : Prop := e = .returned (.tuple #[.slice none 0 0, .int .i64 0, .slice none 0 0, .bool false])

structure LearnYes (L : List E) (n : Nat) (w : World) (x : Nat) (s1 : PS) (g cc m : Nat) (bk : Int) (va : Option Addr) (vn vc : Nat) (es : List Int) (w' : World) : Prop where
  row : U.Row w' (some ⟨g, 0, none⟩) m cc (U.notF x :: es)
  met : U.Row w' va vn vc (riseI (natI s1.met))
  perm : es.Perm s1.oth
  fall : Fall L es
  bk : bk = backF L es
  be : Below w.heap.size w w'
  ml : m ≤ n + 1
  hg : w.heap.size ≤ g
  tg : Typ w' g 3
  mn : vn ≤ n
  lt : ∀ y ∈ U.notF x :: es, 0 ≤ y ∧ y < 2 * (n : Int)
  tm : ∀ b off, va = some ⟨b, off, none⟩ → Typ w' b 3 ∧ w.heap.size ≤ b

def LearnE (L : List E) (n : Nat) (w : World) (o : Option (Nat × PS)) (e : Ending) (w' : World) : Prop :=
  (o = none ∧ LearnNo e ∧ Below w.heap.size w w') ∨
  ∃ x s1 g cc m bk va vn vc es, o = some (x, s1) ∧ e = .returned (.tuple #[.slice (some ⟨g, 0, none⟩) m cc, .int .i64 bk, .slice va vn vc, .bool true]) ∧ LearnYes L n w x s1 g cc m bk va vn vc es w'

section
variable {k : SK} {w0 w w1 w' : World} {kt : K} {L : List E} {lev : Nat} {p : V} {cls : List (List Int)} {s s' : PS} {v v' : SV} {n : Nat}

theorem repl_not_found {x : Nat} {s : PS} {y : Nat} {s1 : PS} (h : downP L lev cls s x = .inr (some (y, s1))) : y = x := by
  unfold downP at h
  split at h
  · split at h
    · split at h
      · simp at h; exact h.1.symm
      · split at h <;> simp at h
    · simp at h
  · simp at h

theorem downs_mem : ∀ (r : List Nat) (s : PS) (y : Nat) (s1 : PS), downsP L lev cls s r = .inr (some (y, s1)) → y ∈ r := by
  intro r
  induction r with
  | nil => intro s y s1 h; simp [downsP] at h
  | cons x r ih =>
    intro s y s1 h
    simp only [downsP] at h
    cases hd : downP L lev cls s x with
    | inl s' => rw [hd] at h; exact List.mem_cons_of_mem _ (ih s' y s1 h)
    | inr o =>
      rw [hd] at h
      simp only [Sum.inr.injEq] at h
      subst h
      rw [repl_not_found hd]; simp

theorem found_lt (hlt : ∀ e ∈ L, vr e < n) {s : PS} {x : Nat} {s1 : PS} (h : endP (downsP L lev cls s (L.reverse.map E.l)) = some (x, s1)) : x / 2 < n := by
  have h2 : downsP L lev cls s (L.reverse.map E.l) = .inr (some (x, s1)) := by
    cases hd : downsP L lev cls s (L.reverse.map E.l) with
    | inl s' => rw [hd] at h; simp [endP] at h
    | inr o => rw [hd] at h; simp only [endP] at h; rw [h]
  have := downs_mem _ _ _ _ h2
  rw [List.mem_map] at this
  obtain ⟨e, he, rfl⟩ := this
  exact hlt e (List.mem_reverse.1 he)

theorem met_fit (h : Rn k w0 n w s v) (hn : n ≤ 4096) : U.Fit (riseI (natI s.met)) := by
  intro x hx
  unfold riseI natI at hx
  rw [List.mem_mergeSort, List.mem_map] at hx
  obtain ⟨u, hu, rfl⟩ := hx
  have := h.wf.lt u hu
  omega

/-- Behind the sort of the variables. -/
theorem behind {w4 w5 w6 : World} {g cc : Nat} {x : Int} {es : List Int} {go : Option Nat} (c : Cm k w0 kt L lev p cls) (h4 : Rn k w0 n w4 s v) (h5 : Rn k w0 n w5 s v) (ln : Ln w4 w5 g cc x es) (gr : w5.grownBy w6 go) (hgo : ∀ j, go = some j → v.mv.ownBlock = some j) (own : OwnL w6 (k.SB + 1) v.mv (riseI (natI s.met))) :
    Lv k kt L lev p w6 ∧ w6.cell? ⟨k.SB, 259, none⟩ = some v.mv ∧ Ln w4 w6 g cc x es ∧ Below w0.heap.size w0 w6 := by
  have hmine : ∀ j, go = some j → MineS k v j ∧ k.SB < j := fun j e => ⟨.inr (.inr (.inl (hgo j e))), (ownL_lt h5.r.me (hgo j e)).1⟩
  have hlo : w0.heap.size ≤ k.SB := by have := h5.r.lo; rw [c.hB] at this; exact this
  have hsb : w6.heap[k.SB]? = w5.heap[k.SB]? := gr.block _ h5.r.lt (fun e => by have := (hmine _ e.symm).2; omega)
  have hb : Below w0.heap.size w0 w6 := ⟨gr.os.trans h5.b.os, gr.tape.trans h5.b.tape, gr.output.trans h5.b.output, Nat.le_trans h5.b.size gr.size, fun j hj => (gr.block j (Nat.lt_of_lt_of_le hj h5.b.size) (fun e => by have := (hmine _ e.symm).2; omega)).trans (h5.b.block j hj)⟩
  refine ⟨⟨?_, c.t.below hb⟩, ?_, ⟨⟨ln.hg.1, Nat.lt_of_lt_of_le ln.hg.2 gr.size⟩, ln.hc, fun j y hj => ?_, ?_⟩, hb⟩
  · rw [World.cell?_of_block (a := ⟨k.SB, 0, none⟩) hsb]; exact (c.cell h5).1
  · rw [World.cell?_of_block (a := ⟨k.SB, 259, none⟩) hsb]; exact h5.r.c.2.2.2.2.1
  · have hg : w6.heap[g]? = w5.heap[g]? := gr.block g ln.hg.2 (fun e => by have := (h4.r.mine (hmine _ e.symm).1).2.1; have := ln.hg.1; omega)
    rw [World.cell?_of_block (a := ⟨g, j, none⟩) hg]
    exact ln.cells j y hj
  · have hg : w6.heap[g]? = w5.heap[g]? := gr.block g ln.hg.2 (fun e => by have := (h4.r.mine (hmine _ e.symm).1).2.1; have := ln.hg.1; omega)
    obtain ⟨cc, f, h⟩ := ln.ty
    exact ⟨cc, f, hg.trans h⟩

/-! ### The calls, where the block is named otherwise -/
variable {SB : Nat}
theorem has_w (hk : k.SB = SB) (c : Cm k w0 kt L lev p cls) (h : Rn k w0 kt.n w s v) (x : Int) (b : Bool) (hb : decide (0 ≤ x ∧ x < cls.length) = b) :
    Calls Tryz.prog 80 #[.pointer (some ⟨SB, 0, none⟩), .int .i64 x] w fun e w' => e = .returned (.bool b) ∧ w' = w := by subst hk; exact has_is c h x b hb

theorem meetAll_w (hk : k.SB = SB) (c : Cm k w0 kt L lev p cls) (h : Rn k w0 kt.n w s v) {ao : Option Addr} {m cap : Nat} {cl : List Int} (row : U.Row w0 ao m cap cl) (hl0 : lev ≠ 0) (hop : -1000000 ≤ s.op) :
    Calls Tryz.prog 81 #[.pointer (some ⟨SB, 0, none⟩), .slice ao m cap] w fun e w' => ∃ b s' v', e = .returned (.bool b) ∧ Hid (meetsP L lev s cl = (b, s')) ∧ Hid (Rn k w0 kt.n w' s' v') ∧ Hid (s.op ≤ s'.op) := by
  subst hk
  refine (meetAll_is c h row hl0 hop).mono fun e w' q => ?_
  obtain ⟨q1, v', q2, q3⟩ := q
  exact ⟨_, _, v', q1, rfl, q2, (Wf.meets cl s h.wf h.m2 (fun x _ hv => vlA_lt c.t.lits_lt hv)).2.1⟩

theorem goDown_w (hk : k.SB = SB) (c : Cm k w0 kt L lev p cls) (h : Rn k w0 kt.n w s v) (hl0 : lev ≠ 0) (hop : -800000 ≤ s.op) :
    Calls Tryz.prog 82 #[.pointer (some ⟨SB, 0, none⟩)] w fun e w' => (∃ x s1 v1, e = .returned (.tuple #[.int .i64 (x : Nat), .bool true]) ∧ Hid (endP (downsP L lev cls s (L.reverse.map E.l)) = some (x, s1)) ∧ Hid (Rn k w0 kt.n w' s1 v1)) ∨ (e = .returned (.tuple #[.int .i64 0, .bool false]) ∧ Hid (endP (downsP L lev cls s (L.reverse.map E.l)) = none) ∧ Hid (Below w0.heap.size w0 w')) := by
  subst hk
  refine (goDown_is c h hl0 hop).mono fun e w' q => ?_
  rcases q with ⟨x, s1, v1, q1, q2, q3, q4⟩ | ⟨q1, q2, s1, v1, q3, q4⟩
  · exact .inl ⟨x, s1, v1, q2, q1, q3⟩
  · exact .inr ⟨q2, q1, q3.b⟩

theorem clauseWith_w (hk : k.SB = SB) (c : Cm k w0 kt L lev p cls) (h : Rn k w0 kt.n w s v) (x : Int) (hx : 0 ≤ x ∧ x ≤ 9223372036854775807) :
    Calls Tryz.prog 83 #[.pointer (some ⟨SB, 0, none⟩), .int .i64 x] w fun e w' => ∃ g cc es, e = .returned (.slice (some ⟨g, 0, none⟩) (s.oth.length + 1) cc) ∧ Hid (Ln w w' g cc x es) ∧ Hid (es.Perm s.oth ∧ Fall L es) ∧ Hid (Rn k w0 kt.n w' s v) ∧ Hid (Below w.heap.size w w') := by
  subst hk; exact clauseWith_is c h x hx

/-- backLevel, in one form. -/
theorem backLevel_w (hk : k.SB = SB) (h : Lv k kt L lev p w) {w4 : World} {g c m : Nat} {x : Int} {es : List Int} (ln : Ln w4 w g c x es) (hm : es.length + 1 = m) (hes : ∀ y ∈ es, 0 ≤ y ∧ y < 8192) (hml : m ≤ 100000) {bk : Int} (hb : backF L es = bk) :
    Calls Tryz.prog 85 #[.pointer (some ⟨SB, 0, none⟩), .slice (some ⟨g, 0, none⟩) m c] w fun e w' => e = .returned (.int .i64 bk) ∧ Hid (Gr w w') := by
  subst hk hb
  cases es with
  | nil =>
    refine (backLevel_one ⟨k.SB, 0, none⟩ (some ⟨g, 0, none⟩) m c (by simp at hm; omega)).mono fun e w' q => ?_
    exact ⟨q.1, by rw [q.2]; exact Gr.refl _⟩
  | cons y es =>
    have hy := hes y (by simp)
    obtain ⟨u, rfl⟩ := Int.eq_ofNat_of_zero_le hy.1
    have hvl : levelF L ((u / 2 : Nat) : Int) = backF L ((u : Int) :: es) := by
      unfold backF
      have : vl (u : Int) = u / 2 := by unfold vl; simp
      show _ = levelF L (vl (u : Int) : Nat)
      rw [this]
    simp at hm
    exact backLevel_more h g c m u (by omega) (by omega) (by omega) (ln.cells 1 u (by simp)) hvl

set_option maxRecDepth 100000 in
set_option maxHeartbeats 2000000 in
theorem learn_out (t : Trl kt w L lev p) {la : Option Addr} {ln cap : Nat} (gr : U.Grid w la ln cap cls) (hn : kt.n ≤ 4096) (hl0 : lev ≠ 0) (x : Int) (hx : clF cls x = none) :
    Calls Tryz.prog 51 #[.pointer (some ⟨kt.OB, 0, none⟩), .slice la ln cap, .int .i64 x] w fun e w' => LearnNo e ∧ Below w.heap.size w w' := by
  have HT := hid t
  have hst := store71 w (.pointer (some ⟨kt.OB, 0, none⟩)) (.slice la ln cap) (.int .i64 lev) rfl rfl rfl
  have hS := start_is t gr hn
  obtain ⟨Z, hZ⟩ : ∃ Z, Z = z3 Tryz.zeroCells124 (.pointer (some ⟨kt.OB, 0, none⟩)) (.slice la ln cap) (.int .i64 lev) := ⟨_, rfl⟩
  rw [← hZ] at hst hS
  have HS := hid hS
  have HK : Hid ((kOf w kt la ln cap lev).SB = w.heap.size) := hid rfl
  have h2 : Z[2]? = some (.int .i64 lev) := by rw [hZ]; exact (z71_at _ _ _).2.2.1
  have hlb : ((lev : Int) == 0) = false := by simpa using hl0
  have HH : Hid (decide (0 ≤ x ∧ x < cls.length) = false) := hid (by
    unfold clF at hx
    by_cases h0 : x < 0
    · simp; omega
    · rw [if_neg h0, List.getElem?_eq_none_iff] at hx
      simp; omega)
  clear t hZ hS gr hx
  go_enter Tryz.func51, Tryz.ntmps51
  go_wp2_with (first
    | (go_at_call 32; with_reducible (refine (levels_is HT.out).mono ?_); rintro e w ⟨rfl, rfl⟩)
    | (go_at_call 80; with_reducible (refine (has_w HK.out HS.out.1 HS.out.2 _ _ HH.out).mono ?_); rintro e w2 ⟨rfl, rfl⟩))
  go_returns
  exact ⟨rfl, by go_grown⟩

def learnO (L : List E) (lev : Nat) (cls : List (List Int)) (cl : List Int) : Option (Nat × PS) :=
  if (meetsP L lev zeroP cl).1 = true then endP (downsP L lev cls (meetsP L lev zeroP cl).2 (L.reverse.map E.l)) else none
theorem learnO_no {cl : List Int} {s2 : PS} (h : meetsP L lev zeroP cl = (false, s2)) : learnO L lev cls cl = none := by unfold learnO; rw [h]; rfl
theorem learnO_yes {cl : List Int} {s2 : PS} (h : meetsP L lev zeroP cl = (true, s2)) : learnO L lev cls cl = endP (downsP L lev cls s2 (L.reverse.map E.l)) := by unfold learnO; rw [h, if_pos rfl]
theorem op_ok {s2 : PS} (h : zeroP.op ≤ s2.op) : -800000 ≤ s2.op := by have : zeroP.op = 0 := rfl; omega

theorem lit_ok {x : Nat} (h : x / 2 < n) (hn : n ≤ 4096) : (x : Int) ≤ 9223372036854775807 ∧ 0 ≤ U.notF (x : Int) ∧ U.notF (x : Int) ≤ 9223372036854775807 := by
  unfold U.notF
  rw [if_neg (by omega)]
  split <;> omega

theorem sort_met_at (h : Rn k w0 n w s v) (hn : n ≤ 4096) {a : Option Addr} {m c : Nat} (em : v.mv = .slice a m c) :
    Calls Tryz.prog 84 #[.slice a m c] w fun e w' => e = .returned (.tuple #[]) ∧ ∃ go, Hid (w.grownBy w' go) ∧ Hid (∀ j, go = some j → v.mv.ownBlock = some j) ∧ Hid (OwnL w' (k.SB + 1) v.mv (riseI (natI s.met))) := by
  rw [← em]
  exact sort_met h.r.me (by have := h.wf.len; simp [natI]; omega)

theorem es_ok (h : Rn k w0 n w s v) (hn : n ≤ 4096) {es : List Int} (hp : es.Perm s.oth) : (∀ y ∈ es, 0 ≤ y ∧ y < 8192) ∧ es.length + 1 ≤ 100000 ∧ es.length = s.oth.length := by
  have h1 := h.wf.ob
  have h2 := h.wf.ol
  have h3 := h.wf.len
  have h4 := hp.length_eq
  exact ⟨fun y hy => by have := h1 y (hp.mem_iff.1 hy); omega, by omega, h4⟩

theorem gr_cell {w' : World} {a : Addr} {x : Value} (g : Gr w w') (h : w.cell? a = some x) : w'.cell? a = some x := (g.below.cell (cell_lt h)).trans h

theorem typ_below {w w' : World} {j : Nat} {T : TypeId} (b : Below w.heap.size w w') (h : Typ w j T) : Typ w' j T := by
  obtain ⟨c, f, h⟩ := h
  exact ⟨c, f, (b.block j (blk_lt h)).trans h⟩
theorem own_typ0 {w : World} {B : Nat} {v : Value} {xs : List Int} (h : OwnL w B v xs) {j : Nat} (e : v.ownBlock = some j) : Typ w j 3 := by
  rcases h.2 with ⟨q, _⟩ | ⟨b, cap, cur, q, _, hg, _⟩
  · rw [q] at e; simp [Value.ownBlock] at e
  · rw [q] at e; simp [Value.ownBlock] at e; subst e; exact ⟨_, _, hg⟩

/-- All of it, told. -/
theorem learn_end {w4 w6 w7 : World} {x : Nat} {g cc : Nat} {es : List Int} {am : Option Addr} {m cm : Nat} (c : Cm k w kt L lev p cls) (r4 : Rn k w kt.n w4 s v) (hn : kt.n ≤ 4096) (ln : Ln w4 w6 g cc (U.notF x) es) (hp : es.Perm s.oth ∧ Fall L es) (own : OwnL w6 (k.SB + 1) v.mv (riseI (natI s.met))) (em : v.mv = .slice am m cm) (b6 : Below w.heap.size w w6) (g7 : Gr w6 w7) (hx : x / 2 < kt.n) (hsb : w.heap.size ≤ k.SB) :
    LearnYes L kt.n w x s g cc (s.oth.length + 1) (backF L es) am m cm es w7 := by
  obtain ⟨e1, e2, e3⟩ := es_ok r4 hn hp.1
  have hl := lit_ok hx hn
  have r := ln.row (fun y hy => by
    rcases List.mem_cons.1 hy with rfl | hy
    · omega
    · have := e1 y hy; omega)
  rw [e3] at r
  have own2 : U.Own w6 (k.SB + 1) (.slice am m cm) (riseI (natI s.met)) := ⟨by rw [em] at own; exact own, met_fit r4 hn⟩
  obtain ⟨a', c', ee, r2⟩ := own2.row
  cases ee
  have hlm := r2.1
  refine ⟨r.keep g7.below, r2.keep g7.below, hp.1, hp.2, rfl, b6.trans (g7.below.mono b6.size), by have h1 := r4.wf.ol; have h2 := r4.wf.len; omega, Nat.le_trans r4.b.size ln.hg.1, typ_below g7.below ln.ty, ?_, fun y hy => ?_, fun b off e => ?_⟩
  · have := r4.wf.len
    simp [riseI, natI, List.length_mergeSort]; omega
  · rcases List.mem_cons.1 hy with rfl | hy
    · unfold U.notF
      rw [if_neg (by omega)]
      split <;> omega
    · exact r4.wf.ob y (hp.1.mem_iff.1 hy)
  have eo : v.mv.ownBlock = some b := by
    rcases own.2 with ⟨q, _⟩ | ⟨b', cap, cur, q, _, hg, _⟩
    · rw [em, e] at q; cases q
    · rw [em, e] at q; cases q; rw [em, e]; rfl
  exact ⟨typ_below g7.below (own_typ0 own eo), by have := (ownL_lt own eo).1; omega⟩

set_option maxRecDepth 100000 in
set_option maxHeartbeats 4000000 in
theorem learn_in (t : Trl kt w L lev p) {la : Option Addr} {ln cap : Nat} (gr : U.Grid w la ln cap cls) (hn : kt.n ≤ 4096) (hl0 : lev ≠ 0) (x : Nat) {cl : List Int} (hx : cls[x]? = some cl) :
    Calls Tryz.prog 51 #[.pointer (some ⟨kt.OB, 0, none⟩), .slice la ln cap, .int .i64 x] w fun e w' => LearnE L kt.n w (learnO L lev cls cl) e w' := by
  have HT := hid t
  have hst := store71 w (.pointer (some ⟨kt.OB, 0, none⟩)) (.slice la ln cap) (.int .i64 lev) rfl rfl rfl
  have hS := start_is t gr hn
  have hrl := (List.getElem?_eq_some_iff.1 hx).1
  have hgl := gr.1
  have hgm := gr.max
  obtain ⟨gb, go, a, m, cp, ys, rfl, gc, gy, grow⟩ := gr.at (show x < ln by omega)
  have : ys = cl := by have := gy.out; rw [hx] at this; exact (Option.some.inj this).symm
  subst this
  obtain ⟨Z, hZ⟩ : ∃ Z, Z = z3 Tryz.zeroCells124 (.pointer (some ⟨kt.OB, 0, none⟩)) (.slice (some ⟨gb, go, none⟩) ln cap) (.int .i64 lev) := ⟨_, rfl⟩
  rw [← hZ] at hst hS
  obtain ⟨k, hk⟩ : ∃ k, k = kOf w kt (some ⟨gb, go, none⟩) ln cap lev := ⟨_, rfl⟩
  have HK : Hid (k.SB = w.heap.size) := hid (by rw [hk]; rfl)
  rw [← hk] at hS
  have HS := hid hS
  have h2 : Z[2]? = some (.int .i64 lev) := by rw [hZ]; exact (z71_at _ _ _).2.2.1
  have hlb : ((lev : Int) == 0) = false := by simpa using hl0
  have HH : Hid (decide (0 ≤ (x : Int) ∧ (x : Int) < cls.length) = true) := hid (by simp; omega)
  have hxl : (x : Int) < ln := by omega
  have gc1 : (w.alloc (.cells Z 124)).cell? ⟨gb, go + x, none⟩ = some (.slice a m cp) := by
    have b1 : Below w.heap.size w (w.alloc (.cells Z 124)) := by go_grown
    exact (b1.cell (cell_lt gc)).trans gc
  have hz0 : -1000000 ≤ zeroP.op := by decide
  have HLT := hid t.lits_lt
  have hnn := hn
  clear t hZ hS gr hx hk gy gc
  go_enter Tryz.func51, Tryz.ntmps51
  go_wp2_with (first
    | (go_at_call 32; with_reducible (refine (levels_is HT.out).mono ?_); rintro e w ⟨rfl, rfl⟩)
    | (go_at_call 80; with_reducible (refine (has_w HK.out HS.out.1 HS.out.2 _ _ HH.out).mono ?_); rintro e w2 ⟨rfl, rfl⟩)
    | (go_at_call 81; with_reducible (refine (meetAll_w HK.out HS.out.1 HS.out.2 grow.out hl0 hz0).mono ?_); rintro e w2 ⟨b2, s2, v2, rfl, m2, r2, o2⟩; have O2 := hid (op_ok o2.out); cases b2)
    | (go_at_call 82; with_reducible (refine (goDown_w HK.out HS.out.1 r2.out hl0 O2.out).mono ?_); rintro e w3 (⟨x3, s3, v3, rfl, d3, r3⟩ | ⟨rfl, d3, b3⟩); rotate_left; rotate_left; have X3 := hid (found_lt HLT.out d3.out); have Y3 := hid (lit_ok X3.out hnn); rotate_left)
    | (go_at_call 79; with_reducible (refine (U.not_any _ _ Y3.out.1).mono ?_); rintro e w4 ⟨rfl, b4⟩; have R4 := hid (r3.out.below b4))
    | (go_at_call 83; with_reducible (refine (clauseWith_w HK.out HS.out.1 R4.out _ Y3.out.2).mono ?_); rintro e w5 ⟨g5, cc5, es5, rfl, l5, p5, r5, b5⟩; have sh5 := r5.out.r.shapes; obtain ⟨⟨am, cm, em⟩, _⟩ := sh5; have c259 := r5.out.r.c.2.2.2.2.1; rw [HK.out, em] at c259)
    | (go_at_call 84; with_reducible (refine (sort_met_at r5.out hnn em).mono ?_); rintro e w6 ⟨rfl, go6, g6, h6, own6⟩; have B6 := behind HS.out.1 R4.out r5.out l5.out g6.out h6.out own6.out; obtain ⟨lv6, c6, ln6, b6⟩ := B6; have LV6 := hid lv6; have LN6 := hid ln6; have BB6 := hid b6; rw [HK.out, em] at c6; clear lv6 ln6 b6))
  · go_returns
    exact .inl ⟨learnO_no m2.out, rfl, (HS.out.1.hB ▸ r2.out.b)⟩
  · go_returns
    exact .inl ⟨(learnO_yes m2.out).trans d3.out, rfl, b3.out⟩
  · have hes := es_ok r5.out hnn p5.out.1
    have HE := hid hes.1
    have HM : Hid (es5.length + 1 = s3.oth.length + 1) := hid (by rw [hes.2.2])
    have hml : s3.oth.length + 1 ≤ 100000 := by rw [← hes.2.2]; exact hes.2.1
    have HLd := hid (LV6.out.below (below_drew w6))
    have LNd : Hid (Ln w4 w6.drew g5 cc5 (U.notF x3) es5) := hid ⟨LN6.out.hg, LN6.out.hc, LN6.out.cells, LN6.out.ty⟩
    have c6d : w6.drew.cell? ⟨w.heap.size, 259, none⟩ = some (.slice am s3.met.length cm) := c6
    obtain ⟨bk, hbk⟩ : ∃ bk, backF L es5 = bk := ⟨_, rfl⟩
    have HBK := hid hbk
    clear hes hbk c6
    go_region_with (go_at_call 85; with_reducible (refine (backLevel_w HK.out HLd.out LNd.out HM.out HE.out hml HBK.out).mono ?_); rintro e w7 ⟨rfl, g7⟩; have c7 := gr_cell g7.out c6d)
    all_goals go_wp2_with fail
    all_goals go_returns
    all_goals exact .inr ⟨x3, s3, g5, cc5, _, bk, am, _, cm, es5, (learnO_yes m2.out).trans d3.out, rfl, HBK.out ▸ learn_end HS.out.1 R4.out hnn LN6.out p5.out own6.out em BB6.out ((Gr.drew w6).trans g7.out) X3.out (Nat.le_of_eq HK.out.symm)⟩

/-- Learn, in one form. -/
theorem learn_is (t : Trl kt w L lev p) {la : Option Addr} {ln cap : Nat} (gr : U.Grid w la ln cap cls) (hn : kt.n ≤ 4096) (x : Int) :
    Calls Tryz.prog 51 #[.pointer (some ⟨kt.OB, 0, none⟩), .slice la ln cap, .int .i64 x] w fun e w' => LearnE L kt.n w (learnP L lev cls x) e w' := by
  by_cases hl0 : lev = 0
  · subst hl0
    have e1 : learnP L 0 cls x = none := by unfold learnP; rw [if_pos rfl]
    rw [e1]
    refine (learn_zero t la ln cap x).mono fun e w' q => ?_
    exact .inl ⟨rfl, q.1, q.2⟩
  · cases hc : clF cls x with
    | none =>
      have e1 : learnP L lev cls x = none := by unfold learnP; rw [if_neg hl0, hc]
      rw [e1]
      refine (learn_out t gr hn hl0 x hc).mono fun e w' q => ?_
      exact .inl ⟨rfl, q.1, q.2⟩
    | some cl =>
      have e1 : learnP L lev cls x = learnO L lev cls cl := by unfold learnP learnO; rw [if_neg hl0, hc]
      rw [e1]
      unfold clF at hc
      by_cases h0 : x < 0
      · rw [if_pos h0] at hc; cases hc
      · rw [if_neg h0] at hc
        obtain ⟨m, rfl⟩ := Int.eq_ofNat_of_zero_le (show 0 ≤ x by omega)
        exact learn_in t gr hn hl0 m (by simpa using hc)
end

end Go.Proofs.YtimfjoinjfecjaaGreat
