/-
  An order (stage 8): Push, Pop, Bump, Halve, New.
-/
import Derived.Test.YtimfjoinjfecjaaGreatQ21

namespace Go.Proofs.YtimfjoinjfecjaaGreat.Od
open Go.RowKit
set_option linter.unusedVariables false

/-- One element more at the end of a list that the call has made. -/
theorem append_new {w w1 : World} {ops : Array Oper} {rest : List Oper} {o : Oper} {a : Act} {Q : Exit → Act → World → Prop} (hgd : o.guard = none) (s x : Operand)
    (ho : o.op = .call { callee := .builtin .append, args := #[s, x], argTypes := #[42, 42] })
    (y : Int) (hw : w = w1.alloc (.cells #[.int .i64 y] 3)) (B n : Nat) (v : Value) (xs : List Value) (hs : a.eval s = v) (own : w1.ownsRow B 3 1 v n xs)
    (q : Nat) (hx : a.eval x = .slice (some ⟨q, 0, none⟩) 1 1) (hq : q = w1.heap.size) (hbd : n ≤ 100000000) (hB : B ≤ w1.heap.size)
    (h : ∀ v' w', Hid (w'.ownsRow B 3 1 v' (n + 1) (xs ++ [.int .i64 y])) → Hid (w1.grownBy w' v.ownBlock) → Hid (∀ j, v'.ownBlock = some j → v.ownBlock = some j ∨ w1.heap.size ≤ j) → wpList Tryz.prog ops Q rest (a.put o.dst v') w') : wpList Tryz.prog ops Q (o :: rest) a w := by
  subst hw hq
  obtain ⟨i0, hi, hz0, hz1, hz2⟩ := info_parts Tryz.info3
  refine wpList_append_own_at (P := Tryz.prog) (w := w1.alloc (.cells #[.int .i64 y] 3)) hgd s x 42 ho B 3 i0 (.int .i64 0) 1 8 Tryz.underlying42 hi hz0 hz1 hz2 rfl (by omega) v n xs hs (own.alloc _) ⟨w1.heap.size, 0, none⟩ 1 1 [.int .i64 y] hx (by simp) ?_ (by simp [Value.oneCell']) (by unfold maxLen; omega) (by omega) (by simp; omega) ?_
  · intro j u hj
    have e : (⟨w1.heap.size, 0, none⟩ : Addr).add j = ⟨w1.heap.size, j, none⟩ := by
      by_cases hz : j = 0
      · subst hz; rfl
      · simp [Addr.add, hz]
    rw [e, cell_of (new_same w1 _)]
    simpa using hj
  · intro v' w' h1 h2 _ h3
    refine h v' w' h1 (grown_two (grown_new w1 _ _) h2) fun j hj => ?_
    rcases h3 with h3 | h3
    · exact .inl (by rw [← h3]; exact hj)
    · rw [h3] at hj
      have := Option.some.inj hj
      simp at this
      exact .inr (by omega)

/-- What lies there behind the append. -/
theorem Raw.more {k : K} {w w5 : World} {A hs P : List Int} {wv v5 : Value} {x : Int} (s : Raw k w A hs P wv) (own : w5.ownsRow (k.OB + 1) 3 1 v5 (hs.length + 1) (hs.map (Value.int .i64) ++ [.int .i64 x])) (g : w.grownBy w5 wv.ownBlock)
    (new : ∀ j, v5.ownBlock = some j → wv.ownBlock = some j ∨ w.heap.size ≤ j) :
    ∃ g5 c5, v5 = .slice (some ⟨g5, 0, none⟩) (hs.length + 1) c5 ∧ w5.cell? ⟨k.OB, 1, none⟩ = some wv ∧ w5.frozen? ⟨k.OB, 1, none⟩ = false ∧ Hid (Raw k (w5.setCell ⟨k.OB, 1, none⟩ v5) A (hs ++ [x]) P v5) ∧ Hid (Fr k wv v5 w (w5.setCell ⟨k.OB, 1, none⟩ v5)) := by
  have own' : w5.ownsRow (k.OB + 1) 3 1 v5 (hs ++ [x]).length ((hs ++ [x]).map (Value.int .i64)) := by simpa using own
  obtain ⟨e, r⟩ := s.putv (wv' := v5) g own'
  obtain ⟨g5, c5, e5⟩ := r.filled (by simp)
  refine ⟨g5, c5, by simpa using e5, by rw [cell_of e]; rfl, frozen_of e, r, ?_⟩
  have g2 := grown_set w5 ⟨k.OB, 1, none⟩ v5
  refine ⟨g2.os.trans g.os, g2.tape.trans g.tape, g2.output.trans g.output, Nat.le_trans g.size g2.size, fun j hj hm => ?_, new⟩
  rw [set_other _ (fun c => hm (.inr (.inr (.inl c))))]
  exact g.block j hj (fun c => hm (.inr (.inr (.inr c.symm))))

theorem fn_snoc {l : List Int} {x : Int} {i : Nat} (h : i < l.length) : fn (l ++ [x]) i = fn l i := by simp [fn, List.getElem?_append_left h]
theorem fn_last (l : List Int) (x : Int) : fn (l ++ [x]) l.length = x := by simp [fn]

def PushEnd (k : K) (A : List Int) (W : List Bool) (wv : Value) (v : Int) (w w' : World) : Prop := ∃ wv', Ord k w' A (pushW k.n W v) wv' ∧ Fr k wv wv' w w'

theorem push_end {k : K} {w w6 w' : World} {A hs : List Int} {W : List Bool} {wv v5 : Value} {v : Nat} (hv : v < k.n) (hw : wt W v = false) (g : Good k.n A W hs) (f : Fr k wv v5 w w6) (r : RiseEnd k A (hs ++ [(v : Int)]) v5 v hs.length w6 w') : PushEnd k A W wv v w w' := by
  obtain ⟨hs', i', m, _, hp⟩ := r
  have hl : hs'.length = hs.length + 1 := by rw [m.len]; simp
  have ha : pushA k.n W v = true := by simp [pushA, isF_nat hv, hw]
  refine ⟨v5, ⟨hs', m.gd, ?_, ?_⟩, f.trans m.fr⟩
  · rw [m.len]
    exact hp (kids_none (by simp; omega))
  · rw [pushW, if_pos ha, Int.toNat_natCast]
    refine g.push hv hw hl fun x => ?_
    rw [m.len, m.same x]
    simp only [In, List.length_append, List.length_singleton]
    constructor
    · rintro ⟨i, hi, e⟩
      by_cases c : i = hs.length
      · subst c; rw [fn_last] at e; exact .inr e.symm
      · rw [fn_snoc (by omega)] at e; exact .inl ⟨i, by omega, e⟩
    · rintro (⟨i, hi, e⟩ | e)
      · exact ⟨i, by omega, by rw [fn_snoc hi]; exact e⟩
      · exact ⟨hs.length, by omega, by rw [fn_last]; exact e.symm⟩

theorem push_ready {k : K} {w : World} {A hs P : List Int} {v5 : Value} {v : Nat} (hv : v < k.n) (s : Raw k w A (hs ++ [(v : Int)]) P v5) (p : Pl k.n hs.length (fn hs) (fn P)) (h0 : fn P v = 0) (hp : Heap (ac A) hs.length (fn hs) 0) :
    Gd k (w.setCell ⟨k.PB, v, none⟩ (.int .i64 (hs.length + 1))) A (hs ++ [(v : Int)]) v5 ∧ Broken (ac A) (hs ++ [(v : Int)]).length (fn (hs ++ [(v : Int)])) hs.length := by
  refine ⟨⟨_, s.putp v (hs.length + 1), ?_⟩, ?_⟩
  · have hl : v < P.length := by rw [s.lp]; exact hv
    rw [List.length_append]
    refine pl_push p hv h0 (fun i hi => fn_snoc hi) (fn_last _ _) ?_ (fun u hu => ?_)
    · rw [fn_set hl, if_pos rfl]
    · rw [fn_set hl, if_neg hu]
  · rw [List.length_append]
    exact pushed hp fun i hi => fn_snoc hi

set_option maxHeartbeats 1000000 in
theorem push_any {k : K} {w : World} {A : List Int} {W : List Bool} {wv : Value} (s : Ord k w A W wv) (v : Int) :
    Calls Tryz.prog 29 #[.pointer (some ⟨k.OB, 0, none⟩), .int .i64 v] w fun e w' => e = .returned (.bool (pushA k.n W v)) ∧ PushEnd k A W wv v w w' := by
  obtain ⟨hs, ⟨P, s, p⟩, hp, g⟩ := id s
  have hno : pushA k.n W v = false → PushEnd k A W wv v w w := fun h => ⟨wv, by rw [pushW, h]; exact ⟨hs, ⟨P, s, p⟩, hp, g⟩, Fr.refl _ _ _⟩
  cases hi : isF k.n v
  · have ha : pushA k.n W v = false := by simp [pushA, hi]
    have HE := hid (hno ha)
    have HA := hid ha
    have HS := hid s
    clear s p hp g hno ha
    go_enter Tryz.func29, Tryz.ntmps29
    go_wp2_with (go_at_call 43; with_reducible (refine (is_any HS.out _).mono ?_); rintro e w ⟨rfl, rfl⟩)
    go_ret
    exact ⟨by rw [HA.out]; rfl, HE.out⟩
  · obtain ⟨v, rfl, hv⟩ := isF_yes hi
    have hv' : (v : Int) < k.n := by omega
    have c2 := s.c2
    have cp := s.cp hv
    cases hw : wt W v
    · have ha : pushA k.n W v = true := by simp [pushA, hi, hw]
      have h0 : fn P v = 0 := pl_out p hv (fun c => by rw [(g.wr v hv).2 c] at hw; cases hw)
      rw [h0] at cp
      have c1 := s.c1
      have hle := p.len
      have hkn := s.hn
      have hOB := blk_lt s.cl
      obtain ⟨ao, cap, ew⟩ := s.shape
      rw [ew] at c1
      have HA := hid ha
      have HS := hid s
      have HP := hid p
      have HH := hid hp
      have HG := hid g
      have H0 := hid h0
      have HW := hid hw
      have EW := hid ew
      clear s p hp g hno ha h0 hw ew
      go_enter Tryz.func29, Tryz.ntmps29
      go_wp2_with (first
        | (go_at_call 43; with_reducible (refine (is_any HS.out _).mono ?_); rintro e w ⟨rfl, rfl⟩)
        | (at_builtin; refine append_new (w1 := w) rfl _ _ rfl v rfl (k.OB + 1) hs.length wv _ EW.out.symm HS.out.wt _ rfl (by simp) (by omega) (by omega) ?_; intro v5 w5 own5 g5 new5; have m5 := HS.out.more own5.out g5.out new5.out; obtain ⟨g6, c6, rfl, d1, d2, r6, f6⟩ := m5; rw [EW.out] at d1; have e1 := r6.out.c1; have e2 := r6.out.c2; have e3 := r6.out.cp hv; have e4 := r6.out.cpf v))
      revert r6 f6 e1 e2 e3 e4
      generalize w5.setCell ⟨k.OB, 1, none⟩ (.slice (some ⟨g6, 0, none⟩) (hs.length + 1) c6) = w6
      intro r6 f6 e1 e2 e3 e4
      clear own5 g5 new5 d1 d2 c1 c2 cp
      have R7 := hid (push_ready hv r6.out HP.out H0.out HH.out)
      have F7 : Hid (Fr k wv (.slice (some ⟨g6, 0, none⟩) (hs.length + 1) c6) w (w6.setCell ⟨k.PB, v, none⟩ (.int .i64 (hs.length + 1))).drew) :=
        hid ((f6.out.trans (Fr.grown (grown_set w6 _ _) (fun q hq => by cases hq; exact .inr (.inl rfl)))).trans (Fr.drew _ _ _))
      go_region
      go_wp2_with (go_at_call 44; with_reducible (refine (rise_any (R7.out.1.below (below_drew _)) v hs.length (by simp) (fn_last _ _) R7.out.2).mono ?_); rintro e w8 ⟨rfl, h8⟩)
      go_ret
      exact ⟨by rw [HA.out]; rfl, push_end hv HW.out HG.out F7.out h8⟩
    · have ha : pushA k.n W v = false := by simp [pushA, hi, hw]
      have h0 : 0 < fn P v := (pl_in p hv).1 ((g.wr v hv).1 hw)
      have HE := hid (hno ha)
      have HA := hid ha
      have HS := hid s
      clear s p hp g hno ha hw
      go_enter Tryz.func29, Tryz.ntmps29
      go_wp2_with (go_at_call 43; with_reducible (refine (is_any HS.out _).mono ?_); rintro e w ⟨rfl, rfl⟩)
      go_ret
      exact ⟨by rw [HA.out]; rfl, HE.out⟩

end Go.Proofs.YtimfjoinjfecjaaGreat.Od

namespace Go.Proofs.YtimfjoinjfecjaaGreat.Od
open Go.RowKit
set_option linter.unusedVariables false

theorem grown_same (w : World) (r : Option Nat) : w.grownBy w r := ⟨rfl, rfl, rfl, Nat.le_refl _, fun _ _ _ => rfl⟩

theorem Raw.cut {k : K} {w : World} {A hs P : List Int} {g l cap m : Nat} (s : Raw k w A hs P (.slice (some ⟨g, 0, none⟩) l cap)) (hl : l = hs.length) (hm : m ≤ l) :
    Raw k (w.setCell ⟨k.OB, 1, none⟩ (.slice (some ⟨g, 0, none⟩) m cap)) A (hs.take m) P (.slice (some ⟨g, 0, none⟩) m cap) := by
  subst hl
  have e : (hs.take m).length = m := by rw [List.length_take]; omega
  refine (s.putv (grown_same w _) (wv' := .slice (some ⟨g, 0, none⟩) m cap) (hs' := hs.take m) ?_).2
  rw [e, List.map_take]
  exact own_cut s.wt hm

theorem Fr.cut {k : K} {w : World} {g l cap m : Nat} : Fr k (.slice (some ⟨g, 0, none⟩) l cap) (.slice (some ⟨g, 0, none⟩) m cap) w (w.setCell ⟨k.OB, 1, none⟩ (.slice (some ⟨g, 0, none⟩) m cap)) := by
  have g2 := grown_set w ⟨k.OB, 1, none⟩ (.slice (some ⟨g, 0, none⟩) m cap)
  exact ⟨g2.os, g2.tape, g2.output, g2.size, fun j hj hm => set_other _ (fun c => hm (.inr (.inr (.inl c)))), fun j hj => .inl hj⟩

theorem fn_take {l : List Int} {m i : Nat} (h : i < m) : fn (l.take m) i = fn l i := by simp [fn, h]

theorem sunk_congr {a : Int → Int} {m : Nat} {h h' : Nat → Int} {lo i : Nat} (s : Sunk a m h lo i) (e : ∀ c, c < m → h' c = h c) : Sunk a m h' lo i := by
  refine ⟨fun c c0 cm cl c1 => ?_, fun c c0 cm c1 i0 hl => ?_⟩
  · have := par_lt c0
    rw [e c cm, e _ (by omega)]
    exact s.1 c c0 cm cl c1
  · have := par_lt c0
    have := par_lt i0
    rw [e c cm, e _ (by omega)]
    exact s.2 c c0 cm c1 i0 hl

theorem top_first {k : K} {w : World} {A hs : List Int} {W : List Bool} {wv : Value} {x : Nat} (s : Gd k w A hs wv) (hp : Heap (ac A) hs.length (fn hs) 0) (g : Good k.n A W hs) (h0 : 0 < hs.length) (hx : fn hs 0 = x) : First A W A.length x := by
  obtain ⟨P, s, p⟩ := s
  have h1 := p.1 0 h0
  rw [hx] at h1
  rw [s.la]
  refine ⟨by omega, (g.wr x (by omega)).2 ⟨0, h0, hx⟩, fun u hu hw hne => ?_⟩
  obtain ⟨i, hi, e⟩ := (g.wr u hu).1 hw
  have := heap_top hp i hi
  rw [e, hx, ahd_no] at this
  rw [ahd_yes]
  omega

theorem none_waits {k : K} {w : World} {A hs : List Int} {W : List Bool} {wv : Value} (s : Gd k w A hs wv) (g : Good k.n A W hs) (h0 : hs.length = 0) : ∀ u : Nat, u < A.length → wt W u = false := by
  obtain ⟨P, s, p⟩ := s
  intro u hu
  rw [s.la] at hu
  cases h : wt W u
  · rfl
  · obtain ⟨i, hi, _⟩ := (g.wr u hu).1 h
    omega

def PopEnd (k : K) (A : List Int) (W : List Bool) (wv : Value) (w w' : World) : Prop := ∃ wv', Ord k w' A (popW A W) wv' ∧ Fr k wv wv' w w'

/-- Those that are left. -/
theorem left_in {hs hs1 : List Int} {m x : Nat} (hl : hs.length = m + 1) (e : fn hs1 = sw (fn hs) 0 m) (hx : fn hs 0 = x) (inj : ∀ i j, i < m + 1 → j < m + 1 → fn hs i = fn hs j → i = j) (y : Int) :
    In m (fn (hs1.take m)) y ↔ In hs.length (fn hs) y ∧ y ≠ x := by
  rw [hl]
  constructor
  · rintro ⟨i, hi, rfl⟩
    rw [fn_take hi, e]
    by_cases c : i = 0
    · subst c
      rw [sw_l]
      refine ⟨⟨m, by omega, rfl⟩, fun q => ?_⟩
      have := inj m 0 (by omega) (by omega) (by rw [q, hx])
      omega
    · rw [sw_o _ c (by omega)]
      refine ⟨⟨i, by omega, rfl⟩, fun q => c (inj i 0 (by omega) (by omega) (by rw [q, hx]))⟩
  · rintro ⟨⟨i, hi, rfl⟩, hne⟩
    by_cases c : i = m
    · subst c
      have h0 : 0 < i := by
        rcases Nat.eq_zero_or_pos i with q | q
        · subst q; exact absurd hx hne
        · exact q
      exact ⟨0, h0, by rw [fn_take h0, e, sw_l]⟩
    · have h0 : i ≠ 0 := fun q => by subst q; exact hne hx
      exact ⟨i, by omega, by rw [fn_take (by omega), e, sw_o _ h0 c]⟩

/-- Behind the swap, the cut and the place that is struck. -/
theorem pop_ready {k : K} {w : World} {A hs1 P1 : List Int} {g cap m x : Nat} (s : Raw k w A hs1 P1 (.slice (some ⟨g, 0, none⟩) (m + 1) cap)) (hl : hs1.length = m + 1) (p : Pl k.n (m + 1) (fn hs1) (fn P1)) (hm : fn hs1 m = x) :
    Gd k ((w.setCell ⟨k.OB, 1, none⟩ (.slice (some ⟨g, 0, none⟩) m cap)).setCell ⟨k.PB, x, none⟩ (.int .i64 0)) A (hs1.take m) (.slice (some ⟨g, 0, none⟩) m cap) := by
  have hx := p.1 m (by omega)
  rw [hm] at hx
  have s1 := s.cut (m := m) hl.symm (by omega)
  have hxl : x < P1.length := by rw [s.lp]; omega
  refine ⟨_, s1.putp x 0, ?_⟩
  have e : (hs1.take m).length = m := by rw [List.length_take]; omega
  rw [e]
  refine pl_pop p hm (fun i hi => fn_take hi) ?_ (fun u hu => ?_)
  · rw [fn_set hxl, if_pos rfl]
  · rw [fn_set hxl, if_neg hu]

theorem Raw.le {k : K} {w : World} {A hs P : List Int} {ao : Option Addr} {l cap : Nat} (s : Raw k w A hs P (.slice ao l cap)) : l ≤ cap := by
  rcases s.wt.2 with ⟨e, h⟩ | ⟨b, c, cur, e, _, _, h, _⟩
  · cases e; omega
  · cases e; exact h

theorem Gd.c1 {k : K} {w : World} {A hs : List Int} {wv : Value} (s : Gd k w A hs wv) : w.cell? ⟨k.OB, 1, none⟩ = some wv := by
  obtain ⟨P, s, p⟩ := s; exact s.c1

theorem Gd.ch {k : K} {w : World} {A hs : List Int} {g l cap i : Nat} (s : Gd k w A hs (.slice (some ⟨g, 0, none⟩) l cap)) (hi : i < l) : ∃ u : Nat, fn hs i = u ∧ u < k.n ∧ w.cell? ⟨g, i, none⟩ = some (.int .i64 u) := by
  obtain ⟨P, s, p⟩ := s
  have hl := s.len rfl
  have := p.1 i (by omega)
  refine ⟨(fn hs i).toNat, by omega, by omega, ?_⟩
  rw [s.ch hl hi]
  congr 2
  omega

/-- All is done: what is left waits, and none of it is ahead of the first. -/
theorem pop_end {k : K} {w w' : World} {A hs hs1 hs2 : List Int} {W : List Bool} {wv wv3 : Value} {m x : Nat} (hl : hs.length = m + 1) (l1 : hs1.length = hs.length) (e : fn hs1 = sw (fn hs) 0 m) (hx : fn hs 0 = x) (inj : ∀ i j, i < m + 1 → j < m + 1 → fn hs i = fn hs j → i = j)
    (hf : First A W A.length x) (hla : A.length = k.n) (g : Good k.n A W hs) (hw : popW A W = W.set x false) (gd : Gd k w' A hs2 wv3) (l2 : hs2.length = m) (hin : ∀ y, In m (fn hs2) y ↔ In m (fn (hs1.take m)) y) (hp : Heap (ac A) m (fn hs2) 0) (fr : Fr k wv wv3 w w') : PopEnd k A W wv w w' := by
  refine ⟨wv3, ⟨hs2, gd, by rw [l2]; exact hp, ?_⟩, fr⟩
  rw [hw]
  refine g.pop (by have := hf.1; omega) hf.2.1 (by omega) fun y => ?_
  rw [l2, hin, left_in hl e hx inj]

theorem SwapEnd.out {k : K} {A hs : List Int} {wv : Value} {i j : Nat} {w w' : World} (h : SwapEnd k A hs wv i j w w') :
    ∃ hs' P', Raw k w' A hs' P' wv ∧ Hid (Pl k.n hs'.length (fn hs') (fn P')) ∧ Hid (hs'.length = hs.length) ∧ Hid (fn hs' = sw (fn hs) i j) ∧ Hid (Fr k wv wv w w') := by
  obtain ⟨hs', ⟨P', r, p⟩, l, e, f⟩ := h
  exact ⟨hs', P', r, p, l, e, f⟩

theorem pop_fr {k : K} {w w2 : World} {ga l cap m x nq : Nat} (f : Fr k (.slice (some ⟨ga, 0, none⟩) l cap) (.slice (some ⟨ga, 0, none⟩) l cap) (w.drewN nq) w2) (hl : l = m + 1) :
    Fr k (.slice (some ⟨ga, 0, none⟩) l cap) (.slice (some ⟨ga, 0, none⟩) m cap) w ((w2.setCell ⟨k.OB, 1, none⟩ (.slice (some ⟨ga, 0, none⟩) m cap)).setCell ⟨k.PB, x, none⟩ (.int .i64 0)) :=
  (((Fr.below (below_drewN' w nq)).trans f).trans Fr.cut).trans (Fr.grown (grown_set _ _ _) (fun q hq => by cases hq; exact .inr (.inl rfl)))

theorem take_pos {hs hs1 : List Int} {m : Nat} (l1 : hs1.length = hs.length) (hl : hs.length = m + 1) (h : 0 < m) : 0 < (hs1.take m).length := by rw [List.length_take]; omega

theorem pop_sunk {A hs hs1 : List Int} {m : Nat} (l1 : hs1.length = hs.length) (hl : hs.length = m + 1) (e : fn hs1 = sw (fn hs) 0 m) (hp : Heap (ac A) hs.length (fn hs) 0) : Sunk (ac A) (hs1.take m).length (fn (hs1.take m)) 0 0 := by
  have l2 : (hs1.take m).length = m := by rw [List.length_take]; omega
  rw [l2]
  rw [hl] at hp
  exact sunk_congr (popped hp) fun c cm => by rw [fn_take cm, e]

set_option maxHeartbeats 1000000 in
theorem pop_any {k : K} {w : World} {A : List Int} {W : List Bool} {wv : Value} (s : Ord k w A W wv) :
    Calls Tryz.prog 60 #[.pointer (some ⟨k.OB, 0, none⟩)] w fun e w' => e = .returned (.tuple #[.int .i64 (popV A W), .bool (popA A W)]) ∧ PopEnd k A W wv w w' := by
  obtain ⟨hs, gd, hp, g⟩ := id s
  rcases hm : hs.length with _ | m
  · have hn := none_waits gd g hm
    have HE : Hid (PopEnd k A W wv w w) := hid ⟨wv, by rw [popW_none hn]; exact s, Fr.refl _ _ _⟩
    have HV := hid (popV_none hn)
    have HA := hid (popA_none hn)
    obtain ⟨P, s1, p⟩ := gd
    have HS := hid s1
    clear s s1 p hp g hn
    go_enter Tryz.func60, Tryz.ntmps60
    go_wp2_with (go_at_call 97; with_reducible (refine (len_any HS.out).mono ?_); rintro e w ⟨rfl, rfl⟩; simp only [hm])
    go_ret2
    exact ⟨by rw [HV.out, HA.out]; rfl, HE.out⟩
  · obtain ⟨x, hx⟩ : ∃ x : Nat, fn hs 0 = x := by
      obtain ⟨P, s, p⟩ := gd
      have := (p.1 0 (by omega)).1
      exact ⟨(fn hs 0).toNat, by omega⟩
    have hf := top_first gd hp g (by omega) hx
    have HV := hid (popV_first hf)
    have HA := hid (popA_first hf)
    have HW := hid (popW_first hf)
    have HG := hid g
    have HH := hid hp
    have HX := hid hx
    have HGD := hid gd
    have HF := hid hf
    obtain ⟨P, s1, p⟩ := gd
    obtain ⟨ga, cap, rfl⟩ := s1.filled (by omega)
    have c1 := s1.c1
    have d0 := s1.ch (i := 0) rfl (by omega)
    rw [hx] at d0
    rw [hm] at c1
    have hxn : x < k.n := by have := hf.1; rw [s1.la] at this; exact this
    have hxn' : (x : Int) < k.n := by omega
    have hsm : m + 1 ≤ 1048576 := by have := p.len; have := s1.hn; omega
    have HS := hid s1
    have HM := hid hm
    have INJ : Hid (∀ i j, i < m + 1 → j < m + 1 → fn hs i = fn hs j → i = j) := hid (by rw [← hm]; exact p.inj)
    have hl0 : ((m : Int) + 1 == 0) = false := by rw [beq_eq_false_iff_ne]; omega
    have hpos : (0 : Int) < (m : Int) + 1 := by omega
    have hl1 : 0 < hs.length := by omega
    have hl2 : m < hs.length := by omega
    clear s s1 p hp g hx hf hm
    go_enter Tryz.func60, Tryz.ntmps60
    go_wp2_with (go_at_call 97; with_reducible (refine (len_any HS.out).mono ?_); rintro e w ⟨rfl, rfl⟩; simp only [HM.out])
    go_quiet (fail)
    by_cases hm0 : m = 0
    · subst hm0
      go_wp2_with (go_at_call 72; with_reducible (refine (swap_at (HGD.out.drewN _) (i := 0) (j := 0) (by simp) (by simp) hl1 hl2).mono ?_); rintro e w2 ⟨rfl, hs2⟩; have hs3 := hs2.out; obtain ⟨hs1, P1, r1, p1, l1, e1, f1⟩ := hs3; rw [HM.out] at r1; have e2 := r1.c1; have e3 := r1.cf 1; have hcap := r1.le; have r2 := hid (r1.cut (m := 0) (by rw [l1.out, HM.out]) (by omega)); have e4 := r2.out.c2; have e5 := r2.out.cp hxn; have e6 := r2.out.cpf x)
      go_ret2
      refine ⟨by rw [HV.out, HA.out]; rfl, ?_⟩
      have l2 : (hs1.take 0).length = 0 := by simp
      exact pop_end HM.out l1.out e1.out HX.out INJ.out HF.out r1.la HG.out HW.out (pop_ready r1 (l1.out.trans HM.out) (by have := p1.out; rw [l1.out, HM.out] at this; exact this) (by rw [e1.out, sw_r]; exact HX.out)) l2 (fun y => Iff.rfl) (fun c c0 cm _ => by omega) (pop_fr f1.out HM.out)
    · have hm1 : 0 < m := by omega
      have hm2 : (0 : Int) < m := by omega
      go_wp2_with (first
        | (go_at_call 72; with_reducible (refine (swap_at (HGD.out.drewN _) (i := 0) (j := m) (by simp) (by simp) hl1 hl2).mono ?_); rintro e w2 ⟨rfl, hs2⟩; have hs3 := hs2.out; obtain ⟨hs1, P1, r1, p1, l1, e1, f1⟩ := hs3; rw [HM.out] at r1; have e2 := r1.c1; have e3 := r1.cf 1; have hcap := r1.le; have r2 := hid (r1.cut (m := m) (by rw [l1.out, HM.out]) (by omega)); have e4 := r2.out.c2; have e5 := r2.out.cp hxn; have e6 := r2.out.cpf x; have g3 := hid (pop_ready r1 (l1.out.trans HM.out) (by have := p1.out; rw [l1.out, HM.out] at this; exact this) (by rw [e1.out, sw_r]; exact HX.out)); have e7 := g3.out.c1; have e8 := g3.out.ch (i := 0) hm1; obtain ⟨u, hu0, hun, e9⟩ := e8; have hu := hid hu0; clear hu0; have hu3 := take_pos l1.out HM.out hm1; have su := hid (pop_sunk l1.out HM.out e1.out HH.out))
        | (go_at_call 98; with_reducible (refine (sink_any g3.out u 0 0 hu3 hu.out su.out (Nat.le_refl _)).mono ?_); rintro e w5 ⟨rfl, h5⟩))
      go_ret2
      refine ⟨by rw [HV.out, HA.out]; rfl, ?_⟩
      obtain ⟨hs2, i2, mv, hp2⟩ := h5
      have l2 : (hs1.take m).length = m := by have := l1.out; have := HM.out; rw [List.length_take]; omega
      exact pop_end HM.out l1.out e1.out HX.out INJ.out HF.out r1.la HG.out HW.out mv.gd (mv.len.trans l2) (fun y => by have := mv.same y; rw [l2] at this; exact this) (by rw [l2] at hp2; exact hp2) ((pop_fr f1.out HM.out).trans mv.fr)

end Go.Proofs.YtimfjoinjfecjaaGreat.Od

namespace Go.Proofs.YtimfjoinjfecjaaGreat.Od
open Go.RowKit
set_option linter.unusedVariables false

def BumpEnd (k : K) (A : List Int) (W : List Bool) (wv : Value) (v d : Int) (w w' : World) : Prop := Ord k w' (bumpF A v d) W wv ∧ Fr k wv wv w w'

theorem fn_bd {A : List Int} {n v : Nat} {x : Int} (h : ∀ u : Nat, u < n → 0 ≤ fn A u ∧ fn A u ≤ 1099511627776) (hv : v < A.length) (hx : 0 ≤ x ∧ x ≤ 1099511627776) : ∀ u : Nat, u < n → 0 ≤ fn (A.set v x) u ∧ fn (A.set v x) u ≤ 1099511627776 := by
  intro u hu
  rw [fn_set hv]
  by_cases e : u = v
  · rw [if_pos e]; exact hx
  · rw [if_neg e]; exact h u hu

theorem ac_other {A : List Int} {v : Nat} (hv : v < A.length) (x : Int) (u : Int) (h0 : 0 ≤ u) (h : u ≠ v) : ac (A.set v x) u = ac A u := by
  unfold ac
  rw [fn_set hv, if_neg (by omega)]

/-- The one whose activity has turned waits. -/
theorem bump_broken {k : K} {w : World} {A hs P : List Int} {wv : Value} {v i : Nat} {x : Int} (s : Raw k w A hs P wv) (p : Pl k.n hs.length (fn hs) (fn P)) (hp : Heap (ac A) hs.length (fn hs) 0) (hi : i < hs.length) (hv : fn hs i = v) : Broken (ac (A.set v x)) hs.length (fn hs) i := by
  have h1 := p.1 i hi
  have hva : v < A.length := by rw [s.la]; omega
  have hb : Broken (fun u => if 0 ≤ u then ac (A.set v x) u else ac A u) hs.length (fn hs) i := bumped hp hi p.inj fun u hu => by
    by_cases c : 0 ≤ u
    · simp only [c, if_true]; exact ac_other hva x u c (by omega)
    · simp only [c, if_false]
  have same : ∀ a b, a < hs.length → b < hs.length → ahd (fun u => if 0 ≤ u then ac (A.set v x) u else ac A u) (fn hs a) (fn hs b) = ahd (ac (A.set v x)) (fn hs a) (fn hs b) := by
    intro a b ha hb
    simp only [ahd, (p.1 a ha).1, (p.1 b hb).1, if_true]
  refine ⟨fun c c0 cm c1 c2 => ?_, fun c c0 cm c1 i0 => ?_⟩
  · have := par_lt c0
    rw [← same c _ cm (by omega)]; exact hb.1 c c0 cm c1 c2
  · have := par_lt i0
    rw [← same c _ cm (by omega)]; exact hb.2 c c0 cm c1 i0

/-- The one whose activity has turned does not wait. -/
theorem bump_heap {k : K} {w : World} {A hs P : List Int} {wv : Value} {v : Nat} {x : Int} (s : Raw k w A hs P wv) (p : Pl k.n hs.length (fn hs) (fn P)) (hp : Heap (ac A) hs.length (fn hs) 0) (hv : v < k.n) (hn : ¬ In hs.length (fn hs) v) : Heap (ac (A.set v x)) hs.length (fn hs) 0 := by
  have hva : v < A.length := by rw [s.la]; exact hv
  have e : ∀ c, c < hs.length → ac (A.set v x) (fn hs c) = ac A (fn hs c) := fun c hc => ac_other hva x _ (p.1 c hc).1 (fun q => hn ⟨c, hc, q⟩)
  intro c c0 cm cl
  have := par_lt c0
  have h1 := hp c c0 cm cl
  simp only [ahd, e c cm, e (par c) (by omega)] at h1 ⊢
  exact h1

/-- What the activity is that is written. -/
theorem act_fit {n : Nat} {A hs : List Int} {W : List Bool} (g : Good n A W hs) {v : Nat} (hv : v < n) (d : Int) : 0 ≤ sumF (fn A v) d ∧ sumF (fn A v) d ≤ 1099511627776 := sumF_in (g.bd v hv).1 (g.bd v hv).2

theorem RiseEnd.out {k : K} {A hs : List Int} {wv : Value} {v i0 : Nat} {w w' : World} (h : RiseEnd k A hs wv v i0 w w') :
    ∃ hs' i', Hid (Mv k w A hs wv v w' hs' i') ∧ Hid (Sunk (ac A) hs'.length (fn hs') 0 i') := by
  obtain ⟨hs', i', m, s, _⟩ := h
  exact ⟨hs', i', m, by show Sunk _ _ _ _ _; rw [m.len]; exact s⟩

theorem Mv.lt' {k : K} {w wr : World} {A hs hs1 : List Int} {wv : Value} {v i : Nat} (r : Mv k w A hs wv v wr hs1 i) : i < hs1.length := by rw [r.len]; exact r.lt

theorem bump_end {k : K} {w w3 w5 w7 : World} {A A2 hs hs5 : List Int} {W : List Bool} {wv : Value} {v i5 : Nat} {d : Int} (hb : bumpF A v d = A2) (g : Good k.n A W hs) (bd : ∀ u : Nat, u < k.n → 0 ≤ fn A2 u ∧ fn A2 u ≤ 1099511627776) (f : Fr k wv wv w w3)
    (m5 : Mv k w3 A2 hs wv v w5 hs5 i5) (h7 : SinkEnd k A2 hs5 wv v 0 w5 w7) : BumpEnd k A W wv v d w w7 := by
  obtain ⟨hs7, i7, m7, hp⟩ := h7
  have l7 := m7.len
  have l5 := m5.len
  refine ⟨?_, (f.trans m5.fr).trans m7.fr⟩
  rw [hb]
  refine ⟨hs7, m7.gd, by rw [l7]; exact hp, g.same (by omega) (fun x => ?_) bd⟩
  have := m7.same x
  rw [l5] at this
  rw [this, m5.same x]

set_option maxHeartbeats 4000000 in
theorem bump_any {k : K} {w : World} {A : List Int} {W : List Bool} {wv : Value} (s : Ord k w A W wv) (v d : Int) :
    Calls Tryz.prog 86 #[.pointer (some ⟨k.OB, 0, none⟩), .int .i64 v, .int .i64 d] w fun e w' => e = .returned (.bool (isF k.n v)) ∧ BumpEnd k A W wv v d w w' := by
  obtain ⟨hs, ⟨P, s1, p⟩, hp, g⟩ := id s
  cases hi : isF k.n v
  · have HE : Hid (BumpEnd k A W wv v d w w) := hid ⟨by rw [bumpF, s1.la, hi]; exact s, Fr.refl _ _ _⟩
    have HS := hid s1
    clear s s1 p hp g
    go_enter Tryz.func86, Tryz.ntmps86
    go_wp2_with (go_at_call 43; with_reducible (refine (is_any HS.out _).mono ?_); rintro e w ⟨rfl, rfl⟩)
    go_ret
    exact ⟨rfl, HE.out⟩
  · obtain ⟨v, rfl, hv⟩ := isF_yes hi
    have hv' : (v : Int) < k.n := by omega
    have c0 := s1.c0
    have ca := s1.ca hv
    have caf := s1.caf v
    have b1 := g.bd v hv
    have hva : v < A.length := by rw [s1.la]; exact hv
    have HX := hid (act_fit g hv d)
    have HB : Hid (bumpF A v d = A.set v (sumF (fn A v) d)) := hid (by simp only [bumpF, s1.la, hi, if_true]; rfl)
    have r2 := hid (s1.puta v (sumF (fn A v) d))
    have F2 : Hid (Fr k wv wv w (w.setCell ⟨k.AB, v, none⟩ (.int .i64 (sumF (fn A v) d)))) := hid (Fr.grown (grown_set w _ _) (fun q hq => by cases hq; exact .inl rfl))
    have HG := hid g
    have HP := hid p
    have HS := hid s1
    cases hw : wt W v
    · have hni : ¬ In hs.length (fn hs) v := fun c => by rw [(g.wr v hv).2 c] at hw; cases hw
      have h0 : fn P v = 0 := pl_out p hv hni
      have HH := hid (bump_heap (x := sumF (fn A v) d) s1 p hp hv hni)
      have e1 := r2.out.drew.c2
      have e2 := r2.out.drew.cp hv
      rw [h0] at e2
      clear s s1 p hp g hni h0
      go_enter Tryz.func86, Tryz.ntmps86
      go_wp2_with (go_at_call 43; with_reducible (refine (is_any HS.out _).mono ?_); rintro e w ⟨rfl, rfl⟩)
      go_region_with (go_at_call 127; with_reducible (refine (sum_any _ _ b1.1 b1.2 _).mono ?_); rintro e w1 ⟨rfl, rfl⟩)
      all_goals go_wp2
      all_goals go_ret
      all_goals exact ⟨rfl, by rw [HB.out]; exact ⟨hs, ⟨P, r2.out.drew, HP.out⟩, HH.out, HG.out.same rfl (fun _ => Iff.rfl) (fn_bd HG.out.bd hva HX.out)⟩, F2.out.trans (Fr.drew _ _ _)⟩
    · obtain ⟨i, hil, hiv⟩ := (g.wr v hv).1 hw
      have h0 : 0 < fn P v := (pl_in p hv).1 ⟨i, hil, hiv⟩
      have HH := hid (bump_broken (x := sumF (fn A v) d) s1 p hp hil hiv)
      have e1 := r2.out.drew.c2
      have e2 := r2.out.drew.cp hv
      have HIV := hid hiv
      have g2 : Hid (Gd k (w.setCell ⟨k.AB, v, none⟩ (.int .i64 (sumF (fn A v) d))).drew (A.set v (sumF (fn A v) d)) hs wv) := hid ⟨P, r2.out.drew, p⟩
      clear s s1 p hp g hiv
      go_enter Tryz.func86, Tryz.ntmps86
      go_wp2_with (go_at_call 43; with_reducible (refine (is_any HS.out _).mono ?_); rintro e w ⟨rfl, rfl⟩)
      go_region_with (go_at_call 127; with_reducible (refine (sum_any _ _ b1.1 b1.2 _).mono ?_); rintro e w1 ⟨rfl, rfl⟩)
      all_goals go_wp2_with (first
        | (go_at_call 44; with_reducible (refine (rise_any g2.out v i hil HIV.out HH.out).mono ?_); rintro e w5 ⟨rfl, h5⟩; have h6 := h5.out; obtain ⟨hs5, i5, m5, s5⟩ := h6; clear h5)
        | (go_at_call 98; with_reducible (refine (sink_any m5.out.gd v i5 0 m5.out.lt' m5.out.at_ s5.out (Nat.zero_le _)).mono ?_); rintro e w7 ⟨rfl, h7⟩))
      all_goals go_ret
      all_goals exact ⟨rfl, bump_end HB.out HG.out (fn_bd HG.out.bd hva HX.out) (F2.out.trans (Fr.drew _ _ _)) m5.out h7⟩

end Go.Proofs.YtimfjoinjfecjaaGreat.Od

namespace Go.Proofs.YtimfjoinjfecjaaGreat.Od
open Go.RowKit
set_option linter.unusedVariables false

def halfTo (A : List Int) (q : Nat) : List Int := (A.take q).map (· / 2) ++ A.drop q

theorem half_zero (A : List Int) : halfTo A 0 = A := by simp [halfTo]
theorem half_all {A : List Int} {q : Nat} (h : A.length ≤ q) : halfTo A q = halveF A := by simp [halfTo, halveF, List.take_of_length_le h, List.drop_of_length_le h]
theorem half_at {A : List Int} {q : Nat} (h : q < A.length) : fn (halfTo A q) q = fn A q := by
  simp only [fn, halfTo, List.getD_eq_getElem?_getD]
  rw [List.getElem?_append_right (by simp; omega)]
  simp [Nat.min_eq_left (Nat.le_of_lt h)]
theorem half_set {A : List Int} {q : Nat} (h : q < A.length) : (halfTo A q).set q (fn A q / 2) = halfTo A (q + 1) := by
  have e : A.drop q = fn A q :: A.drop (q + 1) := by rw [List.drop_eq_getElem_cons h]; simp [fn, h]
  have e2 : A.take (q + 1) = A.take q ++ [fn A q] := by rw [List.take_add_one]; simp [fn, h]
  have hl : ((A.take q).map (· / 2)).length = q := by simp; omega
  rw [halfTo, e, List.set_append_right _ _ (by rw [hl]; exact Nat.le_refl _), hl, halfTo, e2]
  simp

theorem halve_fn (A : List Int) (u : Nat) : fn (halveF A) u = fn A u / 2 := by
  simp only [fn, halveF, List.getD_eq_getElem?_getD, List.getElem?_map]
  cases A[u]? <;> simp

structure HvRel (k : K) (w : World) (A hs : List Int) (wv : Value) (wr : World) (hs1 : List Int) (c : Nat) : Prop where
  gd : Gd k wr A hs1 wv
  len : hs1.length = hs.length
  same : ∀ x, In hs.length (fn hs1) x ↔ In hs.length (fn hs) x
  fr : Fr k wv wv w wr
  hp : Heap (ac A) hs.length (fn hs1) c

theorem HvRel.next {k : K} {w wr w' : World} {A hs hs1 : List Int} {wv : Value} {c u : Nat} (r : HvRel k w A hs wv wr hs1 (c + 1)) (s : SinkEnd k A hs1 wv u c wr w') : ∃ hs2, HvRel k w A hs wv w' hs2 c := by
  obtain ⟨hs2, i, m, hp⟩ := s
  have l := r.len
  refine ⟨hs2, m.gd, m.len.trans l, fun x => ?_, r.fr.trans m.fr, by rw [l] at hp; exact hp⟩
  have := m.same x
  rw [l] at this
  rw [this, r.same x]

theorem HvRel.su {k : K} {w wr : World} {A hs hs1 : List Int} {wv : Value} {c : Nat} (r : HvRel k w A hs wv wr hs1 (c + 1)) : Sunk (ac A) hs1.length (fn hs1) c c := by
  rw [r.len]; exact heap_next r.hp

def HalveEnd (k : K) (A : List Int) (W : List Bool) (wv : Value) (w w' : World) : Prop := Ord k w' (halveF A) W wv ∧ Fr k wv wv w w'

theorem halve_end {k : K} {w w' : World} {A hs hs1 : List Int} {W : List Bool} {wv : Value} (g : Good k.n A W hs) (r : HvRel k w (halveF A) hs wv w' hs1 0) : HalveEnd k A W wv w w' := by
  refine ⟨⟨hs1, r.gd, by rw [r.len]; exact r.hp, g.same r.len r.same fun u hu => ?_⟩, r.fr⟩
  rw [halve_fn]
  have := g.bd u hu
  omega

set_option maxHeartbeats 1000000 in
theorem halve_any {k : K} {w : World} {A : List Int} {W : List Bool} {wv : Value} (s : Ord k w A W wv) :
    Calls Tryz.prog 87 #[.pointer (some ⟨k.OB, 0, none⟩)] w fun e w' => e = .returned (.tuple #[]) ∧ HalveEnd k A W wv w w' := by
  obtain ⟨hs, ⟨P, s1, p⟩, hp, g⟩ := id s
  have c0 := s1.c0
  have hkn := s1.hn
  have hla := s1.la
  have hsm : hs.length ≤ 1048576 := by have := p.len; omega
  have HP := hid p
  have HG := hid g
  have R0 : Hid (Raw k w (halfTo A 0) hs P wv ∧ Fr k wv wv w w) := hid ⟨by rw [half_zero]; exact s1, Fr.refl _ _ _⟩
  clear s s1 p hp g
  go_enter Tryz.func87, Tryz.ntmps87
  go_wp2
  go_loopw [2, 11] (fun _ i wr => ∃ q : Nat, q ≤ k.n ∧ i = .int .i64 q ∧ Hid (Raw k wr (halfTo A q) hs P wv ∧ Fr k wv wv w wr)) (fun _ i _ => k.n - (intOf i).toNat)
  case atStart => exact ⟨0, Nat.zero_le _, rfl, R0⟩
  case round =>
    clear c0 R0
    obtain ⟨q, hq, rfl, hr⟩ := hrel
    by_cases hlt : q < k.n
    · have hlt' : (q : Int) < k.n := by omega
      have c0 := hr.out.1.c0
      have ca := hr.out.1.ca hlt
      have caf := hr.out.1.caf q
      rw [half_at (by omega)] at ca
      have b0 := (HG.out.bd q hlt).1
      have b1 := (HG.out.bd q hlt).2
      have b2 : ¬ fn A q < 0 := by omega
      have R1 := hid (hr.out.1.puta q (fn A q / 2))
      have F1 : Hid (Fr k wv wv w (wr.setCell ⟨k.AB, q, none⟩ (.int .i64 (fn A q / 2)))) := hid (hr.out.2.trans (Fr.grown (grown_set wr _ _) (fun j hj => by cases hj; exact .inl rfl)))
      have HE := hid (half_set (A := A) (q := q) (by omega))
      go_wp2
      go_roundw
      case rel => exact ⟨q + 1, by omega, by go_num, hid ⟨by rw [← HE.out]; exact R1.out, F1.out⟩⟩
      case measure => simp only [intOf]; omega
    · have HR : Hid (HvRel k w (halveF A) hs wv wr hs (hs.length / 2)) := hid (by
        have := hr.out.1
        rw [half_all (by omega)] at this
        exact ⟨⟨P, this, HP.out⟩, rfl, fun _ => Iff.rfl, hr.out.2, heap_half⟩)
      have c1 := HR.out.gd.c1
      obtain ⟨ao, cap, rfl⟩ := hr.out.1.shape
      clear hr
      go_wp2
      go_loopw [3] (fun a wr => ∃ (c : Nat) (hs1 : List Int), a = .int .i64 ((c : Int) - 1) ∧ c ≤ hs.length / 2 ∧ Hid (HvRel k w (halveF A) hs (.slice ao hs.length cap) wr hs1 c)) (fun a _ => (intOf a + 1).toNat)
      case atStart => exact ⟨hs.length / 2, hs, by simp, Nat.le_refl _, HR⟩
      case round =>
        clear c1 HR
        obtain ⟨c, hs1, rfl, hc, hr⟩ := hrel
        rcases c with _ | c
        · go_wp2
          go_end0
          exact ⟨rfl, halve_end HG.out hr.out⟩
        · obtain ⟨g, rfl⟩ : ∃ g, ao = some ⟨g, 0, none⟩ := by
            obtain ⟨P', s', _⟩ := hr.out.gd
            obtain ⟨g, c', e⟩ := s'.filled (by rw [hr.out.len]; omega)
            rw [hr.out.len] at e
            cases e
            exact ⟨g, rfl⟩
          have hcl : c < hs.length := by omega
          have hcl' : (c : Int) < hs.length := by omega
          have hcl1 : c < hs1.length := by rw [hr.out.len]; exact hcl
          have c1 := hr.out.gd.c1
          obtain ⟨u, hu, hun, cu⟩ := hr.out.gd.ch hcl
          have HU := hid hu
          have hec : ((c + 1 : Nat) : Int) - 1 = c := by omega
          rw [hec]
          clear hu hec
          go_wp2_with (go_at_call 98; with_reducible (refine (sink_any hr.out.gd u c c hcl1 HU.out hr.out.su (Nat.le_refl _)).mono ?_); rintro e w5 ⟨rfl, h5⟩)
          go_roundw
          case rel =>
            obtain ⟨hs2, r2⟩ := hr.out.next h5
            exact ⟨c, hs2, rfl, by omega, r2⟩
          case measure => simp only [intOf]; omega

end Go.Proofs.YtimfjoinjfecjaaGreat.Od

namespace Go.Proofs.YtimfjoinjfecjaaGreat.Od
open Go.RowKit
set_option linter.unusedVariables false

def cntF (n : Int) : Nat := if n < 0 ∨ 1048576 < n then 0 else n.toNat
def zeros (m : Nat) : List Int := List.replicate m 0
def nones (m : Nat) : List Bool := List.replicate m false

theorem fn_zeros (m u : Nat) : fn (zeros m) u = 0 := by simp [fn, zeros, List.getElem?_replicate]; split <;> rfl
theorem wt_nones (m : Nat) (u : Int) : wt (nones m) u = false := by simp [wt, nones, List.getElem?_replicate]; split <;> rfl

theorem made_ints (n : Nat) : madeCells #[.int .i64 0] n = ((zeros n).map (Value.int .i64)).toArray := by
  apply Array.toList_inj.1
  rw [toList_madeCells_one]
  simp [zeros]

theorem make3 (n : Nat) (hn : n ≤ 1048576) (w : World) : (Instr.makeSlice 42 (.int .i64 n) (.int .i64 n)).run Tryz.prog w = .ok (.slice (some ⟨w.heap.size, 0, none⟩) n n) (w.alloc (.cells ((zeros n).map (Value.int .i64)).toArray 3)) := by
  obtain ⟨i0, hi, hz0, hz1, hz2⟩ := info_parts Tryz.info3
  have := run_make (P := Tryz.prog) w 42 3 i0 (.int .i64 0) Tryz.underlying42 hi hz0 .i64 .i64 n n (by omega) (Int.le_refl _) (by rw [hz2]; omega) (by omega)
  rw [this, hz1, ← made_ints]
  simp [Value.cells]

theorem new_good (m : Nat) : Good m (zeros m) (nones m) [] := by
  refine ⟨by simp [nones], fun v hv => ?_, by simp [nones, List.count_replicate], fun v hv => by rw [fn_zeros]; omega⟩
  rw [wt_nones]
  constructor
  · intro h; cases h
  · rintro ⟨i, hi, _⟩; simp at hi

theorem new_ord {k : K} {w : World} (lo1 : k.B ≤ k.AB) (lo2 : k.B ≤ k.PB) (ne : k.AB ≠ k.PB) (lt1 : k.AB < k.OB) (lt2 : k.PB < k.OB) (hn : k.n ≤ 1048576)
    (cl : w.heap[k.OB]? = some (.cells #[.slice (some ⟨k.AB, 0, none⟩) k.n k.n, .slice none 0 0, .slice (some ⟨k.PB, 0, none⟩) k.n k.n] 86 (0, 0)))
    (ac' : w.heap[k.AB]? = some (.cells ((zeros k.n).map (Value.int .i64)).toArray 3 (0, 0))) (pl : w.heap[k.PB]? = some (.cells ((zeros k.n).map (Value.int .i64)).toArray 3 (0, 0))) : Ord k w (zeros k.n) (nones k.n) (.slice none 0 0) := by
  refine ⟨[], ⟨zeros k.n, ⟨lo1, lo2, ne, lt1, lt2, hn, by simp [zeros], by simp [zeros], cl, ac', pl, World.ownsRow_nil _ _ _ _⟩, ?_⟩, ?_, new_good _⟩
  · refine ⟨fun i hi => by simp at hi, fun v hv h => absurd (fn_zeros _ _) h⟩
  · intro c c0 cm; simp at cm

def NewEnd (n : Int) (w : World) (OB : Nat) (w' : World) : Prop := ∃ k : K, k.OB = OB ∧ k.B = w.heap.size ∧ k.n = cntF n ∧ Ord k w' (zeros k.n) (nones k.n) (.slice none 0 0) ∧ Below w.heap.size w w'

theorem push3 (h : Array Obj) (x y z : Obj) : (((h.push x).push y).push z)[h.size]? = some x ∧ (((h.push x).push y).push z)[h.size + 1]? = some y ∧ (((h.push x).push y).push z)[h.size + 1 + 1]? = some z := by
  refine ⟨?_, ?_, ?_⟩
  · simp only [Array.getElem?_push, Array.size_push]
    rw [if_neg (by omega), if_neg (by omega), if_pos trivial]
  · simp only [Array.getElem?_push, Array.size_push]
    rw [if_neg (by omega), if_pos trivial]
  · simp only [Array.getElem?_push, Array.size_push]
    rw [if_pos trivial]

theorem new_end {n : Int} {m : Nat} (w : World) (hm : cntF n = m) (hle : m ≤ 1048576) (a b : Nat) (hab : (a = w.heap.size ∧ b = w.heap.size + 1) ∨ (a = w.heap.size + 1 ∧ b = w.heap.size)) :
    NewEnd n w (w.heap.size + 1 + 1) (((w.alloc (.cells ((zeros m).map (Value.int .i64)).toArray 3)).alloc (.cells ((zeros m).map (Value.int .i64)).toArray 3)).alloc (.cells #[.slice (some ⟨a, 0, none⟩) m m, .slice none 0 0, .slice (some ⟨b, 0, none⟩) m m] 86)).drew := by
  have hb : Below w.heap.size w (((w.alloc (.cells ((zeros m).map (Value.int .i64)).toArray 3)).alloc (.cells ((zeros m).map (Value.int .i64)).toArray 3)).alloc (.cells #[.slice (some ⟨a, 0, none⟩) m m, .slice none 0 0, .slice (some ⟨b, 0, none⟩) m m] 86)).drew := by go_grown
  obtain ⟨e0, e1, e2⟩ := push3 w.heap (.cells ((zeros m).map (Value.int .i64)).toArray 3) (.cells ((zeros m).map (Value.int .i64)).toArray 3) (.cells #[.slice (some ⟨a, 0, none⟩) m m, .slice none 0 0, .slice (some ⟨b, 0, none⟩) m m] 86)
  refine ⟨⟨w.heap.size, a, b, w.heap.size + 1 + 1, m⟩, rfl, rfl, hm.symm, new_ord (by show w.heap.size ≤ a; omega) (by show w.heap.size ≤ b; omega) (by show a ≠ b; omega) (by show a < w.heap.size + 1 + 1; omega) (by show b < w.heap.size + 1 + 1; omega) hle e2 ?_ ?_, hb⟩
  · rcases hab with ⟨rfl, rfl⟩ | ⟨rfl, rfl⟩
    · exact e0
    · exact e1
  · rcases hab with ⟨rfl, rfl⟩ | ⟨rfl, rfl⟩
    · exact e1
    · exact e0

set_option maxHeartbeats 1000000 in
theorem new_any (n : Int) (w : World) : Calls Tryz.prog 27 #[.int .i64 n] w fun e w' => ∃ OB, e = .returned (.pointer (some ⟨OB, 0, none⟩)) ∧ NewEnd n w OB w' := by
  by_cases h0 : n < 0
  · have HC : Hid (cntF n = 0) := hid (by simp [cntF, h0])
    have hmk := make3 0 (by omega)
    simp only [Int.natCast_zero] at hmk
    go_enter Tryz.func27, Tryz.ntmps27
    go_wp2
    go_region
    all_goals go_wp2
    all_goals go_ret
    · exact ⟨_, rfl, new_end w HC.out (by omega) _ _ (.inl ⟨rfl, rfl⟩)⟩
    · exact ⟨_, rfl, new_end w HC.out (by omega) _ _ (.inr ⟨rfl, rfl⟩)⟩
  · by_cases h1 : 1048576 < n
    · have HC : Hid (cntF n = 0) := hid (by simp [cntF, h1])
      have hmk := make3 0 (by omega)
      simp only [Int.natCast_zero] at hmk
      go_enter Tryz.func27, Tryz.ntmps27
      go_wp2
      go_region
      all_goals go_wp2
      all_goals go_ret
      · exact ⟨_, rfl, new_end w HC.out (by omega) _ _ (.inl ⟨rfl, rfl⟩)⟩
      · exact ⟨_, rfl, new_end w HC.out (by omega) _ _ (.inr ⟨rfl, rfl⟩)⟩
    · obtain ⟨m, rfl⟩ : ∃ m : Nat, n = m := ⟨n.toNat, by omega⟩
      have HC : Hid (cntF m = m) := hid (by simp only [cntF]; rw [if_neg (by omega)]; omega)
      have hmk := make3 m (by omega)
      have h1' : m ≤ 1048576 := by omega
      have h1d : decide ((1048576 : Int) < m) = false := by simp; omega
      go_enter Tryz.func27, Tryz.ntmps27
      go_wp2
      go_region
      all_goals go_wp2
      all_goals go_ret
      · exact ⟨_, rfl, new_end w HC.out h1' _ _ (.inl ⟨rfl, rfl⟩)⟩
      · exact ⟨_, rfl, new_end w HC.out h1' _ _ (.inr ⟨rfl, rfl⟩)⟩

end Go.Proofs.YtimfjoinjfecjaaGreat.Od
