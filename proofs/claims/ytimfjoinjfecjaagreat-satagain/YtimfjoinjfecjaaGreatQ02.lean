/-
  A trail: Assign, Decide, New.
-/
import Derived.Test.YtimfjoinjfecjaaGreatQ01
import Derived.Deep.RegionLaw

namespace Go.Proofs.YtimfjoinjfecjaaGreat
open Go.RowKit
set_option linter.unusedVariables false

/-- What lies there behind the append. -/
theorem Raw.more {k : K} {w w5 : World} {F : Nat → Fc} {ls ss : List Int} {p : V} {v5 : Value} {x : Int} (s : Raw k w F ls ss p) (own : OwnL w5 (k.OB + 1) v5 (ls ++ [x])) (g : w.grownBy w5 p.l.ownBlock) (nw : Nw w p.l v5 ∧ Kept w w5 p.l v5) :
    ∃ g5 c5, v5 = .slice (some ⟨g5, 0, none⟩) (ls.length + 1) c5 ∧ w5.cell? ⟨k.OB, 1, none⟩ = some p.l ∧ w5.frozen? ⟨k.OB, 1, none⟩ = false ∧ Hid (Raw k (w5.setCell ⟨k.OB, 1, none⟩ v5) F (ls ++ [x]) ss ⟨v5, p.s⟩) ∧ Hid (Fr k p ⟨v5, p.s⟩ w (w5.setCell ⟨k.OB, 1, none⟩ v5)) := by
  obtain ⟨e, r, f⟩ := s.putl g (LRow.of_own own) nw.1 nw.2
  obtain ⟨g5, c5, e5, _⟩ := (LRow.of_own own).filled (by simp)
  exact ⟨g5, c5, by simpa using e5, by rw [cell_of e]; rfl, frozen_of e, r, f⟩

theorem Raw.mores {k : K} {w w5 : World} {F : Nat → Fc} {ls ss : List Int} {p : V} {v5 : Value} {x : Int} (s : Raw k w F ls ss p) (own : OwnL w5 (k.OB + 1) v5 (ss ++ [x])) (g : w.grownBy w5 p.s.ownBlock) (nw : Nw w p.s v5) :
    ∃ g5 c5, v5 = .slice (some ⟨g5, 0, none⟩) (ss.length + 1) c5 ∧ w5.cell? ⟨k.OB, 2, none⟩ = some p.s ∧ w5.frozen? ⟨k.OB, 2, none⟩ = false ∧ Hid (Raw k (w5.setCell ⟨k.OB, 2, none⟩ v5) F ls (ss ++ [x]) ⟨p.l, v5⟩) ∧ Hid (Fr k p ⟨p.l, v5⟩ w (w5.setCell ⟨k.OB, 2, none⟩ v5)) := by
  obtain ⟨e, r, f⟩ := s.puts g own nw
  obtain ⟨g5, c5, e5, _⟩ := (LRow.of_own own).filled (by simp)
  exact ⟨g5, c5, by simpa using e5, by rw [cell_of e]; rfl, frozen_of e, r, f⟩

theorem Raw.sizes {k : K} {w : World} {F : Nat → Fc} {ls ss : List Int} {p : V} (s : Raw k w F ls ss p) : k.OB + 1 ≤ w.heap.size := by have := blk_lt s.cl; omega

/-- What is so behind a literal's Assign. -/
def AsEnd (k : K) (F : Nat → Fc) (ls ss : List Int) (p : V) (m u : Nat) (r : Int) (w w' : World) : Prop := ∃ p', Raw k w' (upd F u ⟨sg m, ss.length, r⟩) (ls ++ [(m : Int)]) ss p' ∧ Fr k p p' w w'

theorem as_end {k : K} {F : Nat → Fc} {ls ss : List Int} {p p' : V} {m u : Nat} {r x : Int} {w w6 w' : World} (hx : sg m = x) (f : Fr k p p w w6) (s : Raw k w' (upd F u ⟨x, ss.length, r⟩) (ls ++ [(m : Int)]) ss p') (f' : Fr k p p' w6 w') : AsEnd k F ls ss p m u r w w' := by
  subst hx; exact ⟨p', s, f.trans f'⟩

set_option maxHeartbeats 4000000 in
theorem assign_yes {k : K} {w : World} {F : Nat → Fc} {ls ss : List Int} {p : V} (s : Raw k w F ls ss p) (m u : Nat) (hm : m / 2 = u) (hu : (m : Int) ≤ 9223372036854775807) (h : u < k.n) (hz : (F u).v = 0) (hl : ls.length ≤ 1048576) (r : Int) :
    Calls Tryz.prog 101 #[.pointer (some ⟨k.OB, 0, none⟩), .int .i64 m, .int .i64 r] w fun e w' => e = .returned (.bool true) ∧ AsEnd k F ls ss p m u r w w' := by
  obtain ⟨ao, cap, ew, _⟩ := s.rl.shape
  have HS := hid s
  have HM := hid hm
  have HZ := hid hz
  have h' : (u : Int) < k.n := by omega
  clear s hm hz
  by_cases ho : m % 2 = 1
  · have HB : Hid (decide (m % 2 = 1) = true) := hid (by simp [ho])
    have HG : Hid (sg m = -1) := hid (by simp [sg, ho])
    clear ho
    go_enter Tryz.func101, Tryz.ntmps101
    go_wp2_with (first
      | (go_at_call 100; with_reducible (refine (free_yes HS.out m u HM.out hu h HZ.out).mono ?_); rintro e w1 ⟨rfl, b1⟩)
      | (go_at_call 103; with_reducible (refine (neg_nat _ _ HB.out hu _).mono ?_); rintro e w2 ⟨rfl, b2⟩))
    have b3 : Hid (Below w.heap.size w w2) := hid (Below.next b1 b2)
    have c0 := (HS.out.below b3.out).c0
    clear b1 b2
    go_region_with (first
      | (go_at_call 24; with_reducible (refine (var_nat _ _ HM.out hu _).mono ?_); rintro e w3 ⟨rfl, b4⟩; have b5 := hid (Below.next (Below.next b3.out (below_drew w2)) b4); have s5 := hid (HS.out.below b5.out); have c0' := s5.out.c0; have f1 := (s5.out.fa h).1; have f2 := (s5.out.fa h).2.1; have f3 := (s5.out.fa h).2.2; have f4 := s5.out.ff (u * 3); have f5 := s5.out.ff (u * 3 + 1); have f6 := s5.out.ff (u * 3 + 2))
      | (go_at_call 32; with_reducible (refine (levels_any s5.out).mono ?_); rintro e w3 ⟨rfl, rfl⟩))
    all_goals have R6 := hid (s5.out.putf h ⟨-1, ss.length, r⟩)
    all_goals have F6 := hid ((Fr.below (k := k) (p := p) b5.out).trans (Fr.grown (grown3 w3 k.FB (u * 3) (u * 3 + 1) (u * 3 + 2) (.int .i64 (-1)) (.int .i64 ss.length) (.int .i64 r)) (fun j hj => by cases hj; exact .inl rfl)))
    all_goals clear c0 c0' f1 f2 f3 f4 f5 f6 s5 b5 b4 b3
    all_goals revert R6 F6
    all_goals generalize (((w3.setCell ⟨k.FB, u * 3, none⟩ (.int .i64 (-1))).setCell ⟨k.FB, u * 3 + 1, none⟩ (.int .i64 ss.length)).setCell ⟨k.FB, u * 3 + 2, none⟩ (.int .i64 r)) = w6
    all_goals intro R6 F6
    all_goals have c1 := R6.out.c1
    all_goals rw [ew] at c1
    all_goals have hsz := R6.out.sizes
    all_goals go_wp2_with (at_builtin; refine append_new (w1 := w6) rfl _ _ rfl m rfl (k.OB + 1) p.l ls ew.symm R6.out.rl _ rfl (by simp) (by omega) hsz ?_; intro v7 w7 own7 g7 new7; have m7 := R6.out.more own7.out g7.out new7.out; obtain ⟨g8, c8, rfl, d1, d2, r8, f8⟩ := m7; rw [ew] at d1)
    all_goals go_ret
    all_goals exact ⟨rfl, as_end HG.out F6.out r8.out f8.out⟩
  · have HB : Hid (decide (m % 2 = 1) = false) := hid (by simp [ho])
    have HG : Hid (sg m = 1) := hid (by simp [sg, ho])
    clear ho
    go_enter Tryz.func101, Tryz.ntmps101
    go_wp2_with (first
      | (go_at_call 100; with_reducible (refine (free_yes HS.out m u HM.out hu h HZ.out).mono ?_); rintro e w1 ⟨rfl, b1⟩)
      | (go_at_call 103; with_reducible (refine (neg_nat _ _ HB.out hu _).mono ?_); rintro e w2 ⟨rfl, b2⟩))
    have b3 : Hid (Below w.heap.size w w2) := hid (Below.next b1 b2)
    have c0 := (HS.out.below b3.out).c0
    clear b1 b2
    go_region_with (first
      | (go_at_call 24; with_reducible (refine (var_nat _ _ HM.out hu _).mono ?_); rintro e w3 ⟨rfl, b4⟩; have b5 := hid (Below.next (Below.next b3.out (below_drew w2)) b4); have s5 := hid (HS.out.below b5.out); have c0' := s5.out.c0; have f1 := (s5.out.fa h).1; have f2 := (s5.out.fa h).2.1; have f3 := (s5.out.fa h).2.2; have f4 := s5.out.ff (u * 3); have f5 := s5.out.ff (u * 3 + 1); have f6 := s5.out.ff (u * 3 + 2))
      | (go_at_call 32; with_reducible (refine (levels_any s5.out).mono ?_); rintro e w3 ⟨rfl, rfl⟩))
    all_goals have R6 := hid (s5.out.putf h ⟨1, ss.length, r⟩)
    all_goals have F6 := hid ((Fr.below (k := k) (p := p) b5.out).trans (Fr.grown (grown3 w3 k.FB (u * 3) (u * 3 + 1) (u * 3 + 2) (.int .i64 (1)) (.int .i64 ss.length) (.int .i64 r)) (fun j hj => by cases hj; exact .inl rfl)))
    all_goals clear c0 c0' f1 f2 f3 f4 f5 f6 s5 b5 b4 b3
    all_goals revert R6 F6
    all_goals generalize (((w3.setCell ⟨k.FB, u * 3, none⟩ (.int .i64 (1))).setCell ⟨k.FB, u * 3 + 1, none⟩ (.int .i64 ss.length)).setCell ⟨k.FB, u * 3 + 2, none⟩ (.int .i64 r)) = w6
    all_goals intro R6 F6
    all_goals have c1 := R6.out.c1
    all_goals rw [ew] at c1
    all_goals have hsz := R6.out.sizes
    all_goals go_wp2_with (at_builtin; refine append_new (w1 := w6) rfl _ _ rfl m rfl (k.OB + 1) p.l ls ew.symm R6.out.rl _ rfl (by simp) (by omega) hsz ?_; intro v7 w7 own7 g7 new7; have m7 := R6.out.more own7.out g7.out new7.out; obtain ⟨g8, c8, rfl, d1, d2, r8, f8⟩ := m7; rw [ew] at d1)
    all_goals go_ret
    all_goals exact ⟨rfl, as_end HG.out F6.out r8.out f8.out⟩

theorem assign_no {k : K} {w : World} {F : Nat → Fc} {ls ss : List Int} {p : V} (s : Raw k w F ls ss p) (l : Int) (hu : l ≤ 9223372036854775807) (h : No k.n F l) (r : Int) :
    Calls Tryz.prog 101 #[.pointer (some ⟨k.OB, 0, none⟩), .int .i64 l, .int .i64 r] w fun e w' => e = .returned (.bool false) ∧ Below w.heap.size w w' := by
  have HS := hid s
  have HN := hid h
  clear s h
  go_enter Tryz.func101, Tryz.ntmps101
  go_wp2_with (go_at_call 100; with_reducible (refine (free_no HS.out _ hu HN.out).mono ?_); rintro e w1 ⟨rfl, b1⟩)
  go_ret
  exact ⟨rfl, b1⟩

end Go.Proofs.YtimfjoinjfecjaaGreat

namespace Go.Proofs.YtimfjoinjfecjaaGreat
open Go.RowKit
set_option linter.unusedVariables false

/-- append, as one step of a region that draws its order. -/
theorem step_more {w w1 : World} {ops : Array Oper} {o : Oper} {a : Act} {Kc : Act → World → Prop} {Q : Exit → Act → World → Prop} {G : Prop} (hgd : o.guard = none) (s x : Operand)
    (ho : o.op = .call { callee := .builtin .append, args := #[s, x], argTypes := #[42, 42] })
    (y : Int) (hw : w = (w1.alloc (.cells #[.int .i64 y] 3)).drew) (B : Nat) (v : Value) (xs : List Int) (hs : a.eval s = v) (own : LRow w1 B v xs)
    (q : Nat) (hx : a.eval x = .slice (some ⟨q, 0, none⟩) 1 1) (hq : q = w1.heap.size) (hbd : xs.length ≤ 100000000) (hB : B ≤ w1.heap.size)
    (h : ∀ v' w', Hid (OwnL w' B v' (xs ++ [y])) → Hid (w1.grownBy w' v.ownBlock) → Hid (Nw w1 v v' ∧ Kept w1 w' v v') → Kc (a.put o.dst v') w') :
    if Region.wanted o (yielded ops a.tmps) = true then Oper.wp Tryz.prog o a w Kc Q else G := by
  have hwd : Region.wanted o (yielded ops a.tmps) = true := by simp [Region.wanted, hgd]
  rw [if_pos hwd]
  obtain ⟨v', w', hr, h2, h3, h4, h5⟩ := run_more (w1 := w1.drew) o.type y hw B v xs (own.keep (grown_below (below_drew w1)) (fun j hj => by cases hj)) q hq hbd hB
  unfold Oper.wp
  simp [execOp, ho, resolve, invoke, builtin, hs, hx, hr, Result.andThen]
  exact h v' w' h2 ⟨h3.os, h3.tape, h3.output, h3.size, h3.block⟩ ⟨h4, h5⟩

/-- What is so behind a literal's Decide. -/
def DcEnd (k : K) (F : Nat → Fc) (ls ss : List Int) (p : V) (m u : Nat) (w w' : World) : Prop := ∃ p', Raw k w' (upd F u ⟨sg m, (ss.length : Int) + 1, -1⟩) (ls ++ [(m : Int)]) (ss ++ [(ls.length : Int)]) p' ∧ Fr k p p' w w'

theorem dc_end {k : K} {F : Nat → Fc} {ls ss : List Int} {p p' : V} {m u : Nat} {w w1 w6 w' : World} (b : Below w.heap.size w w1) (f : Fr k p p' w1 w6) (e : AsEnd k F ls (ss ++ [(ls.length : Int)]) p' m u (-1) w6 w') : DcEnd k F ls ss p m u w w' := by
  obtain ⟨p'', s, f2⟩ := e
  refine ⟨p'', ?_, ((Fr.below b).trans f).trans f2⟩
  have e1 : (((ss ++ [(ls.length : Int)]).length : Nat) : Int) = (ss.length : Int) + 1 := by simp
  rw [e1] at s
  exact s

set_option maxHeartbeats 4000000 in
theorem decide_yes {k : K} {w : World} {F : Nat → Fc} {ls ss : List Int} {p : V} (s : Raw k w F ls ss p) (m u : Nat) (hm : m / 2 = u) (hu : (m : Int) ≤ 9223372036854775807) (h : u < k.n) (hz : (F u).v = 0) (hl : ls.length ≤ 1048576) (hs : ss.length ≤ 1048576) :
    Calls Tryz.prog 62 #[.pointer (some ⟨k.OB, 0, none⟩), .int .i64 m] w fun e w' => e = .returned (.bool true) ∧ DcEnd k F ls ss p m u w w' := by
  obtain ⟨ao, cap, ew, _⟩ := s.rl.shape
  obtain ⟨ao2, caps, es⟩ := s.ls_shape
  have HS := hid s
  have HM := hid hm
  have HZ := hid hz
  clear s hm hz
  go_enter Tryz.func62, Tryz.ntmps62
  go_wp2_with (go_at_call 100; with_reducible (refine (free_yes HS.out m u HM.out hu h HZ.out).mono ?_); rintro e w1 ⟨rfl, b1⟩)
  have R1 := hid (HS.out.below b1)
  have B1 := hid b1
  have c1 := R1.out.c1
  rw [ew] at c1
  have c2 := R1.out.c2
  rw [es] at c2
  have hsz := R1.out.sizes
  have c2' := (R1.out.below (w' := w1.alloc (.cells #[.int .i64 (ls.length : Int)] 3)) (by go_grown)).c2
  rw [es] at c2'
  have c1' := (R1.out.below (w' := w1.alloc (.cells #[.int .i64 (ls.length : Int)] 3)) (by go_grown)).c1
  rw [ew] at c1'
  clear b1
  go_region_law (refine step_more (w1 := w1) rfl _ _ rfl (ls.length : Int) rfl (k.OB + 1) p.s ss es.symm (LRow.of_own R1.out.rs) _ rfl (by simp) (by omega) hsz ?_; intro v5 w5 own5 g5 new5; have m5 := R1.out.mores own5.out g5.out new5.out.1; obtain ⟨g6, c6, rfl, d1, d2, r6, f6⟩ := m5; rw [es] at d1)
  all_goals go_wp2_with (go_at_call 101; with_reducible (refine (assign_yes r6.out m u HM.out hu h HZ.out hl (-1)).mono ?_); rintro e w8 ⟨rfl, h8⟩)
  all_goals go_ret
  all_goals exact ⟨rfl, dc_end B1.out f6.out h8⟩

theorem decide_no {k : K} {w : World} {F : Nat → Fc} {ls ss : List Int} {p : V} (s : Raw k w F ls ss p) (l : Int) (hu : l ≤ 9223372036854775807) (h : No k.n F l) :
    Calls Tryz.prog 62 #[.pointer (some ⟨k.OB, 0, none⟩), .int .i64 l] w fun e w' => e = .returned (.bool false) ∧ Below w.heap.size w w' := by
  have HS := hid s
  have HN := hid h
  clear s h
  go_enter Tryz.func62, Tryz.ntmps62
  go_wp2_with (go_at_call 100; with_reducible (refine (free_no HS.out _ hu HN.out).mono ?_); rintro e w1 ⟨rfl, b1⟩)
  go_ret
  exact ⟨rfl, b1⟩

/-! ### As the list says -/
def addL (n : Nat) (L : List E) (l : Int) (g : Nat) (r : Int) : List E := if mayF n L l then L ++ [⟨l.toNat, g, r⟩] else L
def decV (n : Nat) (L : List E) (lev : Nat) (l : Int) : Nat := if mayF n L l then lev + 1 else lev

section
variable {k : K} {w : World} {L : List E} {lev : Nat} {p : V}

theorem assign_is (t : Trl k w L lev p) (l r : Int) (hu : l ≤ 9223372036854775807) {b : Bool} {L' : List E} (hb : mayF k.n L l = b) (hL : addL k.n L l lev r = L') :
    Calls Tryz.prog 101 #[.pointer (some ⟨k.OB, 0, none⟩), .int .i64 l, .int .i64 r] w fun e w' => ∃ p', e = .returned (.bool b) ∧ Hid (Trl k w' L' lev p') ∧ Hid (Fr k p p' w w') := by
  obtain ⟨F, S, s, g, rfl⟩ := id t
  have h1 := g.len
  have h2 := s.hn
  subst hb hL
  unfold addL
  rcases g.cases l with ⟨hb, hn⟩ | ⟨hb, m, u, rfl, hm, hun, hz⟩
  · rw [hb]
    refine (assign_no s l hu hn r).mono fun e w' h => ?_
    exact ⟨p, h.1, t.below h.2, Fr.below h.2⟩
  · rw [hb]
    refine (assign_yes s m u hm hu hun hz (by rw [litsF_len]; omega) r).mono fun e w' h => ?_
    obtain ⟨rfl, p', s', f⟩ := h
    subst hm
    refine ⟨p', rfl, ⟨_, S, ?_, g.add hun hz r, rfl⟩, f⟩
    have e1 : litsF (L ++ [⟨m, S.length, r⟩]) = litsF L ++ [(m : Int)] := by simp [litsF]
    have e2 : (castS S).length = S.length := by simp [castS]
    rw [e2] at s'
    simp only [if_true, Int.toNat_natCast]
    rw [e1]
    exact s'

theorem decide_is (t : Trl k w L lev p) (l : Int) (hu : l ≤ 9223372036854775807) {b : Bool} {L' : List E} {lev' : Nat} (hb : mayF k.n L l = b) (hL : addL k.n L l (lev + 1) (-1) = L') (hv : decV k.n L lev l = lev') :
    Calls Tryz.prog 62 #[.pointer (some ⟨k.OB, 0, none⟩), .int .i64 l] w fun e w' => ∃ p', e = .returned (.bool b) ∧ Hid (Trl k w' L' lev' p') ∧ Hid (Fr k p p' w w') := by
  obtain ⟨F, S, s, g, rfl⟩ := id t
  have h1 := g.len
  have h2 := s.hn
  have h3 := g.ll
  subst hb hL hv
  unfold addL decV
  rcases g.cases l with ⟨hb, hn⟩ | ⟨hb, m, u, rfl, hm, hun, hz⟩
  · rw [hb]
    refine (decide_no s l hu hn).mono fun e w' h => ?_
    exact ⟨p, h.1, t.below h.2, Fr.below h.2⟩
  · rw [hb]
    have e2 : (castS S).length = S.length := by simp [castS]
    refine (decide_yes s m u hm hu hun hz (by rw [litsF_len]; omega) (by rw [e2]; omega)).mono fun e w' h => ?_
    obtain ⟨rfl, p', s', f⟩ := h
    subst hm
    refine ⟨p', rfl, ⟨_, S ++ [L.length], ?_, g.begin hun hz, by simp⟩, f⟩
    have e1 : litsF (L ++ [⟨m, S.length + 1, -1⟩]) = litsF L ++ [(m : Int)] := by simp [litsF]
    have e3 : castS (S ++ [L.length]) = castS S ++ [((litsF L).length : Int)] := by simp [castS, litsF]
    rw [e2] at s'
    simp only [if_true, Int.toNat_natCast]
    rw [e1, e3]
    exact s'
end

end Go.Proofs.YtimfjoinjfecjaaGreat

namespace Go.Proofs.YtimfjoinjfecjaaGreat
open Go.RowKit
set_option linter.unusedVariables false

theorem Tryz.info157 : (Tryz.prog.info? 157).map (fun i => (i.zero, i.size, i.bytes)) = some (some (.agg #[.int .i64 0, .int .i64 0, .int .i64 0]), 3, 24) := by kernel_rfl

def cntF (n : Int) : Nat := if n < 0 ∨ 1048576 < n then 0 else n.toNat
def zf : Nat → Fc := fun _ => ⟨0, 0, 0⟩
def zcells (m : Nat) : Array Value := madeCells #[.int .i64 0, .int .i64 0, .int .i64 0] (m * 3)

theorem make83 (n : Nat) (hn : n ≤ 1048576) (w : World) : (Instr.makeSlice 76 (.int .i64 n) (.int .i64 n)).run Tryz.prog w = .ok (.slice (some ⟨w.heap.size, 0, none⟩) n n) (w.alloc (.cells (zcells n) 157)) := by
  obtain ⟨i0, hi, hz0, hz1, hz2⟩ := info_parts Tryz.info157
  have := run_make (P := Tryz.prog) w 76 157 i0 (.agg #[.int .i64 0, .int .i64 0, .int .i64 0]) Tryz.underlying76 hi hz0 .i64 .i64 n n (by omega) (Int.le_refl _) (by rw [hz2]; omega) (by omega)
  rw [this, hz1]
  simp [Value.cells, zcells]

theorem zcells_at {m j : Nat} (h : j < m * 3) : (zcells m)[j]? = some (.int .i64 0) := by
  have e : j % 3 = 0 ∨ j % 3 = 1 ∨ j % 3 = 2 := by omega
  simp only [zcells, madeCells, Array.getElem?_map, Array.getElem?_range, if_pos h]
  rcases e with e | e | e <;> simp [e]

theorem zfacts {w : World} {b m : Nat} (h : w.heap[b]? = some (.cells (zcells m) 157 (0, 0))) : Facts w b m zf :=
  ⟨_, h, by simp [zcells, size_madeCells], fun i hi => ⟨zcells_at (by omega), zcells_at (by omega), zcells_at (by omega)⟩⟩

theorem zgood (m : Nat) : Good m [] zf [] :=
  ⟨by simp, by simp, fun _ _ _ => rfl, by simp, by simp, by simp, by simp⟩

def noV : V := ⟨.slice none 0 0, .slice none 0 0⟩
def NewEnd (n : Int) (w : World) (OB : Nat) (w' : World) : Prop := ∃ k : K, k.OB = OB ∧ k.B = w.heap.size ∧ k.n = cntF n ∧ Trl k w' [] 0 noV ∧ Below w.heap.size w w'

theorem new_end {n : Int} {m : Nat} (w : World) (hm : cntF n = m) (hle : m ≤ 1048576) :
    NewEnd n w (w.heap.size + 1) ((w.alloc (.cells (zcells m) 157)).alloc (.cells #[.slice (some ⟨w.heap.size, 0, none⟩) m m, .slice none 0 0, .slice none 0 0] 78)) := by
  have e1 : (w.alloc (.cells (zcells m) 157)).heap.size = w.heap.size + 1 := by simp
  have h2 := new_same (w.alloc (.cells (zcells m) 157)) (.cells #[.slice (some ⟨w.heap.size, 0, none⟩) m m, .slice none 0 0, .slice none 0 0] 78)
  rw [e1] at h2
  have h1 : ((w.alloc (.cells (zcells m) 157)).alloc (.cells #[.slice (some ⟨w.heap.size, 0, none⟩) m m, .slice none 0 0, .slice none 0 0] 78)).heap[w.heap.size]? = some (.cells (zcells m) 157 (0, 0)) := by
    rw [(grown_new (w.alloc (.cells (zcells m) 157)) _ none).block _ (by rw [e1]; omega) (by simp)]
    exact new_same w _
  refine ⟨⟨w.heap.size, w.heap.size, w.heap.size + 1, m⟩, rfl, rfl, hm.symm, ⟨zf, [], ⟨Nat.le_refl _, by show w.heap.size < w.heap.size + 1; omega, hle, h2, zfacts h1, LRow.nil _ _, World.ownsRow_nil _ _ _ _, ?_⟩, zgood m, rfl⟩, by go_grown⟩
  intro j hj
  simp [noV, Value.ownBlock] at hj

set_option maxHeartbeats 1000000 in
theorem new_any (n : Int) (w : World) : Calls Tryz.prog 25 #[.int .i64 n] w fun e w' => ∃ OB, e = .returned (.pointer (some ⟨OB, 0, none⟩)) ∧ NewEnd n w OB w' := by
  by_cases h0 : n < 0
  · have HC : Hid (cntF n = 0) := hid (by simp [cntF, h0])
    have hmk := make83 0 (by omega)
    simp only [Int.natCast_zero] at hmk
    go_enter Tryz.func25, Tryz.ntmps25
    go_wp2
    go_ret
    exact ⟨_, rfl, new_end w HC.out (by omega)⟩
  · by_cases h1 : 1048576 < n
    · have HC : Hid (cntF n = 0) := hid (by simp [cntF, h1])
      have hmk := make83 0 (by omega)
      simp only [Int.natCast_zero] at hmk
      go_enter Tryz.func25, Tryz.ntmps25
      go_wp2
      go_ret
      exact ⟨_, rfl, new_end w HC.out (by omega)⟩
    · obtain ⟨m, rfl⟩ : ∃ m : Nat, n = m := ⟨n.toNat, by omega⟩
      have HC : Hid (cntF m = m) := hid (by simp only [cntF]; rw [if_neg (by omega)]; omega)
      have hmk := make83 m (by omega)
      have h1' : m ≤ 1048576 := by omega
      have h1d : decide ((1048576 : Int) < m) = false := by simp; omega
      go_enter Tryz.func25, Tryz.ntmps25
      go_wp2
      go_ret
      exact ⟨_, rfl, new_end w HC.out h1'⟩

theorem new_is (n : Int) (w : World) : Calls Tryz.prog 25 #[.int .i64 n] w fun e w' => ∃ k : K, e = .returned (.pointer (some ⟨k.OB, 0, none⟩)) ∧ Hid (Trl k w' [] 0 noV) ∧ Hid (k.n = cntF n) ∧ Hid (k.B = w.heap.size) ∧ Hid (Below w.heap.size w w') := by
  refine (new_any n w).mono fun e w' h => ?_
  obtain ⟨OB, rfl, k, rfl, h1, h2, h3, h4⟩ := h
  exact ⟨k, rfl, h3, h2, h1, h4⟩

end Go.Proofs.YtimfjoinjfecjaaGreat
