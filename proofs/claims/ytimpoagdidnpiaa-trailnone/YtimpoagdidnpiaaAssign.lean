/-
  Assign and Decide: a literal holds; at a level more.
-/
import Derived.Test.YtimpoagdidnpiaaSees
import Derived.Deep.RegionLaw
namespace Go.Proofs.Ytimpoagdidnpiaa
open Go.RowKit
set_option linter.unusedVariables false

/-- What lies there behind the append. -/
theorem Raw.more {k : K} {w w5 : World} {F : Nat → Fc} {ls ss : List Int} {p : V} {v5 : Value} {x : Int} (s : Raw k w F ls ss p) (own : OwnL w5 (k.OB + 1) v5 (ls ++ [x])) (g : w.grownBy w5 p.l.ownBlock) (nw : Nw w p.l v5) :
    ∃ g5 c5, v5 = .slice (some ⟨g5, 0, none⟩) (ls.length + 1) c5 ∧ w5.cell? ⟨k.OB, 1, none⟩ = some p.l ∧ w5.frozen? ⟨k.OB, 1, none⟩ = false ∧ Hid (Raw k (w5.setCell ⟨k.OB, 1, none⟩ v5) F (ls ++ [x]) ss ⟨v5, p.s⟩) ∧ Hid (Fr k p ⟨v5, p.s⟩ w (w5.setCell ⟨k.OB, 1, none⟩ v5)) := by
  obtain ⟨e, r, f⟩ := s.putl g (LRow.of_own own) nw
  obtain ⟨g5, c5, e5, _⟩ := (LRow.of_own own).filled (by simp)
  exact ⟨g5, c5, by simpa using e5, by rw [cell_of e]; rfl, frozen_of e, r, f⟩

theorem Raw.mores {k : K} {w w5 : World} {F : Nat → Fc} {ls ss : List Int} {p : V} {v5 : Value} {x : Int} (s : Raw k w F ls ss p) (own : OwnL w5 (k.OB + 1) v5 (ss ++ [x])) (g : w.grownBy w5 p.s.ownBlock) (nw : Nw w p.s v5) :
    ∃ g5 c5, v5 = .slice (some ⟨g5, 0, none⟩) (ss.length + 1) c5 ∧ w5.cell? ⟨k.OB, 2, none⟩ = some p.s ∧ w5.frozen? ⟨k.OB, 2, none⟩ = false ∧ Hid (Raw k (w5.setCell ⟨k.OB, 2, none⟩ v5) F ls (ss ++ [x]) ⟨p.l, v5⟩) ∧ Hid (Fr k p ⟨p.l, v5⟩ w (w5.setCell ⟨k.OB, 2, none⟩ v5)) := by
  obtain ⟨e, r, f⟩ := s.puts g own nw
  obtain ⟨g5, c5, e5, _⟩ := (LRow.of_own own).filled (by simp)
  exact ⟨g5, c5, by simpa using e5, by rw [cell_of e]; rfl, frozen_of e, r, f⟩

theorem Raw.sizes {k : K} {w : World} {F : Nat → Fc} {ls ss : List Int} {p : V} (s : Raw k w F ls ss p) : k.OB + 1 ≤ w.heap.size := by have := blk_lt s.cl; omega

/-- What is so behind a literal's Assign. -/
def AsEnd (k : K) (F : Nat → Fc) (ls ss : List Int) (p : V) (m u : Nat) (r : Int) (w w' : World) : Prop := ∃ p', Raw k w' (upd F u ⟨sg m, ss.length, r⟩) (ls ++ [(m : Int)]) ss p' ∧ Fr k p p' w w'

theorem as_end {k : K} {F : Nat → Fc} {ls ss : List Int} {p p' : V} {m u : Nat} {r x : Int} {w w6 w' : World} (hx : sg m = x) (f : Fr k p p w w6) (s : Raw k w' (upd F u ⟨x, ss.length, r⟩) (ls ++ [(m : Int)]) ss p') (f' : Fr k p p' w6 w') : AsEnd k F ls ss p m u r w w' := by
  subst hx; exact ⟨p', s, f.trans f'⟩

set_option maxHeartbeats 4000000 in
theorem assign_yes {k : K} {w : World} {F : Nat → Fc} {ls ss : List Int} {p : V} (s : Raw k w F ls ss p) (m u : Nat) (hm : m / 2 = u) (hu : (m : Int) ≤ 9223372036854775807) (h : u < k.n) (hz : (F u).v = 0) (hl : ls.length ≤ 1048576) (r : Int) :
    Calls Try.prog 21 #[.pointer (some ⟨k.OB, 0, none⟩), .int .i64 m, .int .i64 r] w fun e w' => e = .returned (.bool true) ∧ AsEnd k F ls ss p m u r w w' := by
  obtain ⟨ao, cap, ew, _⟩ := s.rl.shape
  have HS := hid s
  have HM := hid hm
  have HZ := hid hz
  have h' : (u : Int) < k.n := by omega
  clear s hm hz
  by_cases ho : m % 2 = 1
  · have HB : Hid (decide (m % 2 = 1) = true) := hid (by simp [ho])
    have HG : Hid (sg m = -1) := hid (by simp [sg, ho])
    clear ho
    go_enter Try.func21, Try.ntmps21
    go_wp2_with (first
      | (go_at_call 32; with_reducible (refine (free_yes HS.out m u HM.out hu h HZ.out).mono ?_); rintro e w1 ⟨rfl, b1⟩)
      | (go_at_call 28; with_reducible (refine (neg_nat _ _ HB.out hu _).mono ?_); rintro e w2 ⟨rfl, b2⟩))
    have b3 : Hid (Below w.heap.size w w2) := hid (Below.next b1 b2)
    have c0 := (HS.out.below b3.out).c0
    clear b1 b2
    go_region_with (first
      | (go_at_call 26; with_reducible (refine (var_nat _ _ HM.out hu _).mono ?_); rintro e w3 ⟨rfl, b4⟩; have b5 := hid (Below.next (Below.next b3.out (below_drew w2)) b4); have s5 := hid (HS.out.below b5.out); have c0' := s5.out.c0; have f1 := (s5.out.fa h).1; have f2 := (s5.out.fa h).2.1; have f3 := (s5.out.fa h).2.2; have f4 := s5.out.ff (u * 3); have f5 := s5.out.ff (u * 3 + 1); have f6 := s5.out.ff (u * 3 + 2))
      | (go_at_call 10; with_reducible (refine (levels_any s5.out).mono ?_); rintro e w3 ⟨rfl, rfl⟩))
    all_goals have R6 := hid (s5.out.putf h ⟨-1, ss.length, r⟩)
    all_goals have F6 := hid ((Fr.below (k := k) (p := p) b5.out).trans (Fr.grown (grown3 w3 k.FB (u * 3) (u * 3 + 1) (u * 3 + 2) (.int .i64 (-1)) (.int .i64 ss.length) (.int .i64 r)) (fun j hj => by cases hj; exact .inl rfl)))
    all_goals clear c0 c0' f1 f2 f3 f4 f5 f6 s5 b5 b4 b3
    all_goals revert R6 F6
    all_goals generalize (((w3.setCell ⟨k.FB, u * 3, none⟩ (.int .i64 (-1))).setCell ⟨k.FB, u * 3 + 1, none⟩ (.int .i64 ss.length)).setCell ⟨k.FB, u * 3 + 2, none⟩ (.int .i64 r)) = w6
    all_goals intro R6 F6
    all_goals have c1 := R6.out.c1
    all_goals rw [ew] at c1
    all_goals have hsz := R6.out.sizes
    all_goals go_wp2_with (at_builtin; refine append_new (w1 := w6) rfl _ _ rfl m rfl (k.OB + 1) p.l ls ew.symm R6.out.rl _ rfl (by simp) (by omega) hsz ?_; intro v7 w7 own7 g7 new7; have m7 := R6.out.more own7.out g7.out new7.out; obtain ⟨g8, c8, rfl, d1, d2, r8, f8⟩ := m7; rw [ew] at d1)
    all_goals go_ret
    all_goals exact ⟨rfl, as_end HG.out F6.out r8.out f8.out⟩
  · have HB : Hid (decide (m % 2 = 1) = false) := hid (by simp [ho])
    have HG : Hid (sg m = 1) := hid (by simp [sg, ho])
    clear ho
    go_enter Try.func21, Try.ntmps21
    go_wp2_with (first
      | (go_at_call 32; with_reducible (refine (free_yes HS.out m u HM.out hu h HZ.out).mono ?_); rintro e w1 ⟨rfl, b1⟩)
      | (go_at_call 28; with_reducible (refine (neg_nat _ _ HB.out hu _).mono ?_); rintro e w2 ⟨rfl, b2⟩))
    have b3 : Hid (Below w.heap.size w w2) := hid (Below.next b1 b2)
    have c0 := (HS.out.below b3.out).c0
    clear b1 b2
    go_region_with (first
      | (go_at_call 26; with_reducible (refine (var_nat _ _ HM.out hu _).mono ?_); rintro e w3 ⟨rfl, b4⟩; have b5 := hid (Below.next (Below.next b3.out (below_drew w2)) b4); have s5 := hid (HS.out.below b5.out); have c0' := s5.out.c0; have f1 := (s5.out.fa h).1; have f2 := (s5.out.fa h).2.1; have f3 := (s5.out.fa h).2.2; have f4 := s5.out.ff (u * 3); have f5 := s5.out.ff (u * 3 + 1); have f6 := s5.out.ff (u * 3 + 2))
      | (go_at_call 10; with_reducible (refine (levels_any s5.out).mono ?_); rintro e w3 ⟨rfl, rfl⟩))
    all_goals have R6 := hid (s5.out.putf h ⟨1, ss.length, r⟩)
    all_goals have F6 := hid ((Fr.below (k := k) (p := p) b5.out).trans (Fr.grown (grown3 w3 k.FB (u * 3) (u * 3 + 1) (u * 3 + 2) (.int .i64 (1)) (.int .i64 ss.length) (.int .i64 r)) (fun j hj => by cases hj; exact .inl rfl)))
    all_goals clear c0 c0' f1 f2 f3 f4 f5 f6 s5 b5 b4 b3
    all_goals revert R6 F6
    all_goals generalize (((w3.setCell ⟨k.FB, u * 3, none⟩ (.int .i64 (1))).setCell ⟨k.FB, u * 3 + 1, none⟩ (.int .i64 ss.length)).setCell ⟨k.FB, u * 3 + 2, none⟩ (.int .i64 r)) = w6
    all_goals intro R6 F6
    all_goals have c1 := R6.out.c1
    all_goals rw [ew] at c1
    all_goals have hsz := R6.out.sizes
    all_goals go_wp2_with (at_builtin; refine append_new (w1 := w6) rfl _ _ rfl m rfl (k.OB + 1) p.l ls ew.symm R6.out.rl _ rfl (by simp) (by omega) hsz ?_; intro v7 w7 own7 g7 new7; have m7 := R6.out.more own7.out g7.out new7.out; obtain ⟨g8, c8, rfl, d1, d2, r8, f8⟩ := m7; rw [ew] at d1)
    all_goals go_ret
    all_goals exact ⟨rfl, as_end HG.out F6.out r8.out f8.out⟩

theorem assign_no {k : K} {w : World} {F : Nat → Fc} {ls ss : List Int} {p : V} (s : Raw k w F ls ss p) (l : Int) (hu : l ≤ 9223372036854775807) (h : No k.n F l) (r : Int) :
    Calls Try.prog 21 #[.pointer (some ⟨k.OB, 0, none⟩), .int .i64 l, .int .i64 r] w fun e w' => e = .returned (.bool false) ∧ Below w.heap.size w w' := by
  have HS := hid s
  have HN := hid h
  clear s h
  go_enter Try.func21, Try.ntmps21
  go_wp2_with (go_at_call 32; with_reducible (refine (free_no HS.out _ hu HN.out).mono ?_); rintro e w1 ⟨rfl, b1⟩)
  go_ret
  exact ⟨rfl, b1⟩

end Go.Proofs.Ytimpoagdidnpiaa
