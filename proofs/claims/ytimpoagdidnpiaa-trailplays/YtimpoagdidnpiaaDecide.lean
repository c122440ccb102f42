/-
  Decide: at a level more; both, as the list says.
-/
import Derived.Test.YtimpoagdidnpiaaAssign
namespace Go.Proofs.Ytimpoagdidnpiaa
open Go.RowKit
set_option linter.unusedVariables false

/-- append, as one step of a region that draws its order. -/
theorem step_more {w w1 : World} {ops : Array Oper} {o : Oper} {a : Act} {Kc : Act → World → Prop} {Q : Exit → Act → World → Prop} {G : Prop} (hgd : o.guard = none) (s x : Operand)
    (ho : o.op = .call { callee := .builtin .append, args := #[s, x], argTypes := #[38, 38] })
    (y : Int) (hw : w = (w1.alloc (.cells #[.int .i64 y] 3)).drew) (B : Nat) (v : Value) (xs : List Int) (hs : a.eval s = v) (own : LRow w1 B v xs)
    (q : Nat) (hx : a.eval x = .slice (some ⟨q, 0, none⟩) 1 1) (hq : q = w1.heap.size) (hbd : xs.length ≤ 100000000) (hB : B ≤ w1.heap.size)
    (h : ∀ v' w', Hid (OwnL w' B v' (xs ++ [y])) → Hid (w1.grownBy w' v.ownBlock) → Hid (Nw w1 v v') → Kc (a.put o.dst v') w') :
    if Region.wanted o (yielded ops a.tmps) = true then Oper.wp Try.prog o a w Kc Q else G := by
  have hwd : Region.wanted o (yielded ops a.tmps) = true := by simp [Region.wanted, hgd]
  rw [if_pos hwd]
  obtain ⟨v', w', hr, h2, h3, h4⟩ := run_more (w1 := w1.drew) o.type y hw B v xs (own.keep (grown_below (below_drew w1)) (fun j hj => by cases hj)) q hq hbd hB
  unfold Oper.wp
  simp [execOp, ho, resolve, invoke, builtin, hs, hx, hr, Result.andThen]
  exact h v' w' h2 ⟨h3.os, h3.tape, h3.output, h3.size, h3.block⟩ h4

/-- What is so behind a literal's Decide. -/
def DcEnd (k : K) (F : Nat → Fc) (ls ss : List Int) (p : V) (m u : Nat) (w w' : World) : Prop := ∃ p', Raw k w' (upd F u ⟨sg m, (ss.length : Int) + 1, -1⟩) (ls ++ [(m : Int)]) (ss ++ [(ls.length : Int)]) p' ∧ Fr k p p' w w'

theorem dc_end {k : K} {F : Nat → Fc} {ls ss : List Int} {p p' : V} {m u : Nat} {w w1 w6 w' : World} (b : Below w.heap.size w w1) (f : Fr k p p' w1 w6) (e : AsEnd k F ls (ss ++ [(ls.length : Int)]) p' m u (-1) w6 w') : DcEnd k F ls ss p m u w w' := by
  obtain ⟨p'', s, f2⟩ := e
  refine ⟨p'', ?_, ((Fr.below b).trans f).trans f2⟩
  have e1 : (((ss ++ [(ls.length : Int)]).length : Nat) : Int) = (ss.length : Int) + 1 := by simp
  rw [e1] at s
  exact s

set_option maxHeartbeats 4000000 in
theorem decide_yes {k : K} {w : World} {F : Nat → Fc} {ls ss : List Int} {p : V} (s : Raw k w F ls ss p) (m u : Nat) (hm : m / 2 = u) (hu : (m : Int) ≤ 9223372036854775807) (h : u < k.n) (hz : (F u).v = 0) (hl : ls.length ≤ 1048576) (hs : ss.length ≤ 1048576) :
    Calls Try.prog 22 #[.pointer (some ⟨k.OB, 0, none⟩), .int .i64 m] w fun e w' => e = .returned (.bool true) ∧ DcEnd k F ls ss p m u w w' := by
  obtain ⟨ao, cap, ew, _⟩ := s.rl.shape
  obtain ⟨ao2, caps, es⟩ := s.ls_shape
  have HS := hid s
  have HM := hid hm
  have HZ := hid hz
  clear s hm hz
  go_enter Try.func22, Try.ntmps22
  go_wp2_with (go_at_call 32; with_reducible (refine (free_yes HS.out m u HM.out hu h HZ.out).mono ?_); rintro e w1 ⟨rfl, b1⟩)
  have R1 := hid (HS.out.below b1)
  have B1 := hid b1
  have c1 := R1.out.c1
  rw [ew] at c1
  have c2 := R1.out.c2
  rw [es] at c2
  have hsz := R1.out.sizes
  have c2' := (R1.out.below (w' := w1.alloc (.cells #[.int .i64 (ls.length : Int)] 3)) (by go_grown)).c2
  rw [es] at c2'
  have c1' := (R1.out.below (w' := w1.alloc (.cells #[.int .i64 (ls.length : Int)] 3)) (by go_grown)).c1
  rw [ew] at c1'
  clear b1
  go_region_law (refine step_more (w1 := w1) rfl _ _ rfl (ls.length : Int) rfl (k.OB + 1) p.s ss es.symm (LRow.of_own R1.out.rs) _ rfl (by simp) (by omega) hsz ?_; intro v5 w5 own5 g5 new5; have m5 := R1.out.mores own5.out g5.out new5.out; obtain ⟨g6, c6, rfl, d1, d2, r6, f6⟩ := m5; rw [es] at d1)
  all_goals go_wp2_with (go_at_call 21; with_reducible (refine (assign_yes r6.out m u HM.out hu h HZ.out hl (-1)).mono ?_); rintro e w8 ⟨rfl, h8⟩)
  all_goals go_ret
  all_goals exact ⟨rfl, dc_end B1.out f6.out h8⟩

theorem decide_no {k : K} {w : World} {F : Nat → Fc} {ls ss : List Int} {p : V} (s : Raw k w F ls ss p) (l : Int) (hu : l ≤ 9223372036854775807) (h : No k.n F l) :
    Calls Try.prog 22 #[.pointer (some ⟨k.OB, 0, none⟩), .int .i64 l] w fun e w' => e = .returned (.bool false) ∧ Below w.heap.size w w' := by
  have HS := hid s
  have HN := hid h
  clear s h
  go_enter Try.func22, Try.ntmps22
  go_wp2_with (go_at_call 32; with_reducible (refine (free_no HS.out _ hu HN.out).mono ?_); rintro e w1 ⟨rfl, b1⟩)
  go_ret
  exact ⟨rfl, b1⟩

/-! ### As the list says -/
def addL (n : Nat) (L : List E) (l : Int) (g : Nat) (r : Int) : List E := if mayF n L l then L ++ [⟨l.toNat, g, r⟩] else L
def decV (n : Nat) (L : List E) (lev : Nat) (l : Int) : Nat := if mayF n L l then lev + 1 else lev

section
variable {k : K} {w : World} {L : List E} {lev : Nat} {p : V}

theorem assign_is (t : Trl k w L lev p) (l r : Int) (hu : l ≤ 9223372036854775807) {b : Bool} {L' : List E} (hb : mayF k.n L l = b) (hL : addL k.n L l lev r = L') :
    Calls Try.prog 21 #[.pointer (some ⟨k.OB, 0, none⟩), .int .i64 l, .int .i64 r] w fun e w' => ∃ p', e = .returned (.bool b) ∧ Hid (Trl k w' L' lev p') ∧ Hid (Fr k p p' w w') := by
  obtain ⟨F, S, s, g, rfl⟩ := id t
  have h1 := g.len
  have h2 := s.hn
  subst hb hL
  unfold addL
  rcases g.cases l with ⟨hb, hn⟩ | ⟨hb, m, u, rfl, hm, hun, hz⟩
  · rw [hb]
    refine (assign_no s l hu hn r).mono fun e w' h => ?_
    exact ⟨p, h.1, t.below h.2, Fr.below h.2⟩
  · rw [hb]
    refine (assign_yes s m u hm hu hun hz (by rw [litsF_len]; omega) r).mono fun e w' h => ?_
    obtain ⟨rfl, p', s', f⟩ := h
    subst hm
    refine ⟨p', rfl, ⟨_, S, ?_, g.add hun hz r, rfl⟩, f⟩
    have e1 : litsF (L ++ [⟨m, S.length, r⟩]) = litsF L ++ [(m : Int)] := by simp [litsF]
    have e2 : (castS S).length = S.length := by simp [castS]
    rw [e2] at s'
    simp only [if_true, Int.toNat_natCast]
    rw [e1]
    exact s'

theorem decide_is (t : Trl k w L lev p) (l : Int) (hu : l ≤ 9223372036854775807) {b : Bool} {L' : List E} {lev' : Nat} (hb : mayF k.n L l = b) (hL : addL k.n L l (lev + 1) (-1) = L') (hv : decV k.n L lev l = lev') :
    Calls Try.prog 22 #[.pointer (some ⟨k.OB, 0, none⟩), .int .i64 l] w fun e w' => ∃ p', e = .returned (.bool b) ∧ Hid (Trl k w' L' lev' p') ∧ Hid (Fr k p p' w w') := by
  obtain ⟨F, S, s, g, rfl⟩ := id t
  have h1 := g.len
  have h2 := s.hn
  have h3 := g.ll
  subst hb hL hv
  unfold addL decV
  rcases g.cases l with ⟨hb, hn⟩ | ⟨hb, m, u, rfl, hm, hun, hz⟩
  · rw [hb]
    refine (decide_no s l hu hn).mono fun e w' h => ?_
    exact ⟨p, h.1, t.below h.2, Fr.below h.2⟩
  · rw [hb]
    have e2 : (castS S).length = S.length := by simp [castS]
    refine (decide_yes s m u hm hu hun hz (by rw [litsF_len]; omega) (by rw [e2]; omega)).mono fun e w' h => ?_
    obtain ⟨rfl, p', s', f⟩ := h
    subst hm
    refine ⟨p', rfl, ⟨_, S ++ [L.length], ?_, g.begin hun hz, by simp⟩, f⟩
    have e1 : litsF (L ++ [⟨m, S.length + 1, -1⟩]) = litsF L ++ [(m : Int)] := by simp [litsF]
    have e3 : castS (S ++ [L.length]) = castS S ++ [((litsF L).length : Int)] := by simp [castS, litsF]
    rw [e2] at s'
    simp only [if_true, Int.toNat_natCast]
    rw [e1, e3]
    exact s'
end

end Go.Proofs.Ytimpoagdidnpiaa
