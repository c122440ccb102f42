/-
  lean, lose: clauses come into lists, and go.
-/
import Derived.Test.YtikdmgemhfmipaaGreatWLists
namespace Go.Proofs.YtikdmgemhfmipaaGreat
open Go.RowKit Go.Maps
set_option linter.unusedVariables false

theorem mem_two {nx : Nat} {xs ys : List Nat} (h : ∀ i ∈ xs, i < nx) (h' : ∀ i ∈ ys, i < nx) : ∀ i ∈ xs ++ ys, i < nx := fun i hi => (List.mem_append.1 hi).elim (h i) (h' i)

theorem PRow.one {w : World} {cb : Nat → Nat} {v : Value} {xs : List Nat} {c : Nat} (h : PRow w cb v (xs ++ [c])) : ∃ b o p, v = .slice (some ⟨b, o, none⟩) (xs.length + 1) p := by
  obtain ⟨b, o, p, e, _⟩ := h.filled (by simp)
  exact ⟨b, o, p, by simpa using e⟩

theorem PRow.sum {w : World} {cb : Nat → Nat} {v : Value} {xs ys : List Nat} (h : PRow w cb v (xs ++ ys)) : ∃ ao p, v = .slice ao (xs.length + ys.length) p := by
  obtain ⟨ao, p, e, _⟩ := h.shape
  exact ⟨ao, p, by simpa using e⟩

section
variable {k : WK} {w w1 : World} {g : G}

/-! ### lean -/
theorem lean_is (s : St k w g) {c : Nat} (hc : c < g.nx) (m u : Nat) (hm : m / 2 = u) (hu : u < k.n) (la : (g.P (2 * k.n + u)).length ≤ 10000000) :
    Calls Tryz.prog 68 #[.pointer (some ⟨k.OB, 0, none⟩), .pointer (some ⟨g.cb c, 0, none⟩), .int .i64 m] w fun e w' => e = .returned (.tuple #[]) ∧ ∃ v, Hid (St k w' (g.slot (2 * k.n + u) (g.P (2 * k.n + u) ++ [c]) v)) ∧ Hid (FW k.B w w') := by
  have hn := s.l.hn
  have hmu : (m : Int) ≤ 9223372036854775807 := by omega
  have h' : (u : Int) < k.n := by omega
  have HM := hid hm
  have HS := hid s
  have c3 := s.c3
  obtain ⟨aa, pa, ea, _⟩ := (s.l.rw (2 * k.n + u) (by omega)).shape
  clear hm s
  go_enter Tryz.func68, Tryz.ntmps68
  go_wp2
  go_region_with (go_at_call 31; with_reducible (refine (var_nat _ _ HM.out hmu _).mono ?_); rintro e w1 ⟨rfl, b1⟩; have b2 := hid (Below.next (below_drew w) b1); have s1 := hid (HS.out.below b2.out); have c3' := s1.out.c3; have cl := s1.out.c.fl hu; have e0 := ea; rw [ea] at cl)
  all_goals go_wp2_with (at_builtin; refine append_pone (w1 := w1) (cb := g.cb) rfl _ _ rfl c rfl (g.pv (2 * k.n + u)) (g.P (2 * k.n + u)) ea.symm (s1.out.l.rw (2 * k.n + u) (by omega)) _ rfl rfl (by omega) ?_; intro v5 w5 own5 g5 new5; have m5 := s1.out.pushl hu (mem_one (s1.out.l.sub _ (by omega)) hc) own5.out g5.out new5.out; obtain ⟨q1, q2, s6, F6⟩ := m5; rw [ea] at q1; have f5 := own5.out.one; obtain ⟨b6, o6, p6, rfl⟩ := f5)
  all_goals go_end0
  all_goals exact ⟨rfl, _, s6, hid ((FW.below b2.out).trans F6.out)⟩

/-! ### lose -/
def LoseEnd (k : WK) (g : G) (u : Nat) (w w' : World) : Prop := ∃ v1 v2, St k w' ((g.slot (3 * k.n) (g.P (3 * k.n) ++ g.P (2 * k.n + u)) v1).slot (2 * k.n + u) [] v2) ∧ FW k.B w w'

set_option maxHeartbeats 1000000 in
theorem lose_is (s : St k w g) (m u : Nat) (hm : m / 2 = u) (hu : u < k.n) (la : (g.P (3 * k.n)).length + (g.P (2 * k.n + u)).length ≤ 10000000) :
    Calls Tryz.prog 42 #[.pointer (some ⟨k.OB, 0, none⟩), .int .i64 m] w fun e w' => e = .returned (.tuple #[]) ∧ LoseEnd k g u w w' := by
  have hn := s.l.hn
  have hmu : (m : Int) ≤ 9223372036854775807 := by omega
  have h' : (u : Int) < k.n := by omega
  have HM := hid hm
  have HS := hid s
  obtain ⟨aa, pa, ea, _⟩ := (s.l.rw (2 * k.n + u) (by omega)).shape
  obtain ⟨ab, pb, eb, _⟩ := (s.l.rw (3 * k.n) (by omega)).shape
  clear hm s
  go_enter Tryz.func42, Tryz.ntmps42
  go_upto_region 1 with (go_at_call 17; with_reducible (refine (has_yes HS.out m u HM.out hu).mono ?_); rintro e w1 ⟨rfl, b1⟩; have s1 := hid (HS.out.below b1); have c3 := s1.out.c3)
  go_cut [4] from 5 to 39 (fun f wx => f = .pointer (some ⟨k.FB, u * 2, none⟩) ∧ Hid (Below w.heap.size w wx))
  case first =>
    go_region_with (go_at_call 31; with_reducible (refine (var_nat _ _ HM.out hmu _).mono ?_); rintro e w2 ⟨rfl, b2⟩; have b3 := hid (Below.next (Below.next b1 (below_drew w1)) b2); have s2 := hid (HS.out.below b3.out); have c3' := s2.out.c3)
    all_goals go_wp2_with fail
    all_goals go_meet
    all_goals exact ⟨rfl, b3⟩
  case rest =>
    obtain ⟨rfl, b3⟩ := hcut
    have s2 := hid (HS.out.below b3.out)
    have c4 := s2.out.c4
    have cl := s2.out.c.fl hu
    rw [eb] at c4
    rw [ea] at cl
    clear s1 c3
    go_upto_region 2 with fail
    go_cut [] from 5 to 39 (fun wx => ∃ v, Hid (St k wx (g.slot (3 * k.n) (g.P (3 * k.n) ++ g.P (2 * k.n + u)) v)) ∧ Hid (FW k.B w wx))
    case first =>
      go_region_law (refine step_pmany (w := wc.drew) (cb := g.cb) rfl _ _ rfl (g.pv (3 * k.n)) (g.P (3 * k.n)) eb.symm (s2.out.drew.l.rw (3 * k.n) (by omega)) (u := g.pv (2 * k.n + u)) (g.P (2 * k.n + u)) ea.symm (s2.out.drew.l.rw (2 * k.n + u) (by omega)) (by omega) ?_; intro v5 w5 own5 g5 new5; have f5 := own5.out.sum; obtain ⟨a5, p5, rfl⟩ := f5; have m5 := St.pusha (w1 := wc.drew) s2.out.drew (mem_two (s2.out.l.sub _ (by omega)) (s2.out.l.sub _ (by omega))) own5.out g5.out new5.out; obtain ⟨q1, q2, s6, F6⟩ := m5; rw [eb] at q1)
      all_goals go_wp2_with fail
      all_goals go_meet
      all_goals exact ⟨_, s6, hid (((FW.below b3.out).trans (FW.below (below_drew _))).trans F6.out)⟩
    case rest =>
      obtain ⟨v, s7, F7⟩ := hcut
      clear c4 cl s2 b3
      have hpv : (g.slot (3 * k.n) (g.P (3 * k.n) ++ g.P (2 * k.n + u)) v).pv (2 * k.n + u) = g.pv (2 * k.n + u) := up_ne _ _ (by omega)
      have hP : (g.slot (3 * k.n) (g.P (3 * k.n) ++ g.P (2 * k.n + u)) v).P (2 * k.n + u) = g.P (2 * k.n + u) := up_ne _ _ (by omega)
      have cl := s7.out.c.fl hu
      have r7 := s7.out.l.rw (2 * k.n + u) (by omega)
      rw [hpv, ea] at cl
      rw [hpv, hP] at r7
      have R7 := hid r7
      have HPV := hid hpv
      have H7 := r7
      clear r7 hpv hP
      rcases H7 with ⟨e1, e2⟩ | ⟨b, off, cap, cur, e1, _⟩
      · have r8 : PRow wc g.cb (.slice none 0 0) [] := .inl ⟨rfl, rfl⟩
        rw [e1] at ea
        have m7 := s7.out.pushl hu (fun i hi => by simp at hi) r8 (by rw [HPV.out, e1]; exact ⟨rfl, rfl, rfl, Nat.le_refl _, fun _ _ _ => rfl⟩) (fun j hj => by simp [Value.ownBlock] at hj)
        obtain ⟨q1, q2, s8, F8⟩ := m7
        rw [← ea] at cl
        have hc0 := run_clear0 wc 0 none 0
        clear q1 e1 ea e2 eb
        go_wp2
        go_end0
        exact ⟨rfl, _, _, s8.out, F7.out.trans F8.out⟩
      · rw [e1] at ea
        have R8 := R7.out
        rw [e1] at R8
        obtain ⟨w8, hc8, r8, g8⟩ := run_pclear wc 0 R8
        have m7 := s7.out.pushl hu (fun i hi => by simp at hi) r8 (by rw [HPV.out, e1]; exact g8) (fun j hj => .inl (by rw [HPV.out, e1]; exact hj))
        obtain ⟨q1, q2, s8, F8⟩ := m7
        rw [← ea] at cl
        rw [HPV.out, e1] at q1
        clear e1 ea eb R8
        go_wp2
        go_end0
        exact ⟨rfl, _, _, s8.out, F7.out.trans F8.out⟩
end

end Go.Proofs.YtikdmgemhfmipaaGreat
