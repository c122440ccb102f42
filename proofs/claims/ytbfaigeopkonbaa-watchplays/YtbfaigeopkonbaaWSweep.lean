/-
  sweep: the clauses that are gone are taken out of all lists.
-/
import Derived.Test.YtbfaigeopkonbaaWAdd
namespace Go.Proofs.Ytbfaigeopkonbaa
open Go.RowKit Go.Maps
set_option linter.unusedVariables false

theorem goneF_at (w : World) (b : Nat) (v : Bool) (h : w.cell? ⟨b, 5, none⟩ = some (.bool v)) : Calls Try.prog 62 #[.pointer (some ⟨b, 0, none⟩)] w fun e w' => e = .returned (.bool v) ∧ w' = w := by
  go_enter Try.func62, Try.ntmps62
  go_wp2
  go_ret
  exact ⟨rfl, rfl⟩

/-- Its lists up to q hold no clause that is gone. -/
def SwI (g : G) (q : Nat) (g1 : G) : Prop := ∃ f, g1 = { g with P := fun s => if s < q then outF g.gn (g.P s) else g.P s, pv := f }

theorem SwI.start (g : G) : SwI g 0 g := ⟨g.pv, by cases g; simp⟩

theorem SwI.next {g g1 : G} {q : Nat} (h : SwI g q g1) (v : Value) : SwI g (q + 1) (g1.slot q (outF g1.gn (g1.P q)) v) := by
  obtain ⟨f, rfl⟩ := h
  refine ⟨up f q v, ?_⟩
  have e : up (fun s => if s < q then outF g.gn (g.P s) else g.P s) q (outF g.gn (if q < q then outF g.gn (g.P q) else g.P q)) = fun s => if s < q + 1 then outF g.gn (g.P s) else g.P s := by
    funext s
    by_cases e : s = q
    · subst e
      rw [up_same, if_neg (Nat.lt_irrefl s), if_pos (Nat.lt_succ_self s)]
    · rw [up_ne _ _ e]
      by_cases h1 : s < q
      · rw [if_pos h1, if_pos (by omega)]
      · rw [if_neg h1, if_neg (by omega)]
  show G.mk _ _ _ _ _ _ _ _ (up (fun s => if s < q then outF g.gn (g.P s) else g.P s) q (outF g.gn (if q < q then outF g.gn (g.P q) else g.P q))) _ _ _ _ _ _ = _
  rw [e]

theorem SwI.nx {g g1 : G} {q : Nat} (h : SwI g q g1) : g1.nx = g.nx := by obtain ⟨f, rfl⟩ := h; rfl

section
variable {k : WK} {w w1 : World} {g : G}

theorem delG_is (s : St k w g) {x : Nat} (hx : x ≤ 3 * k.n) {ao : Option Addr} {n cap : Nat} (ev : g.pv x = .slice ao n cap) :
    Calls Try.prog 63 #[.slice ao n cap, .func (.func 62) #[] #[]] w fun e w' => ∃ ao' n' cap', e = .returned (.slice ao' n' cap') ∧ Hid (PRow w' g.cb (.slice ao' n' cap') (outF g.gn (g.P x))) ∧ Hid (w.grownBy w' (g.pv x).ownBlock) ∧ Hid ((Value.slice ao' n' cap').ownBlock = (g.pv x).ownBlock) := by
  have own := s.l.rw x hx
  rw [ev] at own
  refine (deleteG (q := g.gn) w own ?_).mono ?_
  · intro wr gr i hi
    rw [← ev] at gr
    have hlt := s.l.sub x hx i hi
    have h1 := s.l.cl i hlt
    have t1 : Typ w (g.cb i) 88 := ⟨_, _, h1⟩
    have e1 : wr.heap[g.cb i]? = w.heap[g.cb i]? := gr.block _ t1.lt (fun e => by have := t1.one ((s.l.rw x hx).typ e.symm); cases this)
    exact goneF_at wr (g.cb i) (g.gn i) ((World.cell?_of_block (a := ⟨g.cb i, 5, none⟩) e1).trans (s.l.k5 hlt))
  · rintro e w' ⟨v', rfl, h1, h2, h3⟩
    obtain ⟨a', p', e, _⟩ := h1.shape
    subst e
    rw [← ev] at h2 h3
    exact ⟨_, _, _, rfl, h1, h2, h3⟩

theorem St.setl {w5 : World} {v5 : Value} {u : Nat} {zs : List Nat} (s : St k w1 g) (hu : u < k.n) (hc : ∀ i ∈ zs, i < g.nx) (own : PRow w5 g.cb v5 zs) (gr : w1.grownBy w5 (g.pv (2 * k.n + u)).ownBlock) (nw : Nw w1 (g.pv (2 * k.n + u)) v5) :
    w5.cell? ⟨k.OB, 3, none⟩ = some (.slice (some ⟨k.FB, 0, none⟩) k.n k.n) ∧ w5.cell? ⟨k.FB, u * 2 + 1, none⟩ = some (g.pv (2 * k.n + u)) ∧ w5.frozen? ⟨k.FB, u * 2 + 1, none⟩ = false ∧ Hid (St k (w5.setCell ⟨k.FB, u * 2 + 1, none⟩ v5) (g.slot (2 * k.n + u) zs v5)) ∧ Hid (FW k.B w1 (w5.setCell ⟨k.FB, u * 2 + 1, none⟩ v5)) := by
  have hs : 2 * k.n + u ≤ 3 * k.n := by omega
  exact ⟨(s.list hs gr own nw hc).1.c3, s.pushl hu hc own gr nw⟩

def SweepEnd (k : WK) (g : G) (w w' : World) : Prop := ∃ g1, SwI g (3 * k.n + 1) g1 ∧ St k w' { g1 with rm := 0 } ∧ FW k.B w w'

set_option maxHeartbeats 4000000 in
theorem sweep_is (s : St k w g) : Calls Try.prog 46 #[.pointer (some ⟨k.OB, 0, none⟩)] w fun e w' => e = .returned (.tuple #[]) ∧ SweepEnd k g w w' := by
  have hn := s.l.hn
  have HS := hid s
  have c2 := s.c2
  obtain ⟨n2, hn2⟩ : ∃ n2, n2 = 2 * k.n := ⟨_, rfl⟩
  rw [← hn2] at c2
  have HN2 := hid hn2
  have hn2b : (n2 : Int) ≤ 2097152 := by omega
  clear s hn2
  go_enter Try.func46, Try.ntmps46
  go_wp2
  go_loopw [3, 4, 11] (fun _ _ i wr => ∃ (q : Nat) (g1 : G), q ≤ n2 ∧ i = .int .i64 q ∧ Hid (SwI g q g1) ∧ Hid (St k wr g1) ∧ Hid (FW k.B w wr)) (fun _ _ i _ => n2 - (intOf i).toNat)
  case atStart => exact ⟨0, g, Nat.zero_le _, rfl, hid (SwI.start g), HS, hid (FW.refl _)⟩
  case round =>
    clear c2
    obtain ⟨q, g1, hq, rfl, hsw, hs, hfw⟩ := hrel
    by_cases hltn : q < n2
    · have hlt' : (q : Int) < n2 := by omega
      have hlt : q < 2 * k.n := by rw [← HN2.out]; exact hltn
      have hq3 : q ≤ 3 * k.n := by omega
      obtain ⟨aa, pa, eva, _⟩ := (hs.out.l.rw q hq3).shape
      have d2 := hs.out.c2
      have d3 := hs.out.c.wc hlt
      rw [eva] at d3
      rw [← HN2.out] at d2
      go_wp2
      go_region_with (go_at_call 63; with_reducible (refine (delG_is hs.out.drew hq3 eva).mono ?_); rintro e w5 ⟨a5, n5, p5, rfl, own5, g5, o5⟩; have m5 := hs.out.drew.setw hlt (out_sub (hs.out.l.sub q hq3)) own5.out g5.out (nw_same o5.out); obtain ⟨q0, q1, q2, s6, F6⟩ := m5; rw [eva] at q1; rw [← HN2.out] at q0)
      all_goals go_wp2
      all_goals go_roundw
      all_goals first
        | exact ⟨q + 1, _, by omega, by go_num, hid (hsw.out.next _), s6, hid ((hfw.out.trans (FW.below (below_drew _))).trans F6.out)⟩
        | (simp only [intOf]; omega)
    · obtain rfl : q = n2 := by omega
      have d3 := hs.out.c3
      have H0 := hs
      have HF0 := hfw
      rw [HN2.out] at hsw
      clear hltn hq HS
      go_wp2
      go_loopw [5, 31] (fun _ i wx => ∃ (q : Nat) (g2 : G), q ≤ k.n ∧ i = .int .i64 q ∧ Hid (SwI g (2 * k.n + q) g2) ∧ Hid (St k wx g2) ∧ Hid (FW k.B w wx)) (fun _ i _ => k.n - (intOf i).toNat)
      case atStart => exact ⟨0, g1, Nat.zero_le _, rfl, hsw, H0, HF0⟩
      case round =>
        clear d3 H0 HF0 hs hfw hsw
        obtain ⟨q, g2, hq, rfl, hsw, hs, hfw⟩ := hrel
        by_cases hlt : q < k.n
        · have hlt' : (q : Int) < k.n := by omega
          have hq3 : 2 * k.n + q ≤ 3 * k.n := by omega
          obtain ⟨aa, pa, eva, _⟩ := (hs.out.l.rw (2 * k.n + q) hq3).shape
          have d3 := hs.out.c3
          have d4 := hs.out.c.fl hlt
          rw [eva] at d4
          go_wp2
          go_region_with (go_at_call 63; with_reducible (refine (delG_is hs.out.drew hq3 eva).mono ?_); rintro e w5 ⟨a5, n5, p5, rfl, own5, g5, o5⟩; have m5 := hs.out.drew.setl hlt (out_sub (hs.out.l.sub (2 * k.n + q) hq3)) own5.out g5.out (nw_same o5.out); obtain ⟨q0, q1, q2, s6, F6⟩ := m5; rw [eva] at q1)
          all_goals go_wp2
          all_goals go_roundw
          all_goals first
            | exact ⟨q + 1, _, by omega, by go_num, hid (hsw.out.next _), s6, hid ((hfw.out.trans (FW.below (below_drew _))).trans F6.out)⟩
            | (simp only [intOf]; omega)
        · obtain rfl : q = k.n := by omega
          have hq3 : 3 * k.n ≤ 3 * k.n := Nat.le_refl _
          obtain ⟨aa, pa, eva, _⟩ := (hs.out.l.rw (3 * k.n) hq3).shape
          have d4 := hs.out.c4
          have HEV := hid eva
          rw [eva] at d4
          clear eva
          go_wp2_with (go_at_call 63; with_reducible (refine (delG_is hs.out hq3 HEV.out).mono ?_); rintro e w5 ⟨a5, n5, p5, rfl, own5, g5, o5⟩; have m5 := hs.out.pusha (out_sub (hs.out.l.sub (3 * k.n) hq3)) own5.out g5.out (nw_same o5.out); obtain ⟨q1, q2, s6, F6⟩ := m5; rw [HEV.out] at q1; have f7 := s6.out.of 7; have c7 := s6.out.c7)
          go_end0
          refine ⟨rfl, _, ?_, s6.out.putr 0, ?_⟩
          · have h1 := hsw.out.next (Value.slice a5 n5 p5)
            rw [show 2 * k.n + k.n = 3 * k.n by omega] at h1
            exact h1
          · exact (hfw.out.trans F6.out).trans (FW.grown (grown_set _ ⟨k.OB, 7, none⟩ _) (fun j T e t => by cases e; rw [t.one ⟨_, _, s6.out.c.ob⟩]; simp [Wt]) (fun j e => by cases e; exact s6.out.c.lo.1))
end

end Go.Proofs.Ytbfaigeopkonbaa
