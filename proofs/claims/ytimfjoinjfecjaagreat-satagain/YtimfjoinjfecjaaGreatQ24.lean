/-
  move: a clause watches another literal.
-/
import Derived.Test.YtimfjoinjfecjaaGreatQ11

namespace Go.Proofs.YtimfjoinjfecjaaGreat
open Go.RowKit Go.Maps
set_option linter.unusedVariables false

section
variable {k : K} {kw : WK} {w w1 w2 : World} {g : G} {L : List E} {lev : Nat} {p : V} {c : Nat}

theorem SeekR.out {xs : List Int} {y z : Int} (h : SeekR L xs y z) : (z = -1 ∧ Hid (∀ x ∈ xs, x ≠ y → valueF L x < 0)) ∨ (∃ m : Nat, z = m ∧ Hid ((m : Int) ∈ xs ∧ (m : Int) ≠ y ∧ 0 ≤ valueF L m)) := by
  rcases h with ⟨h1, h2⟩ | ⟨h1, h2, h3, h4⟩
  · exact .inl ⟨h1, h2⟩
  · obtain ⟨m, rfl⟩ := Int.eq_ofNat_of_zero_le h2
    exact .inr ⟨m, rfl, h1, h3, h4⟩

theorem ks_from {f : Nat} (j : J k kw w (g.from c f) L lev p) (hc : c < g.nx) (hg : g.gn c = false) : w.cell? ⟨g.cb c, 2, none⟩ = some (.int .i64 (g.a c)) ∧ w.cell? ⟨g.cb c, 3, none⟩ = some (.int .i64 (g.b c)) ∧ w.frozen? ⟨g.cb c, 2, none⟩ = false ∧ w.frozen? ⟨g.cb c, 3, none⟩ = false := by
  obtain ⟨c0, c1, c2, c3, c4⟩ := j.s.l.ks (i := c) hc hg
  exact ⟨c2, c3, j.s.l.kf (i := c) hc 2, j.s.l.kf (i := c) hc 3⟩

def MoveEnd (k : K) (kw : WK) (g : G) (L : List E) (lev : Nat) (p : V) (c : Nat) (y : Int) (w : World) (e : Ending) (w' : World) : Prop :=
  (e = .returned (.bool false) ∧ valueF L y = 1 ∧ Below w.heap.size w w') ∨
  (e = .returned (.bool false) ∧ valueF L y ≤ 0 ∧ (∀ x ∈ g.lt c, x ≠ y → valueF L x < 0) ∧ ∃ f, (f < (g.lt c).length ∨ g.lt c = []) ∧ J k kw w' (g.from c f) L lev p ∧ FW kw.B w w') ∨
  (e = .returned (.bool true) ∧ valueF L y ≤ 0 ∧ ∃ f z v, (f < (g.lt c).length ∨ g.lt c = []) ∧ ((z : Nat) : Int) ∈ g.lt c ∧ (z : Int) ≠ y ∧ 0 ≤ valueF L z ∧ J k kw w' (((g.from c f).watch c y z).slot z (g.P z ++ [c]) v) L lev p ∧ FW kw.B w w')

set_option maxHeartbeats 2000000 in
theorem move_is (j : J k kw w g L lev p) (hc : c < g.nx) (hg : g.gn c = false) (x y : Int) (hy : besideF g c x = y) (hym : y ≤ 9223372036854775807) (h0 : ∀ x ∈ g.lt c, 0 ≤ x ∧ x < 2 * kw.n) (hf : g.fr c < (g.lt c).length ∨ g.lt c = []) (hl : ∀ l, l < 2 * kw.n → (g.P l).length ≤ 1000000000000) :
    Calls Tryz.prog 116 #[.pointer (some ⟨kw.OB, 0, none⟩), .pointer (some ⟨k.OB, 0, none⟩), .pointer (some ⟨g.cb c, 0, none⟩), .int .i64 x] w fun e w' => MoveEnd k kw g L lev p c y w e w' := by
  have HJ := hid j
  have HB := hid hy
  have H0 := hid h0
  have HF := hid hf
  have HL := hid hl
  obtain ⟨vy, hvy⟩ : ∃ v, valueF L y = v := ⟨_, rfl⟩
  have HV := hid hvy
  have hN := nat_none
  by_cases hp : 0 < vy
  · have hv1 : Hid (valueF L y = 1) := hid (by rcases val_cases (L := L) y with q | ⟨q, _⟩ | ⟨q, _⟩ <;> omega)
    clear j hy h0 hf hl hvy
    go_enter Tryz.func116, Tryz.ntmps116
    go_wp2_with (first
      | (go_at_call 117; with_reducible (refine (beside_is HJ.out.s.l hc hg x y HB.out).mono ?_); rintro e w ⟨rfl, rfl⟩)
      | (go_at_call 138; with_reducible (refine (value_is HJ.out.t y hym HV.out).mono ?_); rintro e w2 ⟨rfl, b2⟩))
    go_ret
    exact .inl ⟨rfl, hv1.out, b2.out⟩
  · have hnp : Hid (valueF L y ≤ 0) := hid (by rw [hvy]; omega)
    have H00 := hid (fun x hx => (H0.out x hx).1)
    have HOB : Hid (kw.n ≤ 1048576) := hid j.s.l.hn
    clear j hy h0 hf hl hvy
    go_enter Tryz.func116, Tryz.ntmps116
    go_upto_region 8 with (first
      | (go_at_call 117; with_reducible (refine (beside_is HJ.out.s.l hc hg x y HB.out).mono ?_); rintro e w ⟨rfl, rfl⟩)
      | (go_at_call 138; with_reducible (refine (value_is HJ.out.t y hym HV.out).mono ?_); rintro e w2 ⟨rfl, b2⟩; have J2 := hid (HJ.out.below b2.out))
      | (go_at_call 141; with_reducible (refine (seek_is J2.out hc hg y H00.out HF.out).mono ?_); rintro e w3 ⟨z, f, rfl, hsk, hf3, J3, F3⟩; have hsk2 := SeekR.out hsk.out; rcases hsk2 with ⟨rfl, hno⟩ | ⟨m, rfl, hm⟩; rotate_left; have K3 := ks_from J3.out hc hg; obtain ⟨k2, k3, f2, f3⟩ := K3))
    · have hmr := H0.out _ hm.out.1
      have hml : m < 2 * kw.n := by omega
      have hml' : (m : Int) < 2 * kw.n := by omega
      have hn := HOB.out
      have s1 : Hid (St kw ((w3.setCell ⟨g.cb c, 2, none⟩ (.int .i64 y)).setCell ⟨g.cb c, 3, none⟩ (.int .i64 m)) ((g.from c f).watch c y m)) := hid (J3.out.s.putwatch (i := c) hc hg y m)
      have F1 : Hid (FW kw.B w3 ((w3.setCell ⟨g.cb c, 2, none⟩ (.int .i64 y)).setCell ⟨g.cb c, 3, none⟩ (.int .i64 m))) := hid (J3.out.s.watchFW (c := c) hc (.int .i64 y) (.int .i64 m))
      revert s1 F1
      generalize ((w3.setCell ⟨g.cb c, 2, none⟩ (.int .i64 y)).setCell ⟨g.cb c, 3, none⟩ (.int .i64 (m : Int))) = w4
      intro s1 F1
      clear k2 k3 f2 f3
      obtain ⟨aa, pa, ea, _⟩ := (HJ.out.s.l.rw m (by omega)).shape
      go_cut [] from 11 to 45 (fun wx => ∃ v, Hid (St kw wx (((g.from c f).watch c y m).slot m (g.P m ++ [c]) v)) ∧ Hid (FW kw.B w wx))
      case first =>
        have d2 := s1.out.c2
        have d3 := s1.out.c.wc hml
        have B1 : Below w4.heap.size w4 (w4.alloc (.cells #[.pointer (some ⟨g.cb c, 0, none⟩)] 92)) := by go_grown
        have d2' := (s1.out.below B1).c2
        have d3' := (s1.out.below B1).c.wc hml
        rw [show ((g.from c f).watch c y m).pv m = g.pv m from rfl, ea] at d3 d3'
        have hlm := HL.out m hml
        go_region_law (refine step_pone (w1 := w4) (cb := g.cb) rfl _ _ rfl c rfl (g.pv m) (g.P m) ea.symm (s1.out.l.rw m (by omega)) _ rfl (by simp) (by omega) ?_; intro v5 w5 own5 g5 new5; have m5 := push_at s1.out hml hc rfl rfl own5.out g5.out new5.out; obtain ⟨b6, o6, p6, rfl, q0, q1, q2, s6, F6⟩ := m5; rw [show ((g.from c f).watch c y m).pv m = g.pv m from rfl, ea] at q1)
        all_goals go_wp2_with fail
        all_goals go_meet
        all_goals exact ⟨_, s6, hid ((((FW.below b2.out).trans F3.out).trans F1.out).trans F6.out)⟩
      case rest =>
        obtain ⟨v, s7, F7⟩ := hcut
        go_wp2
        go_ret
        exact .inr (.inr ⟨rfl, hnp.out, f, m, v, hf3.out, hm.out.1, hm.out.2.1, hm.out.2.2, HJ.out.fw F7.out s7.out rfl rfl rfl rfl, F7.out⟩)
    · go_ret
      exact .inr (.inl ⟨rfl, hnp.out, hno.out, f, hf3.out, J3.out, (FW.below b2.out).trans F3.out⟩)

theorem move_held (j : J k kw w g L lev p) (hc : c < g.nx) (hg : g.gn c = false) (x y : Int) (hy : besideF g c x = y) (hym : y ≤ 9223372036854775807) (h0 : ∀ x ∈ g.lt c, 0 ≤ x ∧ x < 2 * kw.n) (hf : g.fr c < (g.lt c).length ∨ g.lt c = []) (hl : ∀ l, l < 2 * kw.n → (g.P l).length ≤ 1000000000000) (hv : valueF L y = 1) :
    Calls Tryz.prog 116 #[.pointer (some ⟨kw.OB, 0, none⟩), .pointer (some ⟨k.OB, 0, none⟩), .pointer (some ⟨g.cb c, 0, none⟩), .int .i64 x] w fun e w' => e = .returned (.bool false) ∧ Hid (Below w.heap.size w w') := by
  refine (move_is j hc hg x y hy hym h0 hf hl).mono ?_
  rintro e w' (⟨rfl, _, b⟩ | ⟨_, h, _⟩ | ⟨_, h, _⟩)
  · exact ⟨rfl, b⟩
  · omega
  · omega

theorem move_seek (j : J k kw w g L lev p) (hc : c < g.nx) (hg : g.gn c = false) (x y : Int) (hy : besideF g c x = y) (hym : y ≤ 9223372036854775807) (h0 : ∀ x ∈ g.lt c, 0 ≤ x ∧ x < 2 * kw.n) (hf : g.fr c < (g.lt c).length ∨ g.lt c = []) (hl : ∀ l, l < 2 * kw.n → (g.P l).length ≤ 1000000000000) (hv : valueF L y ≤ 0) :
    Calls Tryz.prog 116 #[.pointer (some ⟨kw.OB, 0, none⟩), .pointer (some ⟨k.OB, 0, none⟩), .pointer (some ⟨g.cb c, 0, none⟩), .int .i64 x] w fun e w' =>
      (∃ f, e = .returned (.bool false) ∧ Hid (∀ x ∈ g.lt c, x ≠ y → valueF L x < 0) ∧ Hid (f < (g.lt c).length ∨ g.lt c = []) ∧ Hid (J k kw w' (g.from c f) L lev p) ∧ Hid (FW kw.B w w')) ∨
      (∃ (f z : Nat) (v : Value), e = .returned (.bool true) ∧ Hid ((f < (g.lt c).length ∨ g.lt c = []) ∧ (z : Int) ∈ g.lt c ∧ (z : Int) ≠ y ∧ 0 ≤ valueF L z) ∧ Hid (J k kw w' (((g.from c f).watch c y z).slot z (g.P z ++ [c]) v) L lev p) ∧ Hid (FW kw.B w w')) := by
  refine (move_is j hc hg x y hy hym h0 hf hl).mono ?_
  rintro e w' (⟨_, h, _⟩ | ⟨rfl, _, h1, f, h2, h3, h4⟩ | ⟨rfl, _, f, z, v, h1, h2, h3, h4, h5, h6⟩)
  · omega
  · exact .inl ⟨f, rfl, h1, h2, h3, h4⟩
  · exact .inr ⟨f, z, v, rfl, ⟨h1, h2, h3, h4⟩, h5, h6⟩
end

end Go.Proofs.YtimfjoinjfecjaaGreat
