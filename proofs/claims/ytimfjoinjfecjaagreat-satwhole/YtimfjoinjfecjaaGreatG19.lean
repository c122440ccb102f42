/-
  seek: a literal of a clause that may hold, other than one.
  settle: a clause that waits is looked at.
-/
import Derived.Test.YtimfjoinjfecjaaGreatG18
import Derived.Test.YtimfjoinjfecjaaGreatG09

namespace Go.Proofs.YtimfjoinjfecjaaGreat
open Go.RowKit Go.Maps
set_option linter.unusedVariables false

theorem up_self {α : Type} (f : Nat → α) (i : Nat) : up f i (f i) = f := by funext j; simp only [up]; by_cases h : j = i <;> simp [h]
theorem up_up {α : Type} (f : Nat → α) (i : Nat) (x y : α) : up (up f i x) i y = up f i y := by funext j; simp only [up]; by_cases h : j = i <;> simp [h]
theorem G.from_self (g : G) (c : Nat) : g.from c (g.fr c) = g := by simp only [G.from, up_self]
theorem G.from_from (g : G) (c x y : Nat) : (g.from c x).from c y = g.from c y := by simp only [G.from, up_up]

def wrapF (f q n : Nat) : Nat := if f + q < n then f + q else f + q - n

theorem wrap_lt {f q n : Nat} (hf : f < n) (hq : q ≤ n) : wrapF f q n < n := by unfold wrapF; split <;> omega
theorem wrap_all {f n i : Nat} (hf : f < n) (hi : i < n) : ∃ r, 1 ≤ r ∧ r ≤ n ∧ wrapF f r n = i := by
  by_cases h : f < i
  · exact ⟨i - f, by omega, by omega, by unfold wrapF; rw [if_pos (by omega)]; omega⟩
  · exact ⟨i + n - f, by omega, by omega, by unfold wrapF; rw [if_neg (by omega)]; omega⟩
theorem wrap_end {f q n : Nat} (hf : f < n) (hq : q < n) (h : wrapF f q n + 1 = n) : wrapF f (q + 1) n = 0 := by unfold wrapF at h ⊢; split at h <;> split <;> omega
theorem wrap_next {f q n : Nat} (hf : f < n) (hq : q < n) (h : wrapF f q n + 1 ≠ n) : wrapF f (q + 1) n = wrapF f q n + 1 := by unfold wrapF at h ⊢; split at h <;> split <;> omega
theorem wrap_zero {f n : Nat} (hf : f < n) : wrapF f 0 n = f := by unfold wrapF; rw [if_pos (by omega)]; omega

theorem J.from {k : K} {kw : WK} {w : World} {g : G} {L : List E} {lev : Nat} {p : V} {c f : Nat} (j : J k kw w (g.from c f) L lev p) (hc : c < g.nx) (hg : g.gn c = false) (f' : Nat) :
    J k kw (w.setCell ⟨g.cb c, 4, none⟩ (.int .i64 f')) (g.from c f') L lev p ∧ FW kw.B w (w.setCell ⟨g.cb c, 4, none⟩ (.int .i64 f')) := by
  have s := j.s.putfrom (i := c) hc hg f'
  rw [G.from_from] at s
  have f : FW kw.B w (w.setCell ⟨g.cb c, 4, none⟩ (.int .i64 f')) := FW.grown (grown_set w ⟨g.cb c, 4, none⟩ _) (fun i T e t => by cases e; rw [t.one ⟨_, _, j.s.l.cl c hc⟩]; simp [Wt]) (fun i e => by cases e; exact j.s.l.lo.c c hc)
  exact ⟨j.fw f s rfl rfl rfl rfl, f⟩

def SkNo (L : List E) (xs : List Int) (y : Int) (f n q : Nat) : Prop := ∀ r, 1 ≤ r → r ≤ q → ∀ x, xs[wrapF f r n]? = some x → x = y ∨ valueF L x < 0

set_option maxHeartbeats 2000000 in
theorem seek_is {k : K} {kw : WK} {w : World} {g : G} {L : List E} {lev : Nat} {p : V} (j : J k kw w g L lev p) {c : Nat} (hc : c < g.nx) (hg : g.gn c = false) (y : Int) (h0 : ∀ x ∈ g.lt c, 0 ≤ x) (hf : g.fr c < (g.lt c).length ∨ g.lt c = []) :
    Calls Tryz.prog 141 #[.pointer (some ⟨g.cb c, 0, none⟩), .pointer (some ⟨k.OB, 0, none⟩), .int .i64 y] w fun e w' => ∃ (z : Int) (f : Nat), e = .returned (.int .i64 z) ∧ Hid (SeekR L (g.lt c) y z) ∧ Hid (f < (g.lt c).length ∨ g.lt c = []) ∧ Hid (J k kw w' (g.from c f) L lev p) ∧ Hid (FW kw.B w w') := by
  obtain ⟨c0, c1, c2, c3, c4⟩ := j.s.l.ks hc hg
  obtain ⟨ao, n, cp, ev, hrow, hty⟩ := j.s.l.li c hc hg
  rw [ev] at c1
  obtain ⟨f0, ef0⟩ : ∃ f, g.fr c = f := ⟨_, rfl⟩
  have HJ : Hid (J k kw w (g.from c f0) L lev p) := hid (by rw [← ef0, G.from_self]; exact j)
  have hmx := hrow.max
  obtain ⟨xs, ex⟩ : ∃ xs, g.lt c = xs := ⟨_, rfl⟩
  rw [ex] at hrow h0 hf ⊢
  rw [ef0] at hf
  have hlen := hrow.1
  have HEX := hid ex
  have H0 := hid h0
  have HF := hid hf
  have HEV := hid ev
  clear c0 c2 c3 c4 ex h0 hf j ev
  have HF0 : Hid (0 < n → f0 < n) := hid (fun h => by
    rcases HF.out with h2 | h2
    · omega
    · rw [h2] at hlen; simp at hlen; omega)
  go_enter Tryz.func141, Tryz.ntmps141
  go_wp2
  go_loopw [7, 13] (fun _ i wr => ∃ (q f : Nat), q ≤ n ∧ i = .int .i64 q ∧ Hid (0 < n → f = wrapF f0 q n) ∧ Hid (n = 0 → f = f0) ∧ Hid (SkNo L xs y f0 n q) ∧ Hid (J k kw wr (g.from c f) L lev p) ∧ Hid (FW kw.B w wr)) (fun _ i _ => n - (intOf i).toNat)
  case atStart => exact ⟨0, f0, Nat.zero_le _, rfl, hid (fun h => (wrap_zero (HF0.out h)).symm), hid (fun _ => rfl), hid (fun r h1 h2 => by omega), HJ, hid (FW.refl _)⟩
  case round =>
    clear c1 HJ
    obtain ⟨q, f, hq, rfl, hfq, hfz, hno, hj, hfw⟩ := hrel
    by_cases hlt : q < n
    · have hf0 : Hid (f0 < n) := hid (HF0.out (by omega))
      have hfe := hid (hfq.out (by omega))
      obtain ⟨d0, d1, d2, d3, d4⟩ := hj.out.s.l.ks (i := c) hc hg
      obtain ⟨b, off, rfl, htb⟩ := hty (by omega)
      have d1' : wr.cell? ⟨g.cb c, 1, none⟩ = some (.slice (some ⟨b, off, none⟩) n cp) := by rw [← HEV.out]; exact d1
      have d4' : wr.cell? ⟨g.cb c, 4, none⟩ = some (.int .i64 f) := by simpa [G.from, up_same] using d4
      have df : wr.frozen? ⟨g.cb c, 4, none⟩ = false := hj.out.s.l.kf (i := c) hc 4
      have hfn : f < n := by rw [hfe.out]; exact wrap_lt hf0.out hq
      have hbt := hfw.out.block b 3 htb (by simp [Wt])
      have hrw : U.Row wr (some ⟨b, off, none⟩) n cp xs := Row.same hrow (fun b' off' _ e => by cases e; exact hbt)
      have hne : ¬ b = g.cb c := fun e => by
        have h1 : Typ wr b 3 := htb.same hbt
        rw [e] at h1
        have := h1.one ⟨_, _, hj.out.s.l.cl c hc⟩
        cases this
      clear d0 d1 d2 d3 d4 hbt htb
      by_cases hen : f + 1 = n
      · have hen' : ((f : Int) + 1 == (n : Int)) = true := beq_iff_eq.2 (by omega)
        have h0n : 0 < n := by omega
        obtain ⟨b2, off2, x, e, hcx, hx, x0, x1⟩ := hrw.at h0n
        cases e
        have HW := hid (wrap_end hf0.out hlt (by rw [← hfe.out]; exact hen))
        obtain ⟨z, hz⟩ : ∃ z, valueF L x = z := ⟨_, rfl⟩
        have HZ := hid hz
        have hJ1 := hj.out.from hc hg (f + 1)
        have hJ2 := hJ1.1.from hc hg 0
        have HJ2 := hid hJ2.1
        have HF2 := hid ((hfw.out.trans hJ1.2).trans hJ2.2)
        have e1 : (((f + 1 : Nat) : Int)) = (f : Int) + 1 := by omega
        rw [e1] at HJ2 HF2
        rw [Nat.add_zero] at hcx
        rw [show (((0 : Nat)) : Int) = 0 from rfl] at HJ2 HF2
        clear hen hJ1 hJ2
        go_wp2
        go_region
        go_wp2
        go_region
        have HJ3 := hid ((HJ2.out.below (below_drew _)).below (below_drew _))
        have HF3 := hid ((HF2.out.trans (FW.below (below_drew _))).trans (FW.below (below_drew _)))
        have HX : Hid (xs[wrapF f0 (q + 1) n]? = some x) := hid (by rw [HW.out]; exact hx.out)
        have hxm := hid (List.mem_of_getElem? hx.out)
        have hnext : Hid ((x = y ∨ z < 0) → SkNo L xs y f0 n (q + 1)) := hid (fun h r r1 r2 u hu => by
          by_cases e : r = q + 1
          · subst e
            rw [HX.out] at hu; cases hu
            rcases h with h | h
            · exact .inl h
            · exact .inr (by rw [HZ.out]; exact h)
          · exact hno.out r r1 (by omega) u hu)
        clear HJ2 HF2 hx hcx hz
        by_cases hxy : x = y
        · have hxy' : (x != y) = false := by simpa using hxy
          have HN := hid (hnext.out (.inl hxy))
          clear hxy
          go_wp2
          go_roundw
          case rel => exact ⟨q + 1, 0, by omega, by go_num, hid (fun _ => by rw [HW.out]), hid (fun h => by omega), HN, HJ3, HF3⟩
          case measure => simp only [intOf]; omega
        · have hxy' : (x != y) = true := by simpa using hxy
          by_cases hz0 : 0 ≤ z
          · have HS : Hid (SeekR L xs y x) := hid (.inr ⟨hxm.out, H0.out x hxm.out, hxy, by rw [HZ.out]; exact hz0⟩)
            clear hxy
            go_wp2_with (go_at_call 138; with_reducible (refine (value_is HJ3.out.t x x1 HZ.out).mono ?_); rintro e w2 ⟨rfl, b2⟩)
            go_ret
            exact ⟨x, 0, rfl, HS, hid (.inl (by omega)), hid (HJ3.out.below b2.out), hid (HF3.out.trans (FW.below b2.out))⟩
          · have HN := hid (hnext.out (.inr (by omega)))
            have hz1 : decide (0 ≤ z) = false := by simpa using hz0
            clear hxy
            go_wp2_with (go_at_call 138; with_reducible (refine (value_is HJ3.out.t x x1 HZ.out).mono ?_); rintro e w2 ⟨rfl, b2⟩)
            go_roundw
            case rel => exact ⟨q + 1, 0, by omega, by go_num, hid (fun _ => by rw [HW.out]), hid (fun h => by omega), HN, hid (HJ3.out.below b2.out), hid (HF3.out.trans (FW.below b2.out))⟩
            case measure => simp only [intOf]; omega
      · have hen' : ((f : Int) + 1 == (n : Int)) = false := beq_eq_false_iff_ne.2 (by omega)
        have hfn' : ((f : Int) + 1) < n := by omega
        have hfn2 : f + 1 < n := by omega
        obtain ⟨b2, off2, x, e, hcx, hx, x0, x1⟩ := hrw.at hfn2
        cases e
        have HW := hid (wrap_next hf0.out hlt (by rw [← hfe.out]; exact hen))
        obtain ⟨z, hz⟩ : ∃ z, valueF L x = z := ⟨_, rfl⟩
        have HZ := hid hz
        have hJ1 := hj.out.from hc hg (f + 1)
        have HJ2 := hid hJ1.1
        have HF2 := hid (hfw.out.trans hJ1.2)
        have e1 : (((f + 1 : Nat) : Int)) = (f : Int) + 1 := by omega
        rw [e1] at HJ2 HF2
        clear hen hJ1
        go_wp2
        go_region
        go_wp2
        go_region
        have HJ3 := hid ((HJ2.out.below (below_drew _)).below (below_drew _))
        have HF3 := hid ((HF2.out.trans (FW.below (below_drew _))).trans (FW.below (below_drew _)))
        have HX : Hid (xs[wrapF f0 (q + 1) n]? = some x) := hid (by rw [HW.out]; rw [← hfe.out]; exact hx.out)
        have hxm := hid (List.mem_of_getElem? hx.out)
        have hnext : Hid ((x = y ∨ z < 0) → SkNo L xs y f0 n (q + 1)) := hid (fun h r r1 r2 u hu => by
          by_cases e : r = q + 1
          · subst e
            rw [HX.out] at hu; cases hu
            rcases h with h | h
            · exact .inl h
            · exact .inr (by rw [HZ.out]; exact h)
          · exact hno.out r r1 (by omega) u hu)
        clear HJ2 HF2 hx hcx hz
        by_cases hxy : x = y
        · have hxy' : (x != y) = false := by simpa using hxy
          have HN := hid (hnext.out (.inl hxy))
          clear hxy
          go_wp2
          go_roundw
          case rel => exact ⟨q + 1, f + 1, by omega, by go_num, hid (fun _ => by rw [HW.out, ← hfe.out]), hid (fun h => by omega), HN, HJ3, HF3⟩
          case measure => simp only [intOf]; omega
        · have hxy' : (x != y) = true := by simpa using hxy
          by_cases hz0 : 0 ≤ z
          · have HS : Hid (SeekR L xs y x) := hid (.inr ⟨hxm.out, H0.out x hxm.out, hxy, by rw [HZ.out]; exact hz0⟩)
            clear hxy
            go_wp2_with (go_at_call 138; with_reducible (refine (value_is HJ3.out.t x x1 HZ.out).mono ?_); rintro e w2 ⟨rfl, b2⟩)
            go_ret
            exact ⟨x, f + 1, rfl, HS, hid (.inl (by omega)), hid (HJ3.out.below b2.out), hid (HF3.out.trans (FW.below b2.out))⟩
          · have HN := hid (hnext.out (.inr (by omega)))
            have hz1 : decide (0 ≤ z) = false := by simpa using hz0
            clear hxy
            go_wp2_with (go_at_call 138; with_reducible (refine (value_is HJ3.out.t x x1 HZ.out).mono ?_); rintro e w2 ⟨rfl, b2⟩)
            go_roundw
            case rel => exact ⟨q + 1, f + 1, by omega, by go_num, hid (fun _ => by rw [HW.out, ← hfe.out]), hid (fun h => by omega), HN, hid (HJ3.out.below b2.out), hid (HF3.out.trans (FW.below b2.out))⟩
            case measure => simp only [intOf]; omega
    · have hqn : q = n := by omega
      have HS : Hid (SeekR L xs y (-1)) := hid (.inl ⟨rfl, fun x hx hne => by
        obtain ⟨i, hi, e⟩ := List.mem_iff_getElem.1 hx
        obtain ⟨r, r1, r2, r3⟩ := wrap_all (HF0.out (by omega)) (i := i) (n := n) (by omega)
        rcases hno.out r r1 (by omega) x (by rw [r3, List.getElem?_eq_getElem hi, e]) with h | h
        · exact absurd h hne
        · exact h⟩)
      have HE : Hid (f < xs.length ∨ xs = []) := hid (by
        by_cases h : 0 < n
        · left; rw [hfq.out h, hlen]; exact wrap_lt (HF0.out h) hq
        · right; exact List.eq_nil_of_length_eq_zero (by omega))
      go_wp2
      go_ret
      exact ⟨-1, f, rfl, HS, HE, hj, hfw⟩

end Go.Proofs.YtimfjoinjfecjaaGreat

namespace Go.Proofs.YtimfjoinjfecjaaGreat
open Go.RowKit Go.Maps
set_option linter.unusedVariables false

/-- What holds behind a step of Run, against what did ahead of it. -/
structure Adv (k : K) (kw : WK) (g : G) (L : List E) (lev : Nat) (p : V) (w : World) (X : Nat → Prop) (B : Nat) (g' : G) (L' : List E) (p' : V) (w' : World) : Prop where
  j : J k kw w' g' L' lev p'
  iv : Inv kw.n g' (litsF L') (fun _ => g'.dn) X
  rs : Rs g' L'
  sm : Same g g'
  dn : g'.dn = g.dn
  wa : g'.P (3 * kw.n) = g.P (3 * kw.n) ∧ g'.pv (3 * kw.n) = g.pv (3 * kw.n)
  ex : Ext L L' lev
  su : sumL kw.n g'.P ≤ sumL kw.n g.P + B
  ft : FT k kw.B p p' w w'

section
variable {k : K} {kw : WK} {w w1 w2 w3 : World} {g g1 : G} {L : List E} {lev : Nat} {p : V} {X X' : Nat → Prop} {B c : Nat}

theorem Adv.start (j : J k kw w g L lev p) (iv : Inv kw.n g (litsF L) (fun _ => g.dn) X) (rs : Rs g L) : Adv k kw g L lev p w X 0 g L p w :=
  ⟨j, iv, rs, Same.refl g, rfl, ⟨rfl, rfl⟩, Ext.refl _ _, by omega, FT.refl _ _ _ _⟩

theorem Adv.below {g' : G} {L' : List E} {p' : V} (a : Adv k kw g L lev p w X B g' L' p' w1) (b : Below w1.heap.size w1 w2) : Adv k kw g L lev p w X B g' L' p' w2 :=
  ⟨a.j.below b, a.iv, a.rs, a.sm, a.dn, a.wa, a.ex, a.su, a.ft.trans (FT.below b)⟩

theorem Adv.weak {g' : G} {L' : List E} {p' : V} {B' : Nat} (a : Adv k kw g L lev p w X B g' L' p' w1) (hB : B ≤ B') (hX : ∀ i, X i → X' i) : Adv k kw g L lev p w X' B' g' L' p' w1 :=
  ⟨a.j, a.iv.mono (fun _ => Nat.le_refl _) hX, a.rs, a.sm, a.dn, a.wa, a.ex, by have := a.su; omega, a.ft⟩

theorem Adv.off {g' : G} {L' : List E} {p' : V} (a : Adv k kw g L lev p w X B g' L' p' w1) (hX : ∀ i, i < g'.nx → g'.gn i = false → X i → X' i ∨ OkAt kw.n g' (litsF L') g'.dn i) : Adv k kw g L lev p w X' B g' L' p' w1 :=
  ⟨a.j, a.iv.off hX, a.rs, a.sm, a.dn, a.wa, a.ex, a.su, a.ft⟩

theorem Adv.trans {g1 g2 : G} {L1 L2 : List E} {p1 p2 : V} {B' : Nat} (a : Adv k kw g L lev p w X B g1 L1 p1 w1) (b : Adv k kw g1 L1 lev p1 w1 X' B' g2 L2 p2 w2) : Adv k kw g L lev p w X' (B + B') g2 L2 p2 w2 :=
  ⟨b.j, b.iv, b.rs, a.sm.trans b.sm, b.dn.trans a.dn, ⟨b.wa.1.trans a.wa.1, b.wa.2.trans a.wa.2⟩, a.ex.trans b.ex, by have := a.su; have := b.su; omega, a.ft.trans b.ft⟩

theorem Inv.max (iv : Inv kw.n g (litsF L) (fun _ => g.dn) X) (s : St kw w g) {i : Nat} (hi : i < g.nx) (hg : g.gn i = false) : g.a i ≤ 9223372036854775807 ∧ g.b i ≤ 9223372036854775807 := by
  have hn := s.l.hn
  rcases iv.wt i hi hg with ⟨h1, h2⟩ | ⟨h1, h2, h3, h4, h5, _⟩
  · omega
  · have := iv.rg i hi hg _ h4; have := iv.rg i hi hg _ h5; omega

theorem Inv.watched (iv : Inv kw.n g (litsF L) (fun _ => g.dn) X) {i : Nat} (hi : i < g.nx) (hg : g.gn i = false) (ha : g.a i ≠ -1) : ∃ a b : Nat, g.a i = a ∧ g.b i = b ∧ a < 2 * kw.n ∧ b < 2 * kw.n ∧ a ≠ b := by
  rcases iv.wt i hi hg with ⟨h1, h2⟩ | ⟨h1, h2, h3, h4, h5, _⟩
  · exact absurd h1 ha
  · have := iv.rg i hi hg _ h4; have := iv.rg i hi hg _ h5
    exact ⟨(g.a i).toNat, (g.b i).toNat, by omega, by omega, by omega, by omega, by omega⟩

theorem unwatch_adv (j : J k kw w g L lev p) (iv : Inv kw.n g (litsF L) (fun _ => g.dn) X) (rs : Rs g L) (hc : c < g.nx) (hg : g.gn c = false) :
    Calls Tryz.prog 111 #[.pointer (some ⟨kw.OB, 0, none⟩), .pointer (some ⟨g.cb c, 0, none⟩)] w fun e w' => e = .returned (.tuple #[]) ∧ ∃ g1, Hid (Adv k kw g L lev p w (fun i => X i ∨ i = c) 0 g1 L p w') ∧ Hid (g1.a c = -1) := by
  by_cases ha : g.a c = -1
  · refine (unwatch_none j.s hc hg ha).mono ?_
    rintro e w' ⟨rfl, b⟩
    exact ⟨rfl, g, hid (((Adv.start j iv rs).below b.out).weak (Nat.le_refl _) (fun i h => .inl h)), hid ha⟩
  · obtain ⟨a, b, ea, eb, la, lb, hab⟩ := iv.watched hc hg ha
    refine (unwatch_is j.s hc hg a b ea eb la lb hab).mono ?_
    rintro e w' ⟨rfl, v1, v2, s, f⟩
    refine ⟨rfl, (((g.slot a (outF (fun i => i == c) (g.P a)) v1).slot b (outF (fun i => i == c) (g.P b)) v2).watch c (-1) (-1)), hid ⟨j.fw f s rfl rfl rfl rfl, iv.unw hc hg ea eb la lb hab v1 v2, rs.as rfl rfl rfl, ⟨rfl, rfl, rfl, rfl, rfl, rfl, rfl, rfl⟩, rfl, ⟨?_, ?_⟩, Ext.refl _ _, ?_, FT.fw f⟩, hid (up_same _ _ _)⟩
    · show up (up g.P a _) b _ (3 * kw.n) = _
      rw [up_ne _ _ (by omega), up_ne _ _ (by omega)]
    · show up (up g.pv a v1) b v2 (3 * kw.n) = _
      rw [up_ne _ _ (by omega), up_ne _ _ (by omega)]
    · rw [show sumL kw.n (((g.slot a (outF (fun i => i == c) (g.P a)) v1).slot b (outF (fun i => i == c) (g.P b)) v2).watch c (-1) (-1)).P = sumL kw.n g.P from (sum_other (.inl lb) _ v2).trans (sum_other (.inl la) _ v1)]
      omega

theorem adv_from {g' : G} {L' : List E} {p' : V} (b : Below w.heap.size w w1) (a : Adv k kw g L lev p w1 X B g' L' p' w2) : Adv k kw g L lev p w X B g' L' p' w2 :=
  ⟨a.j, a.iv, a.rs, a.sm, a.dn, a.wa, a.ex, a.su, (FT.below b).trans a.ft⟩

theorem adv_watch {a b : Nat} (A : Adv k kw g L lev p w (fun i => X i ∨ i = c) 0 g1 L p w1) (h1 : g1.a c = -1) (hc : c < g1.nx) (hg : g1.gn c = false) (ha : (a : Int) ∈ g1.lt c) (hb : (b : Int) ∈ g1.lt c) (hab : a ≠ b) (va : 0 ≤ valueF L a) (vb : 0 ≤ valueF L b) (e : WatchEnd kw g1 c a b w1 w2) :
    ∃ g2, Adv k kw g L lev p w (fun i => X i ∧ i ≠ c) 1 g2 L p w2 := by
  obtain ⟨v1, v2, s, f⟩ := e
  have ra := A.iv.rg c hc hg _ ha
  have rb := A.iv.rg c hc hg _ hb
  refine ⟨_, A.j.fw f s rfl rfl rfl rfl, A.iv.wat A.j.t.nd hc hg h1 ha hb hab va vb v1 v2, A.rs.as rfl rfl rfl, A.sm.trans ⟨rfl, rfl, rfl, rfl, rfl, rfl, rfl, rfl⟩, A.dn, ⟨?_, ?_⟩, A.ex, ?_, A.ft.trans (FT.fw f)⟩
  · rw [← A.wa.1]
    show up (up g1.P a _) b _ (3 * kw.n) = _
    rw [up_ne _ _ (by omega), up_ne _ _ (by omega)]
  · rw [← A.wa.2]
    show up (up g1.pv a v1) b v2 (3 * kw.n) = _
    rw [up_ne _ _ (by omega), up_ne _ _ (by omega)]
  · rw [show sumL kw.n (((g1.watch c a b).slot a (g1.P a ++ [c]) v1).slot b (g1.P b ++ [c]) v2).P = sumL kw.n g1.P from (sum_other (.inl (by omega)) _ v2).trans (sum_other (.inl (by omega)) _ v1)]
    have := A.su; omega

/-- It holds by one literal, and leans on that. -/
theorem adv_lean {L' : List E} {p' : V} {m u : Nat} {v : Value} (A : Adv k kw g L lev p w (fun i => X i ∨ i = c) 0 g1 L' p' w1) (h1 : g1.a c = -1) (hm : (m : Int) ∈ g1.lt c) (hu : m / 2 = u) (hun : u < kw.n) (hv : valueF L' m = 1) (s : St kw w2 (g1.slot (2 * kw.n + u) (g1.P (2 * kw.n + u) ++ [c]) v)) (f : FW kw.B w1 w2) :
    ∃ g2, Adv k kw g L lev p w (fun i => X i ∧ i ≠ c) 1 g2 L' p' w2 := by
  obtain ⟨_, q, hq⟩ := val_one hv
  have hvl : vl (m : Int) = u := by unfold vl; omega
  refine ⟨_, A.j.fw f s rfl rfl rfl rfl, Inv.leant (x := (m : Int)) (A.iv.more (by omega) (fun i hi => List.mem_append.2 (.inl hi)) v) h1 hm hq ?_, A.rs.as rfl rfl rfl, A.sm.trans ⟨rfl, rfl, rfl, rfl, rfl, rfl, rfl, rfl⟩, A.dn, ⟨?_, ?_⟩, A.ex, ?_, A.ft.trans (FT.fw f)⟩
  · rw [hvl]
    show c ∈ up g1.P _ _ _
    rw [up_same]; simp
  · rw [← A.wa.1]; exact up_ne _ _ (by omega)
  · rw [← A.wa.2]; exact up_ne _ _ (by omega)
  · have := sum_slot (g := g1) hun (g1.P (2 * kw.n + u) ++ [c]) v
    simp only [List.length_append, List.length_singleton] at this
    have := A.su; omega

/-- One more holds, for a clause all others of which do not. -/
theorem adv_new {p' : V} {m u : Nat} {X : Nat → Prop} {B : Nat} (A : Adv k kw g L lev p w X B g1 L p w1) (hd : g.dn ≤ L.length) (hc : c < g1.nx) (hg : g1.gn c = false) (hm : (m : Int) ∈ g1.lt c) (hu : m / 2 = u) (hv : valueF L m = 0) (ho : ∀ x ∈ g1.lt c, x ≠ (m : Int) → valueF L x < 0)
    (j : J k kw w2 (g1.place u L.length) (L ++ [⟨m, lev, c⟩]) lev p') (f : FT k kw.B p p' w1 w2) : Adv k kw g L lev p w X B (g1.place u L.length) (L ++ [⟨m, lev, c⟩]) p' w2 := by
  have hvl : vl (m : Int) = u := by unfold vl; omega
  have e1 : litsF (L ++ [⟨m, lev, c⟩]) = litsF L ++ [(m : Int)] := by rw [litsF_app]; rfl
  have e2 : ((litsF L).length) = L.length := litsF_len L
  refine ⟨j, ?_, A.rs.snoc (g := g1) (e := ⟨m, lev, c⟩) (fun _ => ⟨c, rfl, hc, fun _ => hg, hm, fun y hy hne => (val_neg (ho y hy hne)).2.2⟩) |>.as rfl rfl rfl, A.sm.trans ⟨rfl, rfl, rfl, rfl, rfl, rfl, rfl, rfl⟩, A.dn, A.wa, A.ex.trans (Ext.one _ _ _ _), A.su, A.ft.trans f⟩
  have key := A.iv.grow (x := (m : Int)) (fun y hy c2 => ?_) (fun _ => by rw [e2, A.dn]; exact hd)
  · rw [hvl, e2] at key
    rw [e1]; exact key
  · obtain ⟨r, hr⟩ := List.mem_iff_getElem?.1 hy
    obtain ⟨e, he, rfl⟩ := lits_at.1 hr
    have := at_of A.j.t.nd he
    have hvr : ((vr e : Nat) : Int) = (m : Int) / 2 := by unfold vl at c2; unfold vr; omega
    rw [hvr] at this
    unfold valueF at hv
    rw [if_neg (by omega), this] at hv
    simp only at hv
    split at hv <;> omega

def SetEnd (k : K) (kw : WK) (g : G) (L : List E) (lev : Nat) (p : V) (X : Nat → Prop) (c : Nat) (w : World) (e : Ending) (w' : World) : Prop :=
  (e = .returned (.bool true) ∧ ∃ g' L' p', Adv k kw g L lev p w (fun i => X i ∧ i ≠ c) 1 g' L' p' w') ∨
  (e = .returned (.bool false) ∧ ∃ g', Adv k kw g L lev p w (fun i => X i ∨ i = c) 0 g' L p w' ∧ g.gn c = false ∧ ∀ x ∈ g.lt c, valueF L x = -1)

theorem TwoR.out {xs : List Int} {a b : Int} (h : TwoR L xs a b) : (a = -1 ∧ b = -1 ∧ Hid (∀ x ∈ xs, valueF L x < 0)) ∨
    (∃ m : Nat, a = m ∧ b = -1 ∧ Hid ((m : Int) ∈ xs ∧ (∀ x ∈ xs, x ≠ (m : Int) → valueF L x < 0)) ∧ (Hid (valueF L m = 0) ∨ Hid (valueF L m = 1))) ∨
    (∃ m m' : Nat, a = m ∧ b = m' ∧ Hid ((m : Int) ∈ xs ∧ (m' : Int) ∈ xs ∧ m ≠ m' ∧ 0 ≤ valueF L m ∧ 0 ≤ valueF L m')) := by
  rcases h with ⟨h1, h2, h3⟩ | ⟨h1, h2, h3, h4, h5⟩ | ⟨h1, h2, h3, h4, h5, h6, h7⟩
  · exact .inl ⟨h1, h2, h3⟩
  · obtain ⟨m, rfl⟩ := Int.eq_ofNat_of_zero_le h2
    refine .inr (.inl ⟨m, rfl, h4, ⟨h1, h5⟩, ?_⟩)
    rcases val_cases (L := L) (m : Int) with q | ⟨q, _⟩ | ⟨q, _⟩
    · exact .inl q
    · exact .inr q
    · omega
  · obtain ⟨m, rfl⟩ := Int.eq_ofNat_of_zero_le h3
    obtain ⟨m', rfl⟩ := Int.eq_ofNat_of_zero_le h4
    exact .inr (.inr ⟨m, m', rfl, rfl, h1, h2, fun e => h5 (by rw [e]), h6, h7⟩)

theorem val_last {m c : Nat} {L : List E} {lev : Nat} (h : ND (L ++ [⟨m, lev, c⟩])) : valueF (L ++ [⟨m, lev, c⟩]) (m : Int) = 1 := by
  refine val_pos h (q := L.length) ?_
  rw [litsF_app, List.getElem?_append_right (by rw [litsF_len]; exact Nat.le_refl _), litsF_len]
  simp [litsF]

theorem Adv.small {X : Nat → Prop} {B : Nat} {g1 : G} {L1 : List E} {p1 : V} (A : Adv k kw g L lev p w X B g1 L1 p1 w1) (hnx : g.nx ≤ 1000000) {l : Nat} (hl : l < 2 * kw.n) : (g1.P l).length ≤ 1000000000000 := by
  have := nodup_len (A.iv.nd l hl) (A.j.s.l.sub l (by omega))
  rw [A.sm.nx] at this
  omega

theorem Adv.leans {X : Nat → Prop} {B : Nat} {g1 : G} {L1 : List E} {p1 : V} (A : Adv k kw g L lev p w X B g1 L1 p1 w1) (hB : sumL kw.n g.P + B ≤ 1000000000000) {u : Nat} (hu : u < kw.n) : (g1.P (2 * kw.n + u)).length ≤ 1000000000000 := by
  have := sum_le (P := g1.P) hu
  have := A.su
  omega

theorem nat_none (m : Nat) : ((m : Int) == -1) = false := beq_eq_false_iff_ne.2 (by omega)
theorem nat_some (m : Nat) : ((m : Int) != -1) = true := by rw [bne, nat_none]; rfl

set_option maxHeartbeats 2000000 in
theorem settle_is (j : J k kw w g L lev p) (iv : Inv kw.n g (litsF L) (fun _ => g.dn) X) (rs : Rs g L) (hd : g.dn ≤ L.length) (hc : c < g.nx) (hnx : g.nx ≤ 1000000) (hsu : sumL kw.n g.P ≤ 500000000000) :
    Calls Tryz.prog 77 #[.pointer (some ⟨kw.OB, 0, none⟩), .pointer (some ⟨k.OB, 0, none⟩), .pointer (some ⟨g.cb c, 0, none⟩)] w fun e w' => SetEnd k kw g L lev p X c w e w' := by
  have c5 := j.s.l.k5 hc
  have A0 := Adv.start j iv rs
  cases hg : g.gn c
  · rw [hg] at c5
    obtain ⟨m1, m2⟩ := iv.max j.s hc hg
    cases hs : standsF g L c
    · have HJ := hid j
      have HI := hid iv
      have HR := hid rs
      have HS := hid hs
      have hN := nat_none
      have hM := nat_some
      clear j iv rs hs A0
      go_enter Tryz.func77, Tryz.ntmps77
      go_wp2_with (first
        | (go_at_call 110; with_reducible (refine (stands_is HJ.out hc hg m1 m2 HS.out).mono ?_); rintro e w1 ⟨rfl, b1⟩; have J1 := hid (HJ.out.below b1.out))
        | (go_at_call 111; with_reducible (refine (unwatch_adv J1.out HI.out HR.out hc hg).mono ?_); rintro e w2 ⟨rfl, g1, A0, ha1⟩; have A1 := hid (adv_from b1.out A0.out); have hc1 := hid (show c < g1.nx by rw [A1.out.sm.nx]; exact hc); have hg1 := hid (show g1.gn c = false by rw [A1.out.sm.gn]; exact hg); have h01 := hid (fun x hx => (A1.out.iv.rg c hc1.out hg1.out x hx).1))
        | (go_at_call 112; have T := two_is A1.out.j hc1.out hg1.out h01.out; rw [A1.out.sm.cb] at T; with_reducible (refine T.mono ?_); rintro e w3 ⟨a, b, rfl, htw, b3⟩; have A3 := hid (A1.out.below b3.out); have htw2 := TwoR.out htw.out; rcases htw2 with ⟨rfl, rfl, hno⟩ | ⟨m, rfl, rfl, hm, hv | hv⟩ | ⟨m, m', rfl, rfl, hmm⟩)
        | (go_at_call 113; have r1 := A3.out.iv.rg c hc1.out hg1.out _ hmm.out.1; have r2 := A3.out.iv.rg c hc1.out hg1.out _ hmm.out.2.1; have l1 : m < 2 * kw.n := (by omega); have l2 : m' < 2 * kw.n := (by omega); have T := watch_is A3.out.j.s hc1.out hg1.out m m' l1 l2 hmm.out.2.2.1 (A3.out.small hnx l1) (A3.out.small hnx l2); rw [A3.out.sm.cb] at T; with_reducible (refine T.mono ?_); rintro e w4 ⟨rfl, hw4⟩)
        | (go_at_call 114; have r1 := A3.out.iv.rg c hc1.out hg1.out _ hm.out.1; have hn9 := A3.out.j.s.l.hn; have T := follow_held A3.out.j hc1.out (m : Int) (by omega) hv.out; rw [A3.out.sm.cb] at T; with_reducible (refine T.mono ?_); rintro e w4 ⟨rfl, b4⟩; have A5 := hid (A3.out.below b4.out); have hv5 := hv)
        | (go_at_call 114; have r1 := A3.out.iv.rg c hc1.out hg1.out _ hm.out.1; have T := follow_new A3.out.j hc1.out hg1.out m (m / 2) rfl (by omega) hv.out; rw [A3.out.sm.cb] at T; with_reducible (refine T.mono ?_); rintro e w4 ⟨rfl, p5, j5, f5⟩; have A5 := hid (adv_new A3.out hd hc1.out hg1.out hm.out.1 rfl hv.out hm.out.2 j5.out f5.out); have hv5 := hid (val_last A5.out.j.t.nd))
        | (go_at_call 115; have hc5 := hid hc1.out; have T := lean_is A5.out.j.s hc5.out m (m / 2) rfl (by omega) (A5.out.leans (by omega) (by omega)); rw [A5.out.sm.cb] at T; with_reducible (refine T.mono ?_); rintro e w6 ⟨rfl, v6, s6, f6⟩))
      all_goals go_ret
      · exact .inr ⟨rfl, g1, A3.out, hg, fun x hx => (val_neg (hno.out x (by rw [A3.out.sm.lt]; exact hx))).1⟩
      · obtain ⟨g9, A9⟩ := adv_lean A5.out ha1.out hm.out.1 rfl (by omega) hv5.out s6.out f6.out
        exact .inl ⟨rfl, g9, _, _, A9⟩
      · obtain ⟨g9, A9⟩ := adv_lean A5.out ha1.out hm.out.1 rfl (by omega) hv5.out s6.out f6.out
        exact .inl ⟨rfl, g9, _, _, A9⟩
      · obtain ⟨g9, A9⟩ := adv_watch A3.out ha1.out hc1.out hg1.out hmm.out.1 hmm.out.2.1 hmm.out.2.2.1 hmm.out.2.2.2.1 hmm.out.2.2.2.2 hw4
        exact .inl ⟨rfl, g9, _, _, A9⟩
    · have HJ := hid j
      have HS := hid hs
      have HA : Hid (Adv k kw g L lev p w (fun i => X i ∧ i ≠ c) 0 g L p w) := hid (A0.off fun i hi hgi hX => by
        by_cases e : i = c
        · subst e
          simp only [standsF, decide_eq_true_eq] at hs
          obtain ⟨h1, h2, h3⟩ := hs
          obtain ⟨a, b, ea, eb, _⟩ := iv.watched hi hgi h1
          refine .inr (.inr ⟨h1, fun q _ hq => absurd hq (val_may j.t.nd (by omega) h2 q), fun q _ hq => absurd hq (val_may j.t.nd (by omega) h3 q)⟩)
        · exact .inl ⟨hX, e⟩)
      clear j iv rs hs A0
      go_enter Tryz.func77, Tryz.ntmps77
      go_wp2_with (go_at_call 110; with_reducible (refine (stands_is HJ.out hc hg m1 m2 HS.out).mono ?_); rintro e w1 ⟨rfl, b1⟩)
      go_ret
      exact .inl ⟨rfl, _, _, _, (HA.out.below b1.out).weak (by omega) (fun _ h => h)⟩
  · rw [hg] at c5
    have HA : Hid (Adv k kw g L lev p w (fun i => X i ∧ i ≠ c) 0 g L p w) := hid (A0.off fun i hi hgi hX => .inl ⟨hX, fun e => by rw [e, hg] at hgi; cases hgi⟩)
    clear j iv rs A0
    go_enter Tryz.func77, Tryz.ntmps77
    go_wp2
    go_ret
    exact .inl ⟨rfl, _, _, _, HA.out.weak (by omega) (fun _ h => h)⟩
end

end Go.Proofs.YtimfjoinjfecjaaGreat
