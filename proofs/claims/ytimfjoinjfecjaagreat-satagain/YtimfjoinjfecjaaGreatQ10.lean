/-
  seek: a literal of a clause that may hold, other than one.
-/
import Derived.Test.YtimfjoinjfecjaaGreatQ06

namespace Go.Proofs.YtimfjoinjfecjaaGreat
open Go.RowKit Go.Maps
set_option linter.unusedVariables false

theorem up_self {α : Type} (f : Nat → α) (i : Nat) : up f i (f i) = f := by funext j; simp only [up]; by_cases h : j = i <;> simp [h]
theorem up_up {α : Type} (f : Nat → α) (i : Nat) (x y : α) : up (up f i x) i y = up f i y := by funext j; simp only [up]; by_cases h : j = i <;> simp [h]
theorem G.from_self (g : G) (c : Nat) : g.from c (g.fr c) = g := by simp only [G.from, up_self]
theorem G.from_from (g : G) (c x y : Nat) : (g.from c x).from c y = g.from c y := by simp only [G.from, up_up]

def wrapF (f q n : Nat) : Nat := if f + q < n then f + q else f + q - n

theorem wrap_lt {f q n : Nat} (hf : f < n) (hq : q ≤ n) : wrapF f q n < n := by unfold wrapF; split <;> omega
theorem wrap_all {f n i : Nat} (hf : f < n) (hi : i < n) : ∃ r, 1 ≤ r ∧ r ≤ n ∧ wrapF f r n = i := by
  by_cases h : f < i
  · exact ⟨i - f, by omega, by omega, by unfold wrapF; rw [if_pos (by omega)]; omega⟩
  · exact ⟨i + n - f, by omega, by omega, by unfold wrapF; rw [if_neg (by omega)]; omega⟩
theorem wrap_end {f q n : Nat} (hf : f < n) (hq : q < n) (h : wrapF f q n + 1 = n) : wrapF f (q + 1) n = 0 := by unfold wrapF at h ⊢; split at h <;> split <;> omega
theorem wrap_next {f q n : Nat} (hf : f < n) (hq : q < n) (h : wrapF f q n + 1 ≠ n) : wrapF f (q + 1) n = wrapF f q n + 1 := by unfold wrapF at h ⊢; split at h <;> split <;> omega
theorem wrap_zero {f n : Nat} (hf : f < n) : wrapF f 0 n = f := by unfold wrapF; rw [if_pos (by omega)]; omega

theorem J.from {k : K} {kw : WK} {w : World} {g : G} {L : List E} {lev : Nat} {p : V} {c f : Nat} (j : J k kw w (g.from c f) L lev p) (hc : c < g.nx) (hg : g.gn c = false) (f' : Nat) :
    J k kw (w.setCell ⟨g.cb c, 4, none⟩ (.int .i64 f')) (g.from c f') L lev p ∧ FW kw.B w (w.setCell ⟨g.cb c, 4, none⟩ (.int .i64 f')) := by
  have s := j.s.putfrom (i := c) hc hg f'
  rw [G.from_from] at s
  have f : FW kw.B w (w.setCell ⟨g.cb c, 4, none⟩ (.int .i64 f')) := FW.grown (grown_set w ⟨g.cb c, 4, none⟩ _) (fun i T e t => by cases e; rw [t.one ⟨_, _, j.s.l.cl c hc⟩]; simp [Wt]) (fun i e => by cases e; exact j.s.l.lo.c c hc)
  exact ⟨j.fw f s rfl rfl rfl rfl, f⟩

def SkNo (L : List E) (xs : List Int) (y : Int) (f n q : Nat) : Prop := ∀ r, 1 ≤ r → r ≤ q → ∀ x, xs[wrapF f r n]? = some x → x = y ∨ valueF L x < 0

set_option maxHeartbeats 2000000 in
theorem seek_is {k : K} {kw : WK} {w : World} {g : G} {L : List E} {lev : Nat} {p : V} (j : J k kw w g L lev p) {c : Nat} (hc : c < g.nx) (hg : g.gn c = false) (y : Int) (h0 : ∀ x ∈ g.lt c, 0 ≤ x) (hf : g.fr c < (g.lt c).length ∨ g.lt c = []) :
    Calls Tryz.prog 141 #[.pointer (some ⟨g.cb c, 0, none⟩), .pointer (some ⟨k.OB, 0, none⟩), .int .i64 y] w fun e w' => ∃ (z : Int) (f : Nat), e = .returned (.int .i64 z) ∧ Hid (SeekR L (g.lt c) y z) ∧ Hid (f < (g.lt c).length ∨ g.lt c = []) ∧ Hid (J k kw w' (g.from c f) L lev p) ∧ Hid (FW kw.B w w') := by
  obtain ⟨c0, c1, c2, c3, c4⟩ := j.s.l.ks hc hg
  obtain ⟨ao, n, cp, ev, hrow, hty⟩ := j.s.l.li c hc hg
  rw [ev] at c1
  obtain ⟨f0, ef0⟩ : ∃ f, g.fr c = f := ⟨_, rfl⟩
  have HJ : Hid (J k kw w (g.from c f0) L lev p) := hid (by rw [← ef0, G.from_self]; exact j)
  have hmx := hrow.max
  obtain ⟨xs, ex⟩ : ∃ xs, g.lt c = xs := ⟨_, rfl⟩
  rw [ex] at hrow h0 hf ⊢
  rw [ef0] at hf
  have hlen := hrow.1
  have HEX := hid ex
  have H0 := hid h0
  have HF := hid hf
  have HEV := hid ev
  clear c0 c2 c3 c4 ex h0 hf j ev
  have HF0 : Hid (0 < n → f0 < n) := hid (fun h => by
    rcases HF.out with h2 | h2
    · omega
    · rw [h2] at hlen; simp at hlen; omega)
  go_enter Tryz.func141, Tryz.ntmps141
  go_wp2
  go_loopw [7, 13] (fun _ i wr => ∃ (q f : Nat), q ≤ n ∧ i = .int .i64 q ∧ Hid (0 < n → f = wrapF f0 q n) ∧ Hid (n = 0 → f = f0) ∧ Hid (SkNo L xs y f0 n q) ∧ Hid (J k kw wr (g.from c f) L lev p) ∧ Hid (FW kw.B w wr)) (fun _ i _ => n - (intOf i).toNat)
  case atStart => exact ⟨0, f0, Nat.zero_le _, rfl, hid (fun h => (wrap_zero (HF0.out h)).symm), hid (fun _ => rfl), hid (fun r h1 h2 => by omega), HJ, hid (FW.refl _)⟩
  case round =>
    clear c1 HJ
    obtain ⟨q, f, hq, rfl, hfq, hfz, hno, hj, hfw⟩ := hrel
    by_cases hlt : q < n
    · have hf0 : Hid (f0 < n) := hid (HF0.out (by omega))
      have hfe := hid (hfq.out (by omega))
      obtain ⟨d0, d1, d2, d3, d4⟩ := hj.out.s.l.ks (i := c) hc hg
      obtain ⟨b, off, rfl, htb⟩ := hty (by omega)
      have d1' : wr.cell? ⟨g.cb c, 1, none⟩ = some (.slice (some ⟨b, off, none⟩) n cp) := by rw [← HEV.out]; exact d1
      have d4' : wr.cell? ⟨g.cb c, 4, none⟩ = some (.int .i64 f) := by simpa [G.from, up_same] using d4
      have df : wr.frozen? ⟨g.cb c, 4, none⟩ = false := hj.out.s.l.kf (i := c) hc 4
      have hfn : f < n := by rw [hfe.out]; exact wrap_lt hf0.out hq
      have hbt := hfw.out.block b 3 htb (by simp [Wt])
      have hrw : U.Row wr (some ⟨b, off, none⟩) n cp xs := Row.same hrow (fun b' off' _ e => by cases e; exact hbt)
      have hne : ¬ b = g.cb c := fun e => by
        have h1 : Typ wr b 3 := htb.same hbt
        rw [e] at h1
        have := h1.one ⟨_, _, hj.out.s.l.cl c hc⟩
        cases this
      clear d0 d1 d2 d3 d4 hbt htb
      by_cases hen : f + 1 = n
      · have hen' : ((f : Int) + 1 == (n : Int)) = true := beq_iff_eq.2 (by omega)
        have h0n : 0 < n := by omega
        obtain ⟨b2, off2, x, e, hcx, hx, x0, x1⟩ := hrw.at h0n
        cases e
        have HW := hid (wrap_end hf0.out hlt (by rw [← hfe.out]; exact hen))
        obtain ⟨z, hz⟩ : ∃ z, valueF L x = z := ⟨_, rfl⟩
        have HZ := hid hz
        have hJ1 := hj.out.from hc hg (f + 1)
        have hJ2 := hJ1.1.from hc hg 0
        have HJ2 := hid hJ2.1
        have HF2 := hid ((hfw.out.trans hJ1.2).trans hJ2.2)
        have e1 : (((f + 1 : Nat) : Int)) = (f : Int) + 1 := by omega
        rw [e1] at HJ2 HF2
        rw [Nat.add_zero] at hcx
        rw [show (((0 : Nat)) : Int) = 0 from rfl] at HJ2 HF2
        clear hen hJ1 hJ2
        go_wp2
        go_region
        go_wp2
        go_region
        have HJ3 := hid ((HJ2.out.below (below_drew _)).below (below_drew _))
        have HF3 := hid ((HF2.out.trans (FW.below (below_drew _))).trans (FW.below (below_drew _)))
        have HX : Hid (xs[wrapF f0 (q + 1) n]? = some x) := hid (by rw [HW.out]; exact hx.out)
        have hxm := hid (List.mem_of_getElem? hx.out)
        have hnext : Hid ((x = y ∨ z < 0) → SkNo L xs y f0 n (q + 1)) := hid (fun h r r1 r2 u hu => by
          by_cases e : r = q + 1
          · subst e
            rw [HX.out] at hu; cases hu
            rcases h with h | h
            · exact .inl h
            · exact .inr (by rw [HZ.out]; exact h)
          · exact hno.out r r1 (by omega) u hu)
        clear HJ2 HF2 hx hcx hz
        by_cases hxy : x = y
        · have hxy' : (x != y) = false := by simpa using hxy
          have HN := hid (hnext.out (.inl hxy))
          clear hxy
          go_wp2
          go_roundw
          case rel => exact ⟨q + 1, 0, by omega, by go_num, hid (fun _ => by rw [HW.out]), hid (fun h => by omega), HN, HJ3, HF3⟩
          case measure => simp only [intOf]; omega
        · have hxy' : (x != y) = true := by simpa using hxy
          by_cases hz0 : 0 ≤ z
          · have HS : Hid (SeekR L xs y x) := hid (.inr ⟨hxm.out, H0.out x hxm.out, hxy, by rw [HZ.out]; exact hz0⟩)
            clear hxy
            go_wp2_with (go_at_call 138; with_reducible (refine (value_is HJ3.out.t x x1 HZ.out).mono ?_); rintro e w2 ⟨rfl, b2⟩)
            go_ret
            exact ⟨x, 0, rfl, HS, hid (.inl (by omega)), hid (HJ3.out.below b2.out), hid (HF3.out.trans (FW.below b2.out))⟩
          · have HN := hid (hnext.out (.inr (by omega)))
            have hz1 : decide (0 ≤ z) = false := by simpa using hz0
            clear hxy
            go_wp2_with (go_at_call 138; with_reducible (refine (value_is HJ3.out.t x x1 HZ.out).mono ?_); rintro e w2 ⟨rfl, b2⟩)
            go_roundw
            case rel => exact ⟨q + 1, 0, by omega, by go_num, hid (fun _ => by rw [HW.out]), hid (fun h => by omega), HN, hid (HJ3.out.below b2.out), hid (HF3.out.trans (FW.below b2.out))⟩
            case measure => simp only [intOf]; omega
      · have hen' : ((f : Int) + 1 == (n : Int)) = false := beq_eq_false_iff_ne.2 (by omega)
        have hfn' : ((f : Int) + 1) < n := by omega
        have hfn2 : f + 1 < n := by omega
        obtain ⟨b2, off2, x, e, hcx, hx, x0, x1⟩ := hrw.at hfn2
        cases e
        have HW := hid (wrap_next hf0.out hlt (by rw [← hfe.out]; exact hen))
        obtain ⟨z, hz⟩ : ∃ z, valueF L x = z := ⟨_, rfl⟩
        have HZ := hid hz
        have hJ1 := hj.out.from hc hg (f + 1)
        have HJ2 := hid hJ1.1
        have HF2 := hid (hfw.out.trans hJ1.2)
        have e1 : (((f + 1 : Nat) : Int)) = (f : Int) + 1 := by omega
        rw [e1] at HJ2 HF2
        clear hen hJ1
        go_wp2
        go_region
        go_wp2
        go_region
        have HJ3 := hid ((HJ2.out.below (below_drew _)).below (below_drew _))
        have HF3 := hid ((HF2.out.trans (FW.below (below_drew _))).trans (FW.below (below_drew _)))
        have HX : Hid (xs[wrapF f0 (q + 1) n]? = some x) := hid (by rw [HW.out]; rw [← hfe.out]; exact hx.out)
        have hxm := hid (List.mem_of_getElem? hx.out)
        have hnext : Hid ((x = y ∨ z < 0) → SkNo L xs y f0 n (q + 1)) := hid (fun h r r1 r2 u hu => by
          by_cases e : r = q + 1
          · subst e
            rw [HX.out] at hu; cases hu
            rcases h with h | h
            · exact .inl h
            · exact .inr (by rw [HZ.out]; exact h)
          · exact hno.out r r1 (by omega) u hu)
        clear HJ2 HF2 hx hcx hz
        by_cases hxy : x = y
        · have hxy' : (x != y) = false := by simpa using hxy
          have HN := hid (hnext.out (.inl hxy))
          clear hxy
          go_wp2
          go_roundw
          case rel => exact ⟨q + 1, f + 1, by omega, by go_num, hid (fun _ => by rw [HW.out, ← hfe.out]), hid (fun h => by omega), HN, HJ3, HF3⟩
          case measure => simp only [intOf]; omega
        · have hxy' : (x != y) = true := by simpa using hxy
          by_cases hz0 : 0 ≤ z
          · have HS : Hid (SeekR L xs y x) := hid (.inr ⟨hxm.out, H0.out x hxm.out, hxy, by rw [HZ.out]; exact hz0⟩)
            clear hxy
            go_wp2_with (go_at_call 138; with_reducible (refine (value_is HJ3.out.t x x1 HZ.out).mono ?_); rintro e w2 ⟨rfl, b2⟩)
            go_ret
            exact ⟨x, f + 1, rfl, HS, hid (.inl (by omega)), hid (HJ3.out.below b2.out), hid (HF3.out.trans (FW.below b2.out))⟩
          · have HN := hid (hnext.out (.inr (by omega)))
            have hz1 : decide (0 ≤ z) = false := by simpa using hz0
            clear hxy
            go_wp2_with (go_at_call 138; with_reducible (refine (value_is HJ3.out.t x x1 HZ.out).mono ?_); rintro e w2 ⟨rfl, b2⟩)
            go_roundw
            case rel => exact ⟨q + 1, f + 1, by omega, by go_num, hid (fun _ => by rw [HW.out, ← hfe.out]), hid (fun h => by omega), HN, hid (HJ3.out.below b2.out), hid (HF3.out.trans (FW.below b2.out))⟩
            case measure => simp only [intOf]; omega
    · have hqn : q = n := by omega
      have HS : Hid (SeekR L xs y (-1)) := hid (.inl ⟨rfl, fun x hx hne => by
        obtain ⟨i, hi, e⟩ := List.mem_iff_getElem.1 hx
        obtain ⟨r, r1, r2, r3⟩ := wrap_all (HF0.out (by omega)) (i := i) (n := n) (by omega)
        rcases hno.out r r1 (by omega) x (by rw [r3, List.getElem?_eq_getElem hi, e]) with h | h
        · exact absurd h hne
        · exact h⟩)
      have HE : Hid (f < xs.length ∨ xs = []) := hid (by
        by_cases h : 0 < n
        · left; rw [hfq.out h, hlen]; exact wrap_lt (HF0.out h) hq
        · right; exact List.eq_nil_of_length_eq_zero (by omega))
      go_wp2
      go_ret
      exact ⟨-1, f, rfl, HS, HE, hj, hfw⟩

end Go.Proofs.YtimfjoinjfecjaaGreat
