/-
  two and seek, exactly: which literals are told.
-/
import Derived.Test.YtimfjoinjfecjaaGreatQ10

namespace Go.Proofs.YtimfjoinjfecjaaGreat
open Go.RowKit Go.Maps
set_option linter.unusedVariables false

/-- The first two that differ and may hold, behind a first one a (-1: none yet). -/
def twoA (L : List E) : Int → List Int → Int × Int
  | a, [] => (a, -1)
  | a, x :: xs => if x = a ∨ valueF L x < 0 then twoA L a xs else if a = -1 then twoA L x xs else (a, x)

theorem drop_at {xs : List Int} {q : Nat} {y : Int} (h : xs[q]? = some y) : xs.drop q = y :: xs.drop (q + 1) := by
  obtain ⟨h1, h2⟩ := List.getElem?_eq_some_iff.1 h
  rw [← h2]; exact List.drop_eq_getElem_cons h1

section
variable {L : List E} {xs : List Int} {q : Nat} {x y : Int}
theorem two_skip (h : xs[q]? = some y) (hs : y = x ∨ valueF L y < 0) : twoA L x (xs.drop q) = twoA L x (xs.drop (q + 1)) := by
  rw [drop_at h, twoA, if_pos hs]
theorem two_first (h : xs[q]? = some y) (h1 : ¬ y = -1) (h2 : ¬ valueF L y < 0) : twoA L (-1) (xs.drop q) = twoA L y (xs.drop (q + 1)) := by
  rw [drop_at h, twoA, if_neg (fun c => c.elim h1 h2), if_pos rfl]
theorem two_hit (h : xs[q]? = some y) (h1 : ¬ y = x) (h2 : ¬ valueF L y < 0) (h3 : ¬ x = -1) : twoA L x (xs.drop q) = (x, y) := by
  rw [drop_at h, twoA, if_neg (fun c => c.elim h1 h2), if_neg h3]
theorem two_end (h : xs.length ≤ q) : twoA L x (xs.drop q) = (x, -1) := by
  rw [List.drop_eq_nil_of_le h]; rfl
end

/-- The next that may hold, other than y, from behind the place f on, and its place. -/
def seekA (L : List E) (xs : List Int) (y : Int) : Nat → Nat → Int × Nat
  | 0, f => (-1, f)
  | m + 1, f => if xs.getD (if f + 1 = xs.length then 0 else f + 1) 0 = y ∨ valueF L (xs.getD (if f + 1 = xs.length then 0 else f + 1) 0) < 0 then seekA L xs y m (if f + 1 = xs.length then 0 else f + 1)
    else (xs.getD (if f + 1 = xs.length then 0 else f + 1) 0, if f + 1 = xs.length then 0 else f + 1)

section
variable {L : List E} {xs : List Int} {y x : Int} {n q f f' : Nat}
theorem seek_place (hn : xs.length = n) (hf : (f + 1 = n ∧ f' = 0) ∨ (¬ f + 1 = n ∧ f' = f + 1)) : (if f + 1 = xs.length then 0 else f + 1) = f' := by
  rw [hn]
  rcases hf with ⟨h1, h2⟩ | ⟨h1, h2⟩
  · rw [if_pos h1, h2]
  · rw [if_neg h1, h2]
theorem seek_go (hn : xs.length = n) (hq : q < n) (hf : (f + 1 = n ∧ f' = 0) ∨ (¬ f + 1 = n ∧ f' = f + 1)) (hx : xs[f']? = some x) (h : x = y ∨ valueF L x < 0) : seekA L xs y (n - q) f = seekA L xs y (n - (q + 1)) f' := by
  have e : n - q = n - (q + 1) + 1 := by omega
  have ex : xs.getD f' 0 = x := by rw [List.getD_eq_getElem?_getD, hx]; rfl
  rw [e, seekA, seek_place hn hf, ex, if_pos h]
theorem seek_hit (hn : xs.length = n) (hq : q < n) (hf : (f + 1 = n ∧ f' = 0) ∨ (¬ f + 1 = n ∧ f' = f + 1)) (hx : xs[f']? = some x) (h1 : x ≠ y) (h2 : 0 ≤ valueF L x) : seekA L xs y (n - q) f = (x, f') := by
  have e : n - q = n - (q + 1) + 1 := by omega
  have ex : xs.getD f' 0 = x := by rw [List.getD_eq_getElem?_getD, hx]; rfl
  rw [e, seekA, seek_place hn hf, ex, if_neg (fun c => c.elim h1 (by omega))]
end

section
variable {k : K} {kw : WK} {w : World} {g : G} {L : List E} {lev : Nat} {p : V}

theorem two_ex (j : J k kw w g L lev p) {c : Nat} (hc : c < g.nx) (hg : g.gn c = false) (h0 : ∀ x ∈ g.lt c, 0 ≤ x) :
    Calls Tryz.prog 112 #[.pointer (some ⟨g.cb c, 0, none⟩), .pointer (some ⟨k.OB, 0, none⟩)] w fun e w' => ∃ a b : Int, e = .returned (.tuple #[.int .i64 a, .int .i64 b]) ∧ Hid (TwoR L (g.lt c) a b ∧ twoA L (-1) (g.lt c) = (a, b)) ∧ Hid (Below w.heap.size w w') := by
  obtain ⟨c0, c1, c2, c3, c4⟩ := j.s.l.ks hc hg
  obtain ⟨ao, n, cp, ev, hrow, _⟩ := j.s.l.li c hc hg
  rw [ev] at c1
  have HJ := hid j
  have HR := hid hrow
  have hmx := hrow.max
  obtain ⟨xs, ex⟩ : ∃ xs, g.lt c = xs := ⟨_, rfl⟩
  rw [ex] at HR h0 ⊢
  have H0 := hid h0
  clear hrow j ev ex h0
  go_enter Tryz.func112, Tryz.ntmps112
  go_wp2
  go_loopw [6, 8, 14] (fun a _ i wr => ∃ (q : Nat) (x : Int), q ≤ n ∧ i = .int .i64 q ∧ a = .int .i64 x ∧ Hid (TwoL L (xs.take q) x ∧ twoA L (-1) xs = twoA L x (xs.drop q)) ∧ Hid (Below w.heap.size w wr)) (fun _ _ i _ => n - (intOf i).toNat)
  case atStart => exact ⟨0, -1, Nat.zero_le _, rfl, rfl, hid ⟨.inl ⟨rfl, fun x hx => by simp at hx⟩, rfl⟩, hid (Below.refl _ _)⟩
  case round =>
    obtain ⟨q, x, hq, rfl, rfl, hl, hb⟩ := hrel
    by_cases hlt : q < n
    · obtain ⟨b, off, y, rfl, hcc, hy, y0, y1⟩ := (HR.out.keep hb.out).at hlt
      obtain ⟨z, hz⟩ : ∃ z, valueF L y = z := ⟨_, rfl⟩
      have HZ := hid hz
      have hyp : 0 ≤ y := H0.out y (List.mem_of_getElem? hy.out)
      by_cases e : y = x
      · have e' : (y == x) = true := by simpa using e
        have HN := hid (And.intro (hl.out.1.skip hy.out hyp (.inl e)) (hl.out.2.trans (two_skip hy.out (.inl e))))
        clear e hz
        go_wp2
        go_roundw
        case rel => exact ⟨q + 1, x, by omega, by go_num, rfl, HN, hb⟩
        case measure => simp only [intOf]; omega
      · have e' : (y == x) = false := by simpa using e
        by_cases hz0 : z < 0
        · have HN := hid (And.intro (hl.out.1.skip hy.out hyp (.inr (by rw [hz]; exact hz0))) (hl.out.2.trans (two_skip hy.out (.inr (by rw [hz]; exact hz0)))))
          clear e hz
          go_wp2_with (go_at_call 138; with_reducible (refine (value_is (HJ.out.below hb.out).t y y1 HZ.out).mono ?_); rintro e w2 ⟨rfl, b2⟩)
          go_roundw
          case rel => exact ⟨q + 1, x, by omega, by go_num, rfl, HN, hid (Below.next hb.out b2.out)⟩
          case measure => simp only [intOf]; omega
        · by_cases hx : x = -1
          · subst hx
            have HN : Hid (TwoL L (xs.take (q + 1)) y ∧ twoA L (-1) xs = twoA L y (xs.drop (q + 1))) := hid (by
              refine ⟨?_, hl.out.2.trans (two_first hy.out e (by rw [hz]; exact hz0))⟩
              rw [take_next hy.out]
              refine .inr ⟨by simp, hyp, by rw [hz]; omega, fun u hu hne => ?_⟩
              rcases List.mem_append.1 hu with h | h
              · rcases hl.out.1 with ⟨_, h2⟩ | ⟨_, h2, _⟩
                · exact h2 u h
                · omega
              · rw [List.mem_singleton] at h; exact absurd h hne)
            clear e hz
            go_wp2_with (go_at_call 138; with_reducible (refine (value_is (HJ.out.below hb.out).t y y1 HZ.out).mono ?_); rintro e w2 ⟨rfl, b2⟩)
            go_roundw
            case rel => exact ⟨q + 1, y, by omega, by go_num, rfl, HN, hid (Below.next hb.out b2.out)⟩
            case measure => simp only [intOf]; omega
          · have hx' : (x != -1) = true := by simpa using hx
            have HN : Hid (TwoR L xs x y ∧ twoA L (-1) xs = (x, y)) := hid (by
              refine ⟨?_, hl.out.2.trans (two_hit hy.out e (by rw [hz]; exact hz0) hx)⟩
              rcases hl.out.1 with ⟨h1, _⟩ | ⟨h1, h2, h3, _⟩
              · exact absurd h1 hx
              · exact .inr (.inr ⟨List.mem_of_mem_take h1, List.mem_of_getElem? hy.out, h2, hyp, fun c => e c.symm, h3, by rw [hz]; omega⟩))
            clear e hz hx
            go_wp2_with (go_at_call 138; with_reducible (refine (value_is (HJ.out.below hb.out).t y y1 HZ.out).mono ?_); rintro e w2 ⟨rfl, b2⟩)
            go_ret2
            exact ⟨x, y, rfl, HN, Below.next hb.out b2.out⟩
    · have HV : Hid (xs.take q = xs) := hid (List.take_of_length_le (by rw [HR.out.1]; omega))
      have HN : Hid (TwoR L xs x (-1) ∧ twoA L (-1) xs = (x, -1)) := hid (by
        refine ⟨?_, hl.out.2.trans (two_end (by rw [HR.out.1]; omega))⟩
        have h := hl.out.1
        rw [HV.out] at h
        rcases h with ⟨h1, h2⟩ | ⟨h1, h2, h3, h4⟩
        · exact .inl ⟨h1, rfl, h2⟩
        · exact .inr (.inl ⟨h1, h2, h3, rfl, h4⟩))
      go_wp2
      go_ret2
      exact ⟨x, -1, rfl, HN, hb⟩
end

set_option maxHeartbeats 2000000 in
theorem seek_ex {k : K} {kw : WK} {w : World} {g : G} {L : List E} {lev : Nat} {p : V} (j : J k kw w g L lev p) {c : Nat} (hc : c < g.nx) (hg : g.gn c = false) (y : Int) (h0 : ∀ x ∈ g.lt c, 0 ≤ x) (hf : g.fr c < (g.lt c).length ∨ g.lt c = []) :
    Calls Tryz.prog 141 #[.pointer (some ⟨g.cb c, 0, none⟩), .pointer (some ⟨k.OB, 0, none⟩), .int .i64 y] w fun e w' => ∃ (z : Int) (f : Nat), e = .returned (.int .i64 z) ∧ Hid (SeekR L (g.lt c) y z ∧ seekA L (g.lt c) y (g.lt c).length (g.fr c) = (z, f)) ∧ Hid (f < (g.lt c).length ∨ g.lt c = []) ∧ Hid (J k kw w' (g.from c f) L lev p) ∧ Hid (FW kw.B w w') := by
  obtain ⟨c0, c1, c2, c3, c4⟩ := j.s.l.ks hc hg
  obtain ⟨ao, n, cp, ev, hrow, hty⟩ := j.s.l.li c hc hg
  rw [ev] at c1
  obtain ⟨f0, ef0⟩ : ∃ f, g.fr c = f := ⟨_, rfl⟩
  have HJ : Hid (J k kw w (g.from c f0) L lev p) := hid (by rw [← ef0, G.from_self]; exact j)
  have hmx := hrow.max
  obtain ⟨xs, ex⟩ : ∃ xs, g.lt c = xs := ⟨_, rfl⟩
  rw [ex] at hrow h0 hf ⊢
  rw [ef0] at hf ⊢
  have hlen := hrow.1
  have HEX := hid ex
  have H0 := hid h0
  have HF := hid hf
  have HEV := hid ev
  clear c0 c2 c3 c4 ex h0 hf j ev
  have HF0 : Hid (0 < n → f0 < n) := hid (fun h => by
    rcases HF.out with h2 | h2
    · omega
    · rw [h2] at hlen; simp at hlen; omega)
  go_enter Tryz.func141, Tryz.ntmps141
  go_wp2
  go_loopw [7, 13] (fun _ i wr => ∃ (q f : Nat), q ≤ n ∧ i = .int .i64 q ∧ Hid (0 < n → f = wrapF f0 q n) ∧ Hid (n = 0 → f = f0) ∧ Hid (SkNo L xs y f0 n q ∧ seekA L xs y n f0 = seekA L xs y (n - q) f) ∧ Hid (J k kw wr (g.from c f) L lev p) ∧ Hid (FW kw.B w wr)) (fun _ i _ => n - (intOf i).toNat)
  case atStart => exact ⟨0, f0, Nat.zero_le _, rfl, hid (fun h => (wrap_zero (HF0.out h)).symm), hid (fun _ => rfl), hid ⟨fun r h1 h2 => by omega, rfl⟩, HJ, hid (FW.refl _)⟩
  case round =>
    clear c1 HJ
    obtain ⟨q, f, hq, rfl, hfq, hfz, hno, hj, hfw⟩ := hrel
    by_cases hlt : q < n
    · have hf0 : Hid (f0 < n) := hid (HF0.out (by omega))
      have hfe := hid (hfq.out (by omega))
      obtain ⟨d0, d1, d2, d3, d4⟩ := hj.out.s.l.ks (i := c) hc hg
      obtain ⟨b, off, rfl, htb⟩ := hty (by omega)
      have d1' : wr.cell? ⟨g.cb c, 1, none⟩ = some (.slice (some ⟨b, off, none⟩) n cp) := by rw [← HEV.out]; exact d1
      have d4' : wr.cell? ⟨g.cb c, 4, none⟩ = some (.int .i64 f) := by simpa [G.from, up_same] using d4
      have df : wr.frozen? ⟨g.cb c, 4, none⟩ = false := hj.out.s.l.kf (i := c) hc 4
      have hfn : f < n := by rw [hfe.out]; exact wrap_lt hf0.out hq
      have hbt := hfw.out.block b 3 htb (by simp [Wt])
      have hrw : U.Row wr (some ⟨b, off, none⟩) n cp xs := Row.same hrow (fun b' off' _ e => by cases e; exact hbt)
      have hne : ¬ b = g.cb c := fun e => by
        have h1 : Typ wr b 3 := htb.same hbt
        rw [e] at h1
        have := h1.one ⟨_, _, hj.out.s.l.cl c hc⟩
        cases this
      clear d0 d1 d2 d3 d4 hbt htb
      by_cases hen : f + 1 = n
      · have hen' : ((f : Int) + 1 == (n : Int)) = true := beq_iff_eq.2 (by omega)
        have h0n : 0 < n := by omega
        obtain ⟨b2, off2, x, e, hcx, hx, x0, x1⟩ := hrw.at h0n
        cases e
        have HE0 := hid hen
        have HW := hid (wrap_end hf0.out hlt (by rw [← hfe.out]; exact hen))
        obtain ⟨z, hz⟩ : ∃ z, valueF L x = z := ⟨_, rfl⟩
        have HZ := hid hz
        have hJ1 := hj.out.from hc hg (f + 1)
        have hJ2 := hJ1.1.from hc hg 0
        have HJ2 := hid hJ2.1
        have HF2 := hid ((hfw.out.trans hJ1.2).trans hJ2.2)
        have e1 : (((f + 1 : Nat) : Int)) = (f : Int) + 1 := by omega
        rw [e1] at HJ2 HF2
        rw [Nat.add_zero] at hcx
        rw [show (((0 : Nat)) : Int) = 0 from rfl] at HJ2 HF2
        clear hen hJ1 hJ2
        go_wp2
        go_region
        go_wp2
        go_region
        have HJ3 := hid ((HJ2.out.below (below_drew _)).below (below_drew _))
        have HF3 := hid ((HF2.out.trans (FW.below (below_drew _))).trans (FW.below (below_drew _)))
        have HX : Hid (xs[wrapF f0 (q + 1) n]? = some x) := hid (by rw [HW.out]; exact hx.out)
        have hxm := hid (List.mem_of_getElem? hx.out)
        have hnext0 : Hid ((x = y ∨ z < 0) → SkNo L xs y f0 n (q + 1)) := hid (fun h r r1 r2 u hu => by
          by_cases e : r = q + 1
          · subst e
            rw [HX.out] at hu; cases hu
            rcases h with h | h
            · exact .inl h
            · exact .inr (by rw [HZ.out]; exact h)
          · exact hno.out.1 r r1 (by omega) u hu)
        have hnext : Hid ((x = y ∨ z < 0) → SkNo L xs y f0 n (q + 1) ∧ seekA L xs y n f0 = seekA L xs y (n - (q + 1)) (0)) := hid (fun h => ⟨hnext0.out h, hno.out.2.trans (seek_go hlen hlt (.inl ⟨HE0.out, rfl⟩) hx.out (by rw [HZ.out]; exact h))⟩)
        have hhit : Hid (x ≠ y → 0 ≤ z → seekA L xs y n f0 = (x, 0)) := hid (fun h1 h2 => hno.out.2.trans (seek_hit hlen hlt (.inl ⟨HE0.out, rfl⟩) hx.out h1 (by rw [HZ.out]; exact h2)))
        clear HJ2 HF2 hx hcx hz
        by_cases hxy : x = y
        · have hxy' : (x != y) = false := by simpa using hxy
          have HN := hid (hnext.out (.inl hxy))
          clear hxy
          go_wp2
          go_roundw
          case rel => exact ⟨q + 1, 0, by omega, by go_num, hid (fun _ => by rw [HW.out]), hid (fun h => by omega), HN, HJ3, HF3⟩
          case measure => simp only [intOf]; omega
        · have hxy' : (x != y) = true := by simpa using hxy
          by_cases hz0 : 0 ≤ z
          · have HS : Hid (SeekR L xs y x ∧ seekA L xs y xs.length f0 = (x, 0)) := hid ⟨.inr ⟨hxm.out, H0.out x hxm.out, hxy, by rw [HZ.out]; exact hz0⟩, by rw [hlen]; exact hhit.out hxy hz0⟩
            clear hxy
            go_wp2_with (go_at_call 138; with_reducible (refine (value_is HJ3.out.t x x1 HZ.out).mono ?_); rintro e w2 ⟨rfl, b2⟩)
            go_ret
            exact ⟨x, 0, rfl, HS, hid (.inl (by omega)), hid (HJ3.out.below b2.out), hid (HF3.out.trans (FW.below b2.out))⟩
          · have HN := hid (hnext.out (.inr (by omega)))
            have hz1 : decide (0 ≤ z) = false := by simpa using hz0
            clear hxy
            go_wp2_with (go_at_call 138; with_reducible (refine (value_is HJ3.out.t x x1 HZ.out).mono ?_); rintro e w2 ⟨rfl, b2⟩)
            go_roundw
            case rel => exact ⟨q + 1, 0, by omega, by go_num, hid (fun _ => by rw [HW.out]), hid (fun h => by omega), HN, hid (HJ3.out.below b2.out), hid (HF3.out.trans (FW.below b2.out))⟩
            case measure => simp only [intOf]; omega
      · have hen' : ((f : Int) + 1 == (n : Int)) = false := beq_eq_false_iff_ne.2 (by omega)
        have hfn' : ((f : Int) + 1) < n := by omega
        have hfn2 : f + 1 < n := by omega
        obtain ⟨b2, off2, x, e, hcx, hx, x0, x1⟩ := hrw.at hfn2
        cases e
        have HE0 := hid hen
        have HW := hid (wrap_next hf0.out hlt (by rw [← hfe.out]; exact hen))
        obtain ⟨z, hz⟩ : ∃ z, valueF L x = z := ⟨_, rfl⟩
        have HZ := hid hz
        have hJ1 := hj.out.from hc hg (f + 1)
        have HJ2 := hid hJ1.1
        have HF2 := hid (hfw.out.trans hJ1.2)
        have e1 : (((f + 1 : Nat) : Int)) = (f : Int) + 1 := by omega
        rw [e1] at HJ2 HF2
        clear hen hJ1
        go_wp2
        go_region
        go_wp2
        go_region
        have HJ3 := hid ((HJ2.out.below (below_drew _)).below (below_drew _))
        have HF3 := hid ((HF2.out.trans (FW.below (below_drew _))).trans (FW.below (below_drew _)))
        have HX : Hid (xs[wrapF f0 (q + 1) n]? = some x) := hid (by rw [HW.out]; rw [← hfe.out]; exact hx.out)
        have hxm := hid (List.mem_of_getElem? hx.out)
        have hnext0 : Hid ((x = y ∨ z < 0) → SkNo L xs y f0 n (q + 1)) := hid (fun h r r1 r2 u hu => by
          by_cases e : r = q + 1
          · subst e
            rw [HX.out] at hu; cases hu
            rcases h with h | h
            · exact .inl h
            · exact .inr (by rw [HZ.out]; exact h)
          · exact hno.out.1 r r1 (by omega) u hu)
        have hnext : Hid ((x = y ∨ z < 0) → SkNo L xs y f0 n (q + 1) ∧ seekA L xs y n f0 = seekA L xs y (n - (q + 1)) (f + 1)) := hid (fun h => ⟨hnext0.out h, hno.out.2.trans (seek_go hlen hlt (.inr ⟨HE0.out, rfl⟩) hx.out (by rw [HZ.out]; exact h))⟩)
        have hhit : Hid (x ≠ y → 0 ≤ z → seekA L xs y n f0 = (x, f + 1)) := hid (fun h1 h2 => hno.out.2.trans (seek_hit hlen hlt (.inr ⟨HE0.out, rfl⟩) hx.out h1 (by rw [HZ.out]; exact h2)))
        clear HJ2 HF2 hx hcx hz
        by_cases hxy : x = y
        · have hxy' : (x != y) = false := by simpa using hxy
          have HN := hid (hnext.out (.inl hxy))
          clear hxy
          go_wp2
          go_roundw
          case rel => exact ⟨q + 1, f + 1, by omega, by go_num, hid (fun _ => by rw [HW.out, ← hfe.out]), hid (fun h => by omega), HN, HJ3, HF3⟩
          case measure => simp only [intOf]; omega
        · have hxy' : (x != y) = true := by simpa using hxy
          by_cases hz0 : 0 ≤ z
          · have HS : Hid (SeekR L xs y x ∧ seekA L xs y xs.length f0 = (x, f + 1)) := hid ⟨.inr ⟨hxm.out, H0.out x hxm.out, hxy, by rw [HZ.out]; exact hz0⟩, by rw [hlen]; exact hhit.out hxy hz0⟩
            clear hxy
            go_wp2_with (go_at_call 138; with_reducible (refine (value_is HJ3.out.t x x1 HZ.out).mono ?_); rintro e w2 ⟨rfl, b2⟩)
            go_ret
            exact ⟨x, f + 1, rfl, HS, hid (.inl (by omega)), hid (HJ3.out.below b2.out), hid (HF3.out.trans (FW.below b2.out))⟩
          · have HN := hid (hnext.out (.inr (by omega)))
            have hz1 : decide (0 ≤ z) = false := by simpa using hz0
            clear hxy
            go_wp2_with (go_at_call 138; with_reducible (refine (value_is HJ3.out.t x x1 HZ.out).mono ?_); rintro e w2 ⟨rfl, b2⟩)
            go_roundw
            case rel => exact ⟨q + 1, f + 1, by omega, by go_num, hid (fun _ => by rw [HW.out, ← hfe.out]), hid (fun h => by omega), HN, hid (HJ3.out.below b2.out), hid (HF3.out.trans (FW.below b2.out))⟩
            case measure => simp only [intOf]; omega
    · have hqn : q = n := by omega
      have HS0 : Hid (SeekR L xs y (-1)) := hid (.inl ⟨rfl, fun x hx hne => by
        obtain ⟨i, hi, e⟩ := List.mem_iff_getElem.1 hx
        obtain ⟨r, r1, r2, r3⟩ := wrap_all (HF0.out (by omega)) (i := i) (n := n) (by omega)
        rcases hno.out.1 r r1 (by omega) x (by rw [r3, List.getElem?_eq_getElem hi, e]) with h | h
        · exact absurd h hne
        · exact h⟩)
      have HS : Hid (SeekR L xs y (-1) ∧ seekA L xs y xs.length f0 = (-1, f)) := hid ⟨HS0.out, by rw [hlen, hno.out.2, hqn, Nat.sub_self]; rfl⟩
      have HE : Hid (f < xs.length ∨ xs = []) := hid (by
        by_cases h : 0 < n
        · left; rw [hfq.out h, hlen]; exact wrap_lt (HF0.out h) hq
        · right; exact List.eq_nil_of_length_eq_zero (by omega))
      go_wp2
      go_ret
      exact ⟨-1, f, rfl, HS, HE, hj, hfw⟩

end Go.Proofs.YtimfjoinjfecjaaGreat
