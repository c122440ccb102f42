/-
  awake: the chapter's own case.
-/
import Derived.Test.YtbfaigeopkonbaaWAwakeP
import Derived.Test.YtbfaigeopkonbaaWAct
namespace Go.Proofs.Ytbfaigeopkonbaa
open Go.RowKit Go.Maps
set_option linter.unusedVariables false

section
variable {k : K} {kw : WK} {w : World} {g : G} {L : List E} {lev : Nat} {p : V} {H : List Int}

theorem add_aw (W : Wa k kw w g L lev p H) (ta : Addr) (N : kw.n = 3) (x y : Int) (hx : 0 ≤ x ∧ x < 6) (hy : 0 ≤ y ∧ y < 6) (hnx : g.nx ≤ 10) (ht : tot 3 g ≤ 1000) {z : Int} (hz : (g.nx : Int) = z) :
    Calls Try.prog 17 #[.pointer (some ⟨kw.OB, 0, none⟩), .pointer (some ta), .slice (some ⟨w.heap.size, 0, none⟩) 2 2] (w.alloc (.cells #[.int .i64 x, .int .i64 y] 3)) fun e w' => ∃ g', e = .returned (.tuple #[.int .i64 z, .int .i64 0]) ∧ Hid (Wa k kw w' g' L lev p H) ∧ Hid (AddD 3 g g' [x, y]) ∧ Hid (FW kw.B w w') := by
  have b : Below w.heap.size w (w.alloc (.cells #[.int .i64 x, .int .i64 y] 3)) := by go_grown
  refine (add_is (W.below b) ta (row2 w x y (by omega) (by omega)) (by omega) (fun q hq => ?_) (by omega) ?_).mono fun e w' h => ?_
  · simp at hq; rw [N]; rcases hq with rfl | rfl <;> omega
  · rw [N]; unfold tot at ht; omega
  · obtain ⟨g', rfl, h1, h2, h3⟩ := h
    rw [N] at h2
    exact ⟨g', by rw [hz], h1, h2, (FW.below b).trans h3.out⟩

theorem bad_aw (W : Wa k kw w g L lev p H) (ta : Addr) (N : kw.n = 3) :
    Calls Try.prog 17 #[.pointer (some ⟨kw.OB, 0, none⟩), .pointer (some ta), .slice (some ⟨w.heap.size, 0, none⟩) 1 1] (w.alloc (.cells #[.int .i64 6] 3)) fun e w' => e = .returned (.tuple #[.int .i64 0, .int .i64 10]) ∧ Hid (Wa k kw w' g L lev p H) ∧ Hid (FW kw.B w w') := by
  have b : Below w.heap.size w (w.alloc (.cells #[.int .i64 6] 3)) := by go_grown
  refine (add_bad (W.below b).j.s ta (row1 w 6 (by omega)) (by omega) (fun h => ?_)).mono fun e w' h => ?_
  · have := h 6 (by simp); rw [N] at this; omega
  · exact ⟨h.1, (W.below b).below h.2, (FW.below b).trans (FW.below h.2)⟩

theorem asg_aw (W : Wa k kw w g [] 0 p H) (N : kw.n = 3) : Calls Try.prog 23 #[.pointer (some ⟨k.OB, 0, none⟩), .int .i64 0, .int .i64 (-1)] w fun e w' => ∃ b p', e = .returned (.bool b) ∧ Hid (Wa k kw w' g L0 0 p' H) ∧ Hid (FT k kw.B p p' w w') := by
  refine (wa_assign W 0 (by omega)).mono fun e w' h => ?_
  obtain ⟨b, p', rfl, h1, h2⟩ := h
  have e1 : addL k.n [] 0 0 (-1) = L0 := by
    rw [W.j.n, N]; rfl
  rw [e1] at h1
  exact ⟨b, p', rfl, h1, h2⟩

theorem lits_aw (t : Trl k w L lev p) (N : k.n = 3) : Calls Try.prog 24 #[.pointer (some ⟨k.OB, 0, none⟩)] w fun e w' => ∃ ao m, e = .returned (.slice ao m m) ∧ Hid (Told k p w (.slice ao m m) (litsF L)) ∧ Hid (m ≤ 100) ∧ w' = w := by
  refine (lits_det t rfl).mono fun e w' h => ?_
  have := t.len
  exact ⟨_, _, h.1, t.told, by show _ ≤ 100; omega, h.2⟩

theorem set_aw {ao : Option Addr} {m c q : Nat} {xs : List Int} (h : U.Row w ao m c xs) (hm : m ≤ 100) (hx : ∀ z, z ∈ xs ↔ z = 0 ∨ z = 2 ∨ z = 4) : Calls Try.prog 19 #[.slice ao m c, .slice (some ⟨w.heap.size, 0, none⟩) 3 3] (w.alloc (.cells #[.int .i64 0, .int .i64 2, .int .i64 4] 3)) fun e w' => e = .returned (.bool true) ∧ Hid (Below w.heap.size w w') := by
  have b : Below w.heap.size w (w.alloc (.cells #[.int .i64 0, .int .i64 2, .int .i64 4] 3)) := by go_grown
  refine (rset_any (h.keep b) (row3 w 0 2 4 (by omega) (by omega) (by omega)) (by omega) (by omega) (b := true) ?_).mono fun e w' h => ⟨h.1, Below.next b h.2.out⟩
  rw [decide_eq_true_eq]
  exact U.rise_congr (fun z => by rw [hx z]; simp)

theorem set_aw2 {ao : Option Addr} {m c q : Nat} (h : U.Row w ao m c [3, 4]) : Calls Try.prog 19 #[.slice ao m c, .slice (some ⟨w.heap.size, 0, none⟩) 2 2] (w.alloc (.cells #[.int .i64 3, .int .i64 4] 3)) fun e w' => e = .returned (.bool true) ∧ Hid (Below w.heap.size w w') := by
  have b : Below w.heap.size w (w.alloc (.cells #[.int .i64 3, .int .i64 4] 3)) := by go_grown
  have hm : m ≤ 100000 := by have := h.1; simp at this; omega
  exact (rset_any (h.keep b) (row2 w 3 4 (by omega) (by omega)) hm (by omega) (b := true) (by simp)).mono fun e w' h => ⟨h.1, Below.next b h.2.out⟩

theorem FT.fw2 {B : Nat} {p' : V} {w w1 w2 : World} (f : FT k B p p' w w1) (g : FW B w1 w2) : FT k B p p' w w2 := f.trans (FT.fw g)
end

section
variable {k : K} {kw : WK} {w : World} {g : G} {L : List E} {lev : Nat} {p : V} {H : List Int}

theorem rem_aw (W : Wa k kw w g L lev p H) (a : A2 g) (hn : g.nx = 3) (n2 : g.gn 2 = false) (hr : g.rm = 0) (hu : ∀ e ∈ L, e.r ≠ (2 : Nat)) : Calls Try.prog 21 #[.pointer (some ⟨kw.OB, 0, none⟩), .int .i64 2] w fun e w' => ∃ g', e = .returned (.bool true) ∧ Hid (Wa k kw w' g' L lev p H) ∧ Hid (liveN g' = 2 ∧ live g' 2 = false ∧ g'.nx = 3 ∧ g'.lt 1 = [3, 4] ∧ g'.gn 1 = false) ∧ Hid (FW kw.B w w') := by
  refine (remove_is (i := 2) W (by omega) n2 (by omega) (by omega) hu).mono fun e w' h => ?_
  obtain ⟨rfl, g', h1, h2, h3⟩ := h
  exact ⟨g', rfl, h1, aw_gone a hn h2.out.1, h3⟩

theorem len_aw (s : St kw w g) {z : Int} (hz : (liveN g : Int) = z) : Calls Try.prog 12 #[.pointer (some ⟨kw.OB, 0, none⟩)] w fun e w' => e = .returned (.int .i64 z) ∧ w' = w := by
  subst hz; exact wlen_is s

theorem cl_aw (s : St kw w g) (hn : g.nx = 3) (hg : g.gn 1 = false) (hl : g.lt 1 = [3, 4]) : Calls Try.prog 20 #[.pointer (some ⟨kw.OB, 0, none⟩), .int .i64 1] w fun e w' => ∃ ao n cp, e = .returned (.slice ao n cp) ∧ Hid (U.Row w ao n cp [3, 4]) ∧ w' = w := by
  have := wclause_is s 1 (by omega) hg (by omega)
  rw [hl] at this
  exact this
end

theorem cnt3 : cntF 3 = 3 := by decide
theorem g0_nx : g0.nx = 0 := rfl
theorem g0_tot : tot 3 g0 = 0 := by decide
theorem aw_g3 {g3 : G} {xs : List Int} (d : AddD 3 g0 g3 xs) : g3.nx = 1 ∧ tot 3 g3 = 1 := ⟨by rw [d.nx, g0_nx], by rw [d.su, g0_tot]⟩
theorem aw_g4 {g3 g4 : G} {xs : List Int} (h : g3.nx = 1 ∧ tot 3 g3 = 1) (d : AddD 3 g3 g4 xs) : g4.nx = 2 ∧ tot 3 g4 = 2 := ⟨by rw [d.nx, h.1], by rw [d.su, h.2]⟩
theorem aw_g7 {g4 g7 g9 : G} {n : Nat} (h : g4.nx = 2 ∧ tot 3 g4 = 2) (s : Sm0 g4 g7 ∧ tot n g7 ≤ tot n g4 + (n * g4.nx + 1)) (hn : n = 3) : g7.nx = 2 ∧ tot 3 g7 ≤ 9 := by
  obtain ⟨s1, s2⟩ := s
  subst hn
  rw [h.1, h.2] at s2
  exact ⟨by rw [s1.nx]; exact h.1, by omega⟩
theorem aw_g9 {g7 g9 : G} {xs : List Int} (h : g7.nx = 2 ∧ tot 3 g7 ≤ 9) (d : AddD 3 g7 g9 xs) : g9.nx = 3 ∧ tot 3 g9 ≤ 10 := ⟨by rw [d.nx, h.1], by rw [d.su]; omega⟩
theorem aw_rm {g3 g4 g7 g9 gt : G} {xs ys zs : List Int} (d3 : AddD 3 g0 g3 xs) (d4 : AddD 3 g3 g4 ys) (s7 : Sm0 g4 g7) (d9 : AddD 3 g7 g9 zs) (st : Sm0 g9 gt) : gt.rm = 0 := by
  rw [st.rm, d9.rm, s7.rm, d4.rm, d3.rm]; rfl
theorem aw_vr {k : K} {w : World} {L : List E} {lev : Nat} {p : V} (t : Trl k w L lev p) (h : k.n = 3) : ∀ e ∈ L, vr e < 3 := fun e he => by rw [← h]; exact t.lits_lt e he
theorem aw_new2 {k : K} {kw : WK} {w w1 w2 : World} (o1 : Trl k w1 [] 0 noV) (b2 : Below w1.heap.size w1 w2) (s2 : St kw w2 g0) (hn : k.n = cntF 3) (hn2 : kw.n = cntF 3) (hB : k.B = w.heap.size) (hB2 : kw.B = w.heap.size) : Wa k kw w2 g0 [] 0 noV [] := Wa.new (o1.below b2) s2 (hn.trans hn2.symm) (by omega)

set_option maxRecDepth 20000 in
set_option maxHeartbeats 8000000 in
theorem awake_any (w : World) : Calls Try.prog 7 #[] w fun e w' => e = .returned (.bool true) ∧ Hid (Below w.heap.size w w') := by
  go_enter Try.func7, Try.ntmps7
  go_upto_region 9 with (first
    | (go_at_call 8; with_reducible (refine (new_is 3 _).mono ?_); rintro e w1 ⟨k, rfl, o1, hn, hB, b1⟩)
    | (go_at_call 9; with_reducible (refine (wnew_is 3 w1 w.heap.size b1.out.size).mono ?_); rintro e w2 ⟨kw, rfl, s2, hn2, hB2, b2⟩; have N3 := hid (hn2.out.trans cnt3); have K3 := hid (hn.out.trans cnt3); have W2 := hid (aw_new2 o1.out b2.out s2.out hn.out hn2.out hB.out hB2.out); have B2 := hid (Below.next b1.out b2.out))
    | (go_at_call 17; with_reducible (refine (add_aw W2.out _ N3.out 1 2 (by omega) (by omega) (by have := g0_nx; omega) (by have := g0_tot; omega) (z := 0) (by have := g0_nx; omega)).mono ?_); rintro e w3 ⟨g3, rfl, W3, D3, F3⟩; have G3 := hid (aw_g3 D3.out))
    | (go_at_call 17; with_reducible (refine (add_aw W3.out _ N3.out 3 4 (by omega) (by omega) (by have := G3.out.1; omega) (by have := G3.out.2; omega) (z := 1) (by have := G3.out.1; omega)).mono ?_); rintro e w4 ⟨g4, rfl, W4, D4, F4⟩; have A4 := hid (A2.of g0_nx D3.out D4.out); have G4 := hid (aw_g4 G3.out D4.out))
    | (go_at_call 17; with_reducible (refine (bad_aw W4.out _ N3.out).mono ?_); rintro e w5 ⟨rfl, W5, F5⟩)
    | (go_at_call 23; with_reducible (refine (asg_aw W5.out N3.out).mono ?_); rintro e w6 ⟨b6, p6, rfl, W6, F6⟩)
    | (go_at_call 18; with_reducible (refine (run_one W6.out (by have := G4.out.1; omega) (by rw [N3.out, G4.out.1, G4.out.2]; omega)).mono ?_); rintro e w7 ⟨i7, ok7, g7, L7, p7, rfl, V7, W7, S7, X7, F7⟩; have Q7 := aw_one X7.out W7.out.rs W7.out.j.t.nd A4.out.1 A4.out.2 S7.out.1 V7.out; obtain ⟨⟨i1, i2⟩, h71, h72⟩ := Q7; have H71 := hid h71; have H72 := hid h72; subst i1; subst i2; clear h71 h72))
  have BE7 := hid ((((((FT.fw (k := k) (p := noV) F3.out).fw2 F4.out).fw2 F5.out).trans F6.out).trans F7.out).be hB2.out B2.out)
  have A7 := hid (A4.out.1.sm S7.out.1)
  have G7 := hid (aw_g7 (g9 := g0) G4.out S7.out N3.out)
  have ND7 := hid W7.out.j.t.nd
  clear W6 W5 W4 W3 W2 F3 F4 F5 F6 F7
  go_wp2_with (first
    | (go_at_call 24; with_reducible (refine (lits_aw W7.out.j.t K3.out).mono ?_); rintro e w8 ⟨ao8, m8, rfl, T8, hm8, rfl⟩)
    | (go_at_call 17; with_reducible (refine (add_aw W7.out _ N3.out 5 3 (by omega) (by omega) (by have := G7.out.1; omega) (by have := G7.out.2; omega) (z := 2) (by have := G7.out.1; omega)).mono ?_); rintro e w9 ⟨g9, rfl, W9, D9, F9⟩; have A9 := hid (A7.out.next G7.out.1 D9.out); have G9 := hid (aw_g9 G7.out D9.out); have T9 := hid (T8.out.ft (FT.fw F9.out)))
    | (go_at_call 18; with_reducible (refine (run_one W9.out (by have := G9.out.1; omega) (by rw [N3.out, G9.out.1]; have := G9.out.2; omega)).mono ?_); rintro e w10 ⟨it, ok10, gt, Lt, pt, rfl, Vt, Wt', St', Xt, Ft⟩; have Qt := aw_two (n := 0) H71.out H72.out ND7.out Xt.out Wt'.out.rs Wt'.out.j.t.nd (aw_vr Wt'.out.j.t K3.out) A9.out.1 A9.out.2.2.1 A9.out.2.2.2 A9.out.2.1 St'.out.1 Vt.out; obtain ⟨⟨i1, i2⟩, h81, h82⟩ := Qt; have H81 := hid h81; have H82 := hid h82; subst i1; subst i2; clear h81 h82; have Tt := hid (T9.out.ft Ft.out).row; have RM := hid (aw_rm D3.out D4.out S7.out.1 D9.out St'.out.1); have At := hid (A9.out.1.sm St'.out.1); have NXt := hid (St'.out.1.nx.trans A9.out.2.1); have N2t := hid ((congrFun St'.out.1.gn 2).trans A9.out.2.2.2); have BEt := hid ((FT.fw2 (FT.fw (k := k) (p := p7) F9.out) (FW.refl _)).trans Ft.out))
    | (go_at_call 19; with_reducible (refine (set_aw (q := 0) Tt.out hm8.out H71.out).mono ?_); rintro e w11 ⟨rfl, b11⟩; have W11 := hid (Wt'.out.below b11.out))
    | (go_at_call 25; with_reducible (refine (reason_is W11.out.j.t 2 H81.out).mono ?_); rintro e w12 ⟨rfl, rfl⟩)
    | (go_at_call 21; with_reducible (refine (rem_aw W11.out At.out NXt.out N2t.out RM.out H82.out).mono ?_); rintro e w13 ⟨g13, rfl, W13, D13, F13⟩)
    | (go_at_call 21; with_reducible (refine (remove_no W13.out.j.s 2 (by omega) (by omega) D13.out.2.1).mono ?_); rintro e w14 ⟨rfl, rfl⟩)
    | (go_at_call 12; with_reducible (refine (len_aw W13.out.j.s (z := 2) (by have := D13.out.1; omega)).mono ?_); rintro e w15 ⟨rfl, rfl⟩)
    | (go_at_call 20; with_reducible (refine (wclause_no W13.out.j.s 2 (by omega) (by omega) D13.out.2.1).mono ?_); rintro e w16 ⟨rfl, rfl⟩)
    | (go_at_call 20; with_reducible (refine (cl_aw W13.out.j.s D13.out.2.2.1 D13.out.2.2.2.2 D13.out.2.2.2.1).mono ?_); rintro e w17 ⟨aq, nq', cq, rfl, rq, rfl⟩)
    | (go_at_call 19; with_reducible (refine (set_aw2 (q := 0) rq.out).mono ?_); rintro e w18 ⟨rfl, b18⟩))
  go_ret
  exact ⟨rfl, hid ((((BEt.out.trans (FT.below b11.out)).fw2 F13.out).trans (FT.below b18.out)).be hB2.out BE7.out)⟩

end Go.Proofs.Ytbfaigeopkonbaa
