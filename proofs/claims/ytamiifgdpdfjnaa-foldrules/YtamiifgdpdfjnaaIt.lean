/-
  ites: what is chosen by a known condition, and of twice the same.
-/
import Derived.Test.YtamiifgdpdfjnaaAwake
namespace Go.Proofs.Ytamiifgdpdfjnaa
open Go.RowKit Go.Maps
set_option linter.unusedVariables false
set_option maxRecDepth 100000

/-- A call that tells. -/
theorem told {k : K} {w : World} {N : List Nd} {P : Nat → Prop} {p : Plan} {f : FuncId} {args : Array Value} (h : Calls Try.prog f args w fun e w' => e = .returned (.tuple #[.int .i64 (resI k.M N p), .int .i64 (resE k.M N p)]) ∧ Hid (MkEnd k N P p w w')) {M : Nat} (hM : k.M = M) {I : Int} {N' : List Nd} (T : Tell M N p I N') :
    Calls Try.prog f args w fun e w' => ∃ P', e = .returned (.tuple #[.int .i64 I, .int .i64 0]) ∧ Hid (Dg k w' N' P') ∧ Hid (Fr P P' w w') := mk_is h hM T.1 T.2.1 T.2.2

theorem ites_plan {N : List Nd} {t z u : Int} {m : Nd} (h : Pn N t m z u) {M : Nat} (hr : N.length + 4 ≤ M) (x : Int) : ∃ o N1 y N2 n N3 c E N4,
    Tell M N (constP m.wd x) o N1 ∧ Tell M N1 (constP 1 1) y N2 ∧ Tell M N2 (constP 1 0) n N3 ∧ resI M N3 (varP N3 1 200) = c ∧ resE M N3 (varP N3 1 200) = E ∧ resN M N3 (varP N3 1 200) = N4 ∧
    Tell M N4 (fiteP N4 y t o) t N4 ∧ Tell M N4 (fiteP N4 n t o) o N4 ∧ (E = 0 → Tell M N4 (fiteP N4 c t t) t N4) := by
  have d1 : constP m.wd x = .inr ⟨20, m.wd, 0, 0, 0, cutF m.wd x⟩ := const_at h.wd x
  have d2 : constP 1 1 = .inr ⟨20, 1, 0, 0, 0, 1⟩ := by rw [const_at (by omega)]; rfl
  have d3 : constP 1 0 = .inr ⟨20, 1, 0, 0, 0, 0⟩ := by rw [const_at (by omega)]; rfl
  obtain ⟨o, N1, T1, i1, n1⟩ := tell_new (M := M) (N := N) (n := ⟨20, m.wd, 0, 0, 0, cutF m.wd x⟩) (by omega)
  rw [← d1] at T1
  have x1 := res_ext M N (constP m.wd x)
  have l1 := resN_more M N (constP m.wd x)
  rw [T1.2.2] at x1 l1
  obtain ⟨y, N2, T2, i2, n2⟩ := tell_new (M := M) (N := N1) (n := ⟨20, 1, 0, 0, 0, 1⟩) (by omega)
  rw [← d2] at T2
  have x2 := res_ext M N1 (constP 1 1)
  have l2 := resN_more M N1 (constP 1 1)
  rw [T2.2.2] at x2 l2
  obtain ⟨n, N3, T3, i3, n3⟩ := tell_new (M := M) (N := N2) (n := ⟨20, 1, 0, 0, 0, 0⟩) (by omega)
  rw [← d3] at T3
  have x3 := res_ext M N2 (constP 1 0)
  have l3 := resN_more M N2 (constP 1 0)
  rw [T3.2.2] at x3 l3
  have x4 := res_ext M N3 (varP N3 1 200)
  have e4 : resE M N3 (varP N3 1 200) = 0 → wdF (resN M N3 (varP N3 1 200)) (resI M N3 (varP N3 1 200)) = 1 := by
    intro e
    have hv : varP N3 1 200 = .inl (0, 2) ∨ varP N3 1 200 = .inr ⟨21, 1, 200, 0, 0, 0⟩ := by
      unfold varP
      rw [fits_yes (by omega) (by omega), show (decide ((200 : Int) < 0) || decide ((256 : Int) ≤ 200)) = false by decide]
      simp only [if_true, Bool.false_eq_true, if_false]
      split
      · exact .inl rfl
      · exact .inr rfl
    rcases hv with hv | hv
    · rw [hv] at e; simp [resE] at e
    · rw [hv]
      obtain ⟨c, N4, T4, i4, n4⟩ := tell_new (M := M) (N := N3) (n := ⟨21, 1, 200, 0, 0, 0⟩) (by omega)
      rw [T4.1, T4.2.2]
      unfold wdF; rw [n4]
  refine ⟨o, N1, y, N2, n, N3, _, _, _, T1, T2, T3, rfl, rfl, rfl, ?_⟩
  revert x4 e4
  generalize resN M N3 (varP N3 1 200) = N4
  generalize resI M N3 (varP N3 1 200) = c
  generalize resE M N3 (varP N3 1 200) = E
  intro x4 e4
  have z1 := x1.trans (x2.trans (x3.trans x4))
  have z2 := x2.trans (x3.trans x4)
  have z3 := x3.trans x4
  have wt : wdF N4 t = m.wd := by unfold wdF; rw [z1.ndA h.ti, h.tn]
  have wo : wdF N4 o = m.wd := by unfold wdF; rw [z2.ndA i1, n1]
  exact ⟨fite_yes ((z3.ndA i2).trans n2) wt wo h.wd.1 M, fite_no ((x4.ndA i3).trans n3) wt wo h.wd.1 M, fun e => fite_same (e4 e) wt h.wd.1 M⟩

theorem ites_any {k : K} {w : World} {N : List Nd} {P : Nat → Prop} (s : Hid (Dg k w N P)) {M : Nat} (hM : Hid (k.M = M)) {t z u : Int} {m : Nd} (h : Pn N t m z u) (hr : N.length + 4 ≤ M) (n : Int) :
    Calls Try.prog 12 #[.pointer (some ⟨k.DB, 0, none⟩), .int .i64 t, .int .i64 n] w fun e w' => ∃ P', e = .returned (.bool true) ∧ Hid (Fr P P' w w') := by
  obtain ⟨o, N1, y, N2, no, N3, c, E, N4, T1, T2, T3, C1, C2, C3, T5, T6, T7⟩ := ites_plan h hr (IntKind.u64.wrap n)
  have bx := Wd.u64_bd n
  have tw := h.tw
  generalize m.wd = wd at T1 tw
  have HT1 := hid T1
  have HT2 := hid T2
  have HT3 := hid T3
  have HC1 := hid C1
  have HC2 := hid C2
  have HC3 := hid C3
  have HT5 := hid T5
  have HT6 := hid T6
  have HT7 := hid T7
  have HW := hid tw
  have BX := hid bx
  clear T1 T2 T3 C1 C2 C3 T5 T6 T7 tw bx h hr
  have q1 : (t == t) = true := by simp
  have q2 : (o == o) = true := by simp
  have q3 : (t != t) = false := by simp
  by_cases hE : E = 0
  · subst hE
    have HT8 := hid (HT7.out rfl)
    go_enter Try.func12, Try.ntmps12
    go_wp2_with (first
      | (go_at_call 6; with_reducible (refine (width_is s.out t HW.out).mono ?_); rintro e w1 ⟨rfl, b1⟩; have s1 := hid (s.out.below b1.out))
      | (go_at_call 7; with_reducible (refine (told (const_any s1.out wd (IntKind.u64.wrap n) BX.out.1 BX.out.2) hM.out HT1.out).mono ?_); rintro e w2 ⟨P2, rfl, s2, f2⟩)
      | (go_at_call 7; with_reducible (refine (told (const_any s2.out 1 1 (by omega) (by omega)) hM.out HT2.out).mono ?_); rintro e w3 ⟨P3, rfl, s3, f3⟩)
      | (go_at_call 7; with_reducible (refine (told (const_any s3.out 1 0 (by omega) (by omega)) hM.out HT3.out).mono ?_); rintro e w4 ⟨P4, rfl, s4, f4⟩)
      | (go_at_call 14; with_reducible (refine (mk_is (var_any s4.out 1 200) hM.out HC1.out HC2.out HC3.out).mono ?_); rintro e w5 ⟨P5, rfl, s5, f5⟩)
      | (go_at_call 30; with_reducible (refine (told (fite_any s5.out y t o) hM.out HT5.out).mono ?_); rintro e w6 ⟨P6, rfl, s6, f6⟩)
      | (go_at_call 30; with_reducible (refine (told (fite_any s6.out no t o) hM.out HT6.out).mono ?_); rintro e w7 ⟨P7, rfl, s7, f7⟩)
      | (go_at_call 30; with_reducible (refine (told (fite_any s7.out c t t) hM.out HT8.out).mono ?_); rintro e w8 ⟨P8, rfl, s8, f8⟩))
    go_ret
    exact ⟨P8, rfl, hid ((Fr.below b1.out).trans (f2.out.trans (f3.out.trans (f4.out.trans (f5.out.trans (f6.out.trans (f7.out.trans f8.out)))))))⟩
  · have hE2 : (E == 0) = false := by simpa using hE
    clear hE
    go_enter Try.func12, Try.ntmps12
    go_wp2_with (first
      | (go_at_call 6; with_reducible (refine (width_is s.out t HW.out).mono ?_); rintro e w1 ⟨rfl, b1⟩; have s1 := hid (s.out.below b1.out))
      | (go_at_call 7; with_reducible (refine (told (const_any s1.out wd (IntKind.u64.wrap n) BX.out.1 BX.out.2) hM.out HT1.out).mono ?_); rintro e w2 ⟨P2, rfl, s2, f2⟩)
      | (go_at_call 7; with_reducible (refine (told (const_any s2.out 1 1 (by omega) (by omega)) hM.out HT2.out).mono ?_); rintro e w3 ⟨P3, rfl, s3, f3⟩)
      | (go_at_call 7; with_reducible (refine (told (const_any s3.out 1 0 (by omega) (by omega)) hM.out HT3.out).mono ?_); rintro e w4 ⟨P4, rfl, s4, f4⟩)
      | (go_at_call 14; with_reducible (refine (mk_is (var_any s4.out 1 200) hM.out HC1.out HC2.out HC3.out).mono ?_); rintro e w5 ⟨P5, rfl, s5, f5⟩)
      | (go_at_call 30; with_reducible (refine (told (fite_any s5.out y t o) hM.out HT5.out).mono ?_); rintro e w6 ⟨P6, rfl, s6, f6⟩)
      | (go_at_call 30; with_reducible (refine (told (fite_any s6.out no t o) hM.out HT6.out).mono ?_); rintro e w7 ⟨P7, rfl, s7, f7⟩))
    go_ret
    exact ⟨P7, rfl, hid ((Fr.below b1.out).trans (f2.out.trans (f3.out.trans (f4.out.trans (f5.out.trans (f6.out.trans f7.out))))))⟩

end Go.Proofs.Ytamiifgdpdfjnaa
