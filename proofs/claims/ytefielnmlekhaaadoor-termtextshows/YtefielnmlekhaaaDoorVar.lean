/-
  Var: a variable.
-/
import Derived.Test.YtefielnmlekhaaaDoorMkA
namespace Go.Proofs.YtefielnmlekhaaaDoor
open Go.RowKit Go.Maps
set_option linter.unusedVariables false
set_option maxRecDepth 100000

theorem vw_set {N : List Nd} {M : Nat} {q i : Int} (g : Gd N) (h0 : 0 ≤ i) (h1 : i < 256) (hv : vwF N i = 0 ∨ vwF N i = q) (he : mkE M N ⟨21, q, i, 0, 0, 0⟩ = 0) (hq : 1 ≤ q) : (wids N).set i.toNat q = wids (mkN M N ⟨21, q, i, 0, 0, 0⟩) := by
  have key : ∀ j : Nat, j < 256 → vwF (mkN M N ⟨21, q, i, 0, 0, 0⟩) j = if (j : Int) = i then q else vwF N j := by
    intro j hj
    rcases mkN_cases M N ⟨21, q, i, 0, 0, 0⟩ with ⟨hm, e, _⟩ | ⟨hm, _, e, _⟩ | ⟨_, _, _, _, e⟩
    · rw [e]
      by_cases c : (j : Int) = i
      · rw [if_pos c, c]; exact vwF_of g hm rfl
      · rw [if_neg c]
    · rw [e]
      by_cases c : (j : Int) = i
      · rw [if_pos c, c]
        by_cases d : ∃ m ∈ N, m.op = 21 ∧ m.a = i
        · rw [vwF_found d]
          obtain ⟨m, m1, m2, m3⟩ := d
          have h5 := vwF_of g m1 m2
          have := g.wd m m1
          rw [m3] at h5
          rcases hv with hv | hv <;> omega
        · have := (vwF_none (N := N) (i := i) (fun m hm e => d ⟨m, hm, e⟩) ⟨21, q, i, 0, 0, 0⟩).2
          rw [this]; simp
      · rw [if_neg c]
        by_cases d : ∃ m ∈ N, m.op = 21 ∧ m.a = j
        · rw [vwF_found d]
        · have := vwF_none (N := N) (i := (j : Int)) (fun m hm e => d ⟨m, hm, e⟩) ⟨21, q, i, 0, 0, 0⟩
          rw [this.2, this.1]
          have c' : ¬ i = (j : Int) := fun e => c e.symm
          simp [c']
    · rw [e] at he; omega
  apply List.ext_getElem?
  intro j
  by_cases hj : j < 256
  · rw [List.getElem?_set]
    by_cases c : i.toNat = j
    · subst c
      rw [if_pos rfl, if_pos (by rw [wids_len]; exact hj)]
      unfold wids
      rw [List.getElem?_map, List.getElem?_range hj]
      simp only [Option.map_some]
      rw [key _ hj, if_pos (by omega)]
    · rw [if_neg c]
      unfold wids
      rw [List.getElem?_map, List.getElem?_map, List.getElem?_range hj]
      simp only [Option.map_some]
      rw [key _ hj, if_neg (by omega)]
  · rw [List.getElem?_eq_none (by rw [List.length_set, wids_len]; omega), List.getElem?_eq_none (by rw [wids_len]; omega)]

theorem Raw.putw {k : K} {w : World} {N : List Nd} {ws : List Int} {nv : Value} {mo : Option Nat} {P : Nat → Prop} (s : Raw k w N ws nv mo P) (i : Nat) (q : Int) : Raw k (w.setCell ⟨k.DB, 3 + i, none⟩ (.int .i64 q)) N (ws.set i q) nv mo P := by
  have g := grown_set w ⟨k.DB, 3 + i, none⟩ (.int .i64 q)
  refine ⟨by rw [List.length_set]; exact s.lw, ?_, s.hM, s.len, own_keep s.ow g (fun j hj e => by cases hj; exact s.ne_own e), ?_, s.pd, s.pn, s.pm, fun j hj => ⟨(s.bd j hj).1, Nat.lt_of_lt_of_le (s.bd j hj).2 g.size⟩⟩
  · rw [set_same s.cl, dagC_set]
  · rcases s.mp with h | ⟨mb, h1, h2⟩
    · exact .inl h
    · exact .inr ⟨mb, h1, h2.same (by rw [set_other _ (by show mb ≠ k.DB; intro e; exact s.ne_map (by rw [h1, e]))])⟩

theorem num_var {k : K} {w : World} {N : List Nd} {nv : Value} {mo : Option Nat} {P : Nat → Prop} (s : Raw k w N (wids N) nv mo P) (q : Int) (i : Nat) (hf : Ft ⟨21, q, i, 0, 0, 0⟩) {I E : Int} (hI : mkI k.M N ⟨21, q, i, 0, 0, 0⟩ = I) (hE : mkE k.M N ⟨21, q, i, 0, 0, 0⟩ = E) :
    Calls Tryd.prog 25 #[.pointer (some ⟨k.DB, 0, none⟩), .agg #[.int .i64 21, .int .i64 q, .int .i64 i, .int .i64 0, .int .i64 0, .int .u64 0]] w fun e w' => e = .returned (.tuple #[.int .i64 I, .int .i64 E]) ∧ Hid (NumEnd k (wids N) N P ⟨21, q, i, 0, 0, 0⟩ w w') := by
  subst hI hE
  exact num_any s ⟨21, q, i, 0, 0, 0⟩ hf

theorem NumEnd.out {k : K} {ws : List Int} {N : List Nd} {P : Nat → Prop} {n : Nd} {w w' : World} (h : NumEnd k ws N P n w w') : ∃ nv' mo' P', Hid (Raw k w' (mkN k.M N n) ws nv' mo' P') ∧ Hid (Fr P P' w w') := h

set_option maxRecDepth 100000 in
set_option maxHeartbeats 1000000 in
theorem var_any {k : K} {w : World} {N : List Nd} {P : Nat → Prop} (s : Dg k w N P) (q i : Int) :
    Calls Tryd.prog 12 #[.pointer (some ⟨k.DB, 0, none⟩), .int .i64 q, .int .i64 i] w fun e w' => e = .returned (.tuple #[.int .i64 (resI k.M N (varP N q i)), .int .i64 (resE k.M N (varP N q i))]) ∧ Hid (MkEnd k N P (varP N q i) w w') := by
  have HS := hid s
  cases hf : fitsB q
  · refine tells (q := .inl (0, 2)) (by simp [varP, hf]) ?_
    go_enter Tryd.func12, Tryd.ntmps12
    go_wp2_with (go_at_call 24; with_reducible (refine (isWidth_any _ _).mono ?_); rintro e w2 ⟨rfl, rfl⟩)
    go_ret2
    exact ⟨rfl, hid (end_no HS.out (Below.refl _ _) 0 2)⟩
  by_cases h1 : i < 0
  · refine tells (q := .inl (0, 10)) (by simp [varP, hf, h1]) ?_
    go_enter Tryd.func12, Tryd.ntmps12
    go_wp2_with (go_at_call 24; with_reducible (refine (isWidth_any _ _).mono ?_); rintro e w2 ⟨rfl, rfl⟩)
    go_ret2
    exact ⟨rfl, hid (end_no HS.out (Below.refl _ _) 0 10)⟩
  by_cases h2 : 256 ≤ i
  · refine tells (q := .inl (0, 10)) (by simp [varP, hf, h2]) ?_
    go_enter Tryd.func12, Tryd.ntmps12
    go_wp2_with (go_at_call 24; with_reducible (refine (isWidth_any _ _).mono ?_); rintro e w2 ⟨rfl, rfl⟩)
    go_ret2
    exact ⟨rfl, hid (end_no HS.out (Below.refl _ _) 0 10)⟩
  obtain ⟨j, rfl⟩ : ∃ j : Nat, i = j := ⟨i.toNat, by omega⟩
  have hj : j < 256 := by omega
  have hj' : (j : Int) < 256 := by omega
  have hb := fits_bd hf
  obtain ⟨g, nv, mo, r⟩ := id s
  have cw := r.cw hj
  rw [wids_at N hj] at cw
  have hd := cell_lt cw
  obtain ⟨x, hx⟩ : ∃ x, vwF N (j : Int) = x := ⟨_, rfl⟩
  rw [hx] at cw
  have d1 : (decide ((j : Int) < 0) || decide (256 ≤ (j : Int))) = false := by simp; omega
  have key : x = 0 ∨ x = q → Calls Tryd.prog 12 #[.pointer (some ⟨k.DB, 0, none⟩), .int .i64 q, .int .i64 j] w fun e w' => e = .returned (.tuple #[.int .i64 (resI k.M N (varP N q j)), .int .i64 (resE k.M N (varP N q j))]) ∧ Hid (MkEnd k N P (varP N q j) w w') := by
    intro hxq
    refine tells (q := .inr ⟨21, q, j, 0, 0, 0⟩) (by simp only [varP, hf, d1, hx]; rcases hxq with rfl | rfl <;> simp) ?_
    have HF : Hid (Ft ⟨21, q, j, 0, 0, 0⟩) := hid ⟨show -9223372036854775808 ≤ (21 : Int) ∧ (21 : Int) ≤ 9223372036854775807 by omega, show -9223372036854775808 ≤ q ∧ q ≤ 9223372036854775807 by omega, show -9223372036854775808 ≤ (j : Int) ∧ (j : Int) ≤ 9223372036854775807 by omega, b_zero, b_zero, u_zero⟩
    have HR := hid r
    have hG : Gd (mkN k.M N ⟨21, q, j, 0, 0, 0⟩) := gd_mk g HF.out hb (fun _ => ⟨show (0 : Int) ≤ j by omega, show (j : Int) < 256 by omega, by rw [hx]; exact hxq⟩)
    have HG := hid hG
    obtain ⟨I, hI⟩ : ∃ I, mkI k.M N ⟨21, q, j, 0, 0, 0⟩ = I := ⟨_, rfl⟩
    have HI := hid hI
    have hfin : ∀ (nv' : Value) (mo' : Option Nat) (P' : Nat → Prop) (w' : World), mkE k.M N ⟨21, q, j, 0, 0, 0⟩ = 0 → Raw k w' (mkN k.M N ⟨21, q, j, 0, 0, 0⟩) (wids N) nv' mo' P' → Fr P P' w w' → MkEnd k N P (.inr ⟨21, q, j, 0, 0, 0⟩) w (w'.setCell ⟨k.DB, 3 + j, none⟩ (.int .i64 q)) := by
      intro nv' mo' P' w' he r' f'
      refine ⟨P', ⟨hG, nv', mo', ?_⟩, f'.trans (Fr.set _ r'.pd)⟩
      rw [show resN k.M N (.inr ⟨21, q, j, 0, 0, 0⟩) = mkN k.M N ⟨21, q, j, 0, 0, 0⟩ from rfl, ← vw_set g (by omega) (by omega) (by rw [hx]; exact hxq) he (by omega), Int.toNat_natCast]
      exact r'.putw j q
    have hfin8 : ∀ (nv' : Value) (mo' : Option Nat) (P' : Nat → Prop) (w' : World), mkE k.M N ⟨21, q, j, 0, 0, 0⟩ = 8 → Raw k w' (mkN k.M N ⟨21, q, j, 0, 0, 0⟩) (wids N) nv' mo' P' → Fr P P' w w' → MkEnd k N P (.inr ⟨21, q, j, 0, 0, 0⟩) w w' := by
      intro nv' mo' P' w' he r' f'
      rcases mkN_cases k.M N ⟨21, q, j, 0, 0, 0⟩ with ⟨_, _, _, e⟩ | ⟨_, _, _, _, e⟩ | ⟨_, _, e, _⟩
      · omega
      · omega
      · refine ⟨P', ?_, f'⟩
        rw [show resN k.M N (.inr ⟨21, q, j, 0, 0, 0⟩) = mkN k.M N ⟨21, q, j, 0, 0, 0⟩ from rfl]
        refine ⟨hG, nv', mo', ?_⟩
        rw [e] at r' ⊢
        exact r'
    have H0 := hid hfin
    have H8 := hid hfin8
    have he08 : mkE k.M N ⟨21, q, j, 0, 0, 0⟩ = 0 ∨ mkE k.M N ⟨21, q, j, 0, 0, 0⟩ = 8 := by
      rcases mkN_cases k.M N ⟨21, q, j, 0, 0, 0⟩ with ⟨_, _, _, e⟩ | ⟨_, _, _, _, e⟩ | ⟨_, _, _, _, e⟩
      · exact .inl e
      · exact .inl e
      · exact .inr e
    show Calls Tryd.prog 12 _ w fun e w' => e = .returned (.tuple #[.int .i64 (mkI k.M N ⟨21, q, j, 0, 0, 0⟩), .int .i64 (mkE k.M N ⟨21, q, j, 0, 0, 0⟩)]) ∧ _
    rw [hI]
    have hx1 : x = 0 ∨ (x ≠ 0 ∧ x = q) := by omega
    have hc : (x != 0) = false ∨ ((x != 0) = true ∧ (x != q) = false) := by
      rcases hx1 with h | ⟨h, h'⟩
      · exact .inl (by simpa using h)
      · exact .inr ⟨by simpa using h, by simpa using h'⟩
    clear hfin hfin8 hG hxq hx1 s r g hx d1 HS hI
    rcases he08 with he | he
    · have HE := hid he
      rw [he]
      clear he
      rcases hc with hc | ⟨hc, hc2⟩
      all_goals
        go_enter Tryd.func12, Tryd.ntmps12
        go_wp2_with (first
          | (go_at_call 24; with_reducible (refine (isWidth_any _ _).mono ?_); rintro e w2 ⟨rfl, rfl⟩)
          | (go_at_call 25; with_reducible (refine (num_var HR.out q j HF.out HI.out HE.out).mono ?_); rintro e w3 ⟨rfl, h3⟩; have h4 := h3.out.out; obtain ⟨nv4, mo4, P4, r4, f4⟩ := h4; have c4 := r4.out.cw hj; have f5 := r4.out.cf (3 + j)))
        go_ret2
        exact ⟨rfl, hid (H0.out _ _ _ _ HE.out r4.out f4.out)⟩
    · have HE := hid he
      rw [he]
      clear he
      rcases hc with hc | ⟨hc, hc2⟩
      all_goals
        go_enter Tryd.func12, Tryd.ntmps12
        go_wp2_with (first
          | (go_at_call 24; with_reducible (refine (isWidth_any _ _).mono ?_); rintro e w2 ⟨rfl, rfl⟩)
          | (go_at_call 25; with_reducible (refine (num_var HR.out q j HF.out HI.out HE.out).mono ?_); rintro e w3 ⟨rfl, h3⟩; have h4 := h3.out.out; obtain ⟨nv4, mo4, P4, r4, f4⟩ := h4))
        go_ret2
        exact ⟨rfl, hid (H8.out _ _ _ _ HE.out r4.out f4.out)⟩
  by_cases hx0 : x = 0
  · exact key (.inl hx0)
  by_cases hx1 : x = q
  · exact key (.inr hx1)
  refine tells (q := .inl (0, 2)) (by simp only [varP, hf, d1, hx]; simp [hx0, hx1]) ?_
  have e1 : (x != 0) = true := by simpa using hx0
  have e2 : (x != q) = true := by simpa using hx1
  clear key s r g hx d1
  go_enter Tryd.func12, Tryd.ntmps12
  go_wp2_with (go_at_call 24; with_reducible (refine (isWidth_any _ _).mono ?_); rintro e w2 ⟨rfl, rfl⟩)
  go_ret2
  exact ⟨rfl, hid (end_no HS.out (Below.refl _ _) 0 2)⟩

end Go.Proofs.YtefielnmlekhaaaDoor
