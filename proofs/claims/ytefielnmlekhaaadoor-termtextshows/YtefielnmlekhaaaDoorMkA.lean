/-
  The calls that make terms: Const, Unary.
-/
import Derived.Test.YtefielnmlekhaaaDoorNum
namespace Go.Proofs.YtefielnmlekhaaaDoor
open Go.RowKit Go.Maps
set_option linter.unusedVariables false
set_option maxRecDepth 100000

def MkEnd (k : K) (N : List Nd) (P : Nat → Prop) (p : Plan) (w w' : World) : Prop := ∃ P', Dg k w' (resN k.M N p) P' ∧ Fr P P' w w'

theorem width_is {k : K} {w : World} {N : List Nd} {P : Nat → Prop} (s : Dg k w N P) (id : Int) {x : Int} (hx : wdF N id = x) : Calls Tryd.prog 28 #[.pointer (some ⟨k.DB, 0, none⟩), .int .i64 id] w fun e w' => e = .returned (.int .i64 x) ∧ Hid (Below w.heap.size w w') := by
  subst hx; exact width_any s id

theorem num_at {k : K} {w : World} {N : List Nd} {P : Nat → Prop} (s : Dg k w N P) (op wd a b c v : Int) (hf : Ft ⟨op, wd, a, b, c, v⟩) (ho : op ≠ 21) (hw : 1 ≤ wd ∧ wd ≤ 64) :
    Calls Tryd.prog 25 #[.pointer (some ⟨k.DB, 0, none⟩), .agg #[.int .i64 op, .int .i64 wd, .int .i64 a, .int .i64 b, .int .i64 c, .int .u64 v]] w fun e w' => e = .returned (.tuple #[.int .i64 (mkI k.M N ⟨op, wd, a, b, c, v⟩), .int .i64 (mkE k.M N ⟨op, wd, a, b, c, v⟩)]) ∧ Hid (∃ P', Dg k w' (mkN k.M N ⟨op, wd, a, b, c, v⟩) P' ∧ Fr P P' w w') :=
  num_dag s ⟨op, wd, a, b, c, v⟩ hf ho hw

theorem end_no {k : K} {w w' : World} {N : List Nd} {P : Nat → Prop} (s : Dg k w N P) (b : Below w.heap.size w w') (i e : Int) : MkEnd k N P (.inl (i, e)) w w' := ⟨P, s.below b, Fr.below b⟩
theorem end_yes {k : K} {w w1 w' : World} {N : List Nd} {P : Nat → Prop} {n : Nd} (b : Below w.heap.size w w1) (h : ∃ P', Dg k w' (mkN k.M N n) P' ∧ Fr P P' w1 w') : MkEnd k N P (.inr n) w w' := by
  obtain ⟨P', h1, h2⟩ := h
  exact ⟨P', h1, (Fr.below b).trans h2⟩
/-- What a call tells is told. -/
theorem tells {k : K} {N : List Nd} {P : Nat → Prop} {p q : Plan} {w : World} {f : FuncId} {args : Array Value} (hp : p = q) (h : Calls Tryd.prog f args w fun e w' => e = .returned (.tuple #[.int .i64 (resI k.M N q), .int .i64 (resE k.M N q)]) ∧ Hid (MkEnd k N P q w w')) :
    Calls Tryd.prog f args w fun e w' => e = .returned (.tuple #[.int .i64 (resI k.M N p), .int .i64 (resE k.M N p)]) ∧ Hid (MkEnd k N P p w w') := by rw [hp]; exact h

def B64 (x : Int) : Prop := -9223372036854775808 ≤ x ∧ x ≤ 9223372036854775807
theorem B64.out {x : Int} (h : B64 x) : -9223372036854775808 ≤ x ∧ x ≤ 9223372036854775807 := h
theorem b64_small {x : Int} (h0 : 0 ≤ x) (h1 : x ≤ 65536) : B64 x := ⟨by omega, by omega⟩
theorem b64_of {x : Int} (h : -9223372036854775808 ≤ x ∧ x ≤ 9223372036854775807) : B64 x := h
theorem u_zero : (0 : Int) ≤ 0 ∧ (0 : Int) < 18446744073709551616 := by omega
theorem b_zero : -9223372036854775808 ≤ (0 : Int) ∧ (0 : Int) ≤ 9223372036854775807 := by omega

theorem const_any {k : K} {w : World} {N : List Nd} {P : Nat → Prop} (s : Dg k w N P) (a x : Int) (x0 : 0 ≤ x) (x1 : x < 18446744073709551616) :
    Calls Tryd.prog 13 #[.pointer (some ⟨k.DB, 0, none⟩), .int .i64 a, .int .u64 x] w fun e w' => e = .returned (.tuple #[.int .i64 (resI k.M N (constP a x)), .int .i64 (resE k.M N (constP a x))]) ∧ Hid (MkEnd k N P (constP a x) w w') := by
  have HS := hid s
  cases hf : fitsB a
  · refine tells (q := .inl (0, 2)) (by simp [constP, hf]) ?_
    go_enter Tryd.func13, Tryd.ntmps13
    go_wp2_with (go_at_call 24; with_reducible (refine (isWidth_any _ _).mono ?_); rintro e w2 ⟨rfl, rfl⟩)
    go_ret2
    exact ⟨rfl, hid (end_no HS.out (Below.refl _ _) 0 2)⟩
  · refine tells (q := .inr ⟨20, a, 0, 0, 0, cutF a x⟩) (by simp [constP, hf]) ?_
    have hb := fits_bd hf
    have HF : Hid (Ft ⟨20, a, 0, 0, 0, cutF a x⟩) := hid ⟨by simp, ⟨by simp; omega, by simp; omega⟩, b_zero, b_zero, b_zero, cut_bd a x⟩
    have HB := hid hb
    clear s hb
    go_enter Tryd.func13, Tryd.ntmps13
    go_wp2_with (first
      | (go_at_call 24; with_reducible (refine (isWidth_any _ _).mono ?_); rintro e w2 ⟨rfl, rfl⟩)
      | (go_at_call 26; with_reducible (refine (cut_any _ _ _ x0 x1).mono ?_); rintro e w2 ⟨rfl, rfl⟩)
      | (go_at_call 25; with_reducible (refine (num_at HS.out 20 a 0 0 0 (cutF a x) HF.out (by decide) HB.out).mono ?_); rintro e w3 ⟨rfl, h3⟩))
    go_ret2
    exact ⟨rfl, hid (end_yes (Below.refl _ _) h3.out)⟩

theorem unary_any {k : K} {w : World} {N : List Nd} {P : Nat → Prop} (s : Dg k w N P) (op a : Int) :
    Calls Tryd.prog 30 #[.pointer (some ⟨k.DB, 0, none⟩), .int .i64 op, .int .i64 a] w fun e w' => e = .returned (.tuple #[.int .i64 (resI k.M N (unP N op a)), .int .i64 (resE k.M N (unP N op a))]) ∧ Hid (MkEnd k N P (unP N op a) w w') := by
  have HS := hid s
  have key : op = 15 ∨ op = 16 → Calls Tryd.prog 30 #[.pointer (some ⟨k.DB, 0, none⟩), .int .i64 op, .int .i64 a] w fun e w' => e = .returned (.tuple #[.int .i64 (resI k.M N (unP N op a)), .int .i64 (resE k.M N (unP N op a))]) ∧ Hid (MkEnd k N P (unP N op a) w w') := by
    intro h
    have e1 : ((op != 15) && (op != 16)) = false := by rcases h with rfl | rfl <;> rfl
    cases hi : isN N a
    · refine tells (q := .inl (0, 11)) (by simp only [unP, e1, hi]; rfl) ?_
      have HI := hid hi
      clear s hi e1
      rcases h with rfl | rfl
      all_goals
        go_enter Tryd.func30, Tryd.ntmps30
        go_wp2_with (go_at_call 27; with_reducible (refine (has1 (N := N) (len_any (HS.out.below (by go_grown))) _ a (by simp)).mono ?_); rintro e w2 ⟨rfl, rfl⟩; rw [HI.out])
        go_ret2
        exact ⟨rfl, hid (end_no HS.out (by go_grown) 0 11)⟩
    · refine tells (q := .inr ⟨op, wdF N a, a, 0, 0, 0⟩) (by simp only [unP, e1, hi]; rfl) ?_
      have hw := wdF_in s.1 hi
      have hl : (N.length : Int) ≤ 65536 := by obtain ⟨_, _, _, r⟩ := s; have := r.len; have := r.hM; omega
      have ha : 0 ≤ a ∧ a ≤ 65536 := by obtain ⟨i, rfl, hi⟩ := isN_yes hi; omega
      have HF : Hid (Ft ⟨op, wdF N a, a, 0, 0, 0⟩) := hid ⟨by rcases h with rfl | rfl <;> simp, ⟨by simp; omega, by simp; omega⟩, ⟨by simp; omega, by simp; omega⟩, b_zero, b_zero, u_zero⟩
      have HI := hid hi
      have HW := hid hw
      clear s hi e1 hl ha hw
      rcases h with rfl | rfl
      · go_enter Tryd.func30, Tryd.ntmps30
        go_wp2_with (first
          | (go_at_call 27; with_reducible (refine (has1 (N := N) (len_any (HS.out.below (by go_grown))) _ a (by simp)).mono ?_); rintro e w2 ⟨rfl, rfl⟩; rw [HI.out])
          | (go_at_call 28; with_reducible (refine (width_any (HS.out.below (by go_grown)) a).mono ?_); rintro e w3 ⟨rfl, b3⟩; have c3 := hid (Below.next (show Below w.heap.size w _ by go_grown) b3.out); have s3 := hid (HS.out.below c3.out))
          | (go_at_call 25; with_reducible (refine (num_at s3.out 15 (wdF N a) a 0 0 0 HF.out (by decide) HW.out).mono ?_); rintro e w4 ⟨rfl, h4⟩))
        go_ret2
        exact ⟨rfl, hid (end_yes c3.out h4.out)⟩
      · go_enter Tryd.func30, Tryd.ntmps30
        go_wp2_with (first
          | (go_at_call 27; with_reducible (refine (has1 (N := N) (len_any (HS.out.below (by go_grown))) _ a (by simp)).mono ?_); rintro e w2 ⟨rfl, rfl⟩; rw [HI.out])
          | (go_at_call 28; with_reducible (refine (width_any (HS.out.below (by go_grown)) a).mono ?_); rintro e w3 ⟨rfl, b3⟩; have c3 := hid (Below.next (show Below w.heap.size w _ by go_grown) b3.out); have s3 := hid (HS.out.below c3.out))
          | (go_at_call 25; with_reducible (refine (num_at s3.out 16 (wdF N a) a 0 0 0 HF.out (by decide) HW.out).mono ?_); rintro e w4 ⟨rfl, h4⟩))
        go_ret2
        exact ⟨rfl, hid (end_yes c3.out h4.out)⟩
  by_cases h : op = 15 ∨ op = 16
  · exact key h
  · have e1 : (op != 15) = true := by simp; omega
    have e2 : (op != 16) = true := by simp; omega
    refine tells (q := .inl (0, 3)) (by simp only [unP, e1, e2]; rfl) ?_
    clear s key h
    go_enter Tryd.func30, Tryd.ntmps30
    go_wp2
    go_ret2
    exact ⟨rfl, hid (end_no HS.out (Below.refl _ _) 0 3)⟩

end Go.Proofs.YtefielnmlekhaaaDoor
