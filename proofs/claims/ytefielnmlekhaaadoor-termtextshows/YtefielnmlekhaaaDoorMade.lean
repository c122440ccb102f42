/-
  One deed; the chapter's example.
-/
import Derived.Test.YtefielnmlekhaaaDoorMkC
import Derived.Test.YtefielnmlekhaaaDoorVar
namespace Go.Proofs.YtefielnmlekhaaaDoor
open Go.RowKit Go.Maps
set_option linter.unusedVariables false
set_option maxRecDepth 100000

theorem end_from {k : K} {w w1 w' : World} {N : List Nd} {P : Nat → Prop} {p : Plan} (b : Below w.heap.size w w1) (h : MkEnd k N P p w1 w') : MkEnd k N P p w w' := by
  obtain ⟨P', h1, h2⟩ := h
  exact ⟨P', h1, (Fr.below b).trans h2⟩

def dC (d : Dd) : Array Value := #[.int .i64 d.kd, .int .i64 d.w, .int .i64 d.a, .int .i64 d.b, .int .i64 d.c, .int .u64 d.x]

set_option maxHeartbeats 1000000 in
theorem made_any {k : K} {w : World} {N : List Nd} {P : Nat → Prop} (s : Dg k w N P) (d : Dd) (hd : DdFt d) :
    Calls Tryd.prog 17 #[.pointer (some ⟨k.DB, 0, none⟩), .agg #[.int .i64 d.kd, .int .i64 d.w, .int .i64 d.a, .int .i64 d.b, .int .i64 d.c, .int .u64 d.x]] w fun e w' => e = .returned (.tuple #[.int .i64 (resI k.M N (planD N d)), .int .i64 (resE k.M N (planD N d))]) ∧ Hid (MkEnd k N P (planD N d) w w') := by
  obtain ⟨hw, ha, hb, hc, hx⟩ := hd
  obtain ⟨kd, dw, da, db, dc, dx⟩ := d
  simp only [] at hw ha hb hc hx ⊢
  have HS := hid s
  clear s
  by_cases h0 : kd = 0
  · subst h0
    refine tells (q := constP dw dx) (by simp [planD]) ?_
    go_enter Tryd.func17, Tryd.ntmps17
    go_wp2_with (go_at_call 13; with_reducible (refine (const_any (HS.out.below (by go_grown)) dw dx hx.1 hx.2).mono ?_); rintro e w2 ⟨rfl, r2⟩)
    go_ret2
    exact ⟨rfl, hid (end_from (by go_grown) r2.out)⟩
  by_cases h1 : kd = 1
  · subst h1
    refine tells (q := varP N dw da) (by simp [planD]) ?_
    clear h0
    go_enter Tryd.func17, Tryd.ntmps17
    go_wp2_with (go_at_call 12; with_reducible (refine (var_any (HS.out.below (by go_grown)) dw da).mono ?_); rintro e w2 ⟨rfl, r2⟩)
    go_ret2
    exact ⟨rfl, hid (end_from (by go_grown) r2.out)⟩
  by_cases h2 : kd = 2
  · subst h2
    refine tells (q := unP N da db) (by simp [planD]) ?_
    clear h0 h1
    go_enter Tryd.func17, Tryd.ntmps17
    go_wp2_with (go_at_call 30; with_reducible (refine (unary_any (HS.out.below (by go_grown)) da db).mono ?_); rintro e w2 ⟨rfl, r2⟩)
    go_ret2
    exact ⟨rfl, hid (end_from (by go_grown) r2.out)⟩
  by_cases h3 : kd = 3
  · subst h3
    refine tells (q := binP N da db dc) (by simp [planD]) ?_
    clear h0 h1 h2
    go_enter Tryd.func17, Tryd.ntmps17
    go_wp2_with (go_at_call 14; with_reducible (refine (binary_any (HS.out.below (by go_grown)) da db dc).mono ?_); rintro e w2 ⟨rfl, r2⟩)
    go_ret2
    exact ⟨rfl, hid (end_from (by go_grown) r2.out)⟩
  by_cases h4 : kd = 4
  · subst h4
    refine tells (q := iteP N da db dc) (by simp [planD]) ?_
    clear h0 h1 h2 h3
    go_enter Tryd.func17, Tryd.ntmps17
    go_wp2_with (go_at_call 31; with_reducible (refine (ite_any (HS.out.below (by go_grown)) da db dc).mono ?_); rintro e w2 ⟨rfl, r2⟩)
    go_ret2
    exact ⟨rfl, hid (end_from (by go_grown) r2.out)⟩
  by_cases h5 : kd = 5
  · subst h5
    refine tells (q := extP N da db dw) (by simp [planD]) ?_
    clear h0 h1 h2 h3 h4
    go_enter Tryd.func17, Tryd.ntmps17
    go_wp2_with (go_at_call 15; with_reducible (refine (extract_any (HS.out.below (by go_grown)) da db dw (b64_of hb) (b64_of hw)).mono ?_); rintro e w2 ⟨rfl, r2⟩)
    go_ret2
    exact ⟨rfl, hid (end_from (by go_grown) r2.out)⟩
  by_cases h6 : kd = 6
  · subst h6
    refine tells (q := catP N da db) (by simp [planD]) ?_
    clear h0 h1 h2 h3 h4 h5
    go_enter Tryd.func17, Tryd.ntmps17
    go_wp2_with (go_at_call 32; with_reducible (refine (concat_any (HS.out.below (by go_grown)) da db).mono ?_); rintro e w2 ⟨rfl, r2⟩)
    go_ret2
    exact ⟨rfl, hid (end_from (by go_grown) r2.out)⟩
  refine tells (q := widP N da dw (oddB db)) (by simp [planD, h0, h1, h2, h3, h4, h5, h6]) ?_
  have k0 : (kd == 0) = false := by simpa using h0
  have k1 : (kd == 1) = false := by simpa using h1
  have k2 : (kd == 2) = false := by simpa using h2
  have k3 : (kd == 3) = false := by simpa using h3
  have k4 : (kd == 4) = false := by simpa using h4
  have k5 : (kd == 5) = false := by simpa using h5
  have k6 : (kd == 6) = false := by simpa using h6
  clear h0 h1 h2 h3 h4 h5 h6
  go_enter Tryd.func17, Tryd.ntmps17
  go_wp2_with (go_at_call 33; with_reducible (refine (extend_any (HS.out.below (by go_grown)) da dw _).mono ?_); rintro e w2 ⟨rfl, r2⟩)
  go_ret2
  exact ⟨rfl, hid (end_from (by go_grown) r2.out)⟩

end Go.Proofs.YtefielnmlekhaaaDoor
