/-
  awake: the chapter's example, and others.
-/
import Derived.Test.YtbddhjohlpblaaaDoC
namespace Go.Proofs.Ytbddhjohlpblaaa
open Go.RowKit
set_option linter.unusedVariables false

theorem new_at (n : Int) (w : World) : Calls Try.prog 7 #[.int .i64 n] w fun e w' => ∃ k : K, e = .returned (.pointer (some ⟨k.OB, 0, none⟩)) ∧ Hid (Ord k w' (zeros (cntF n)) (nones (cntF n)) (.slice none 0 0)) ∧ Hid (k.n = cntF n) ∧ Hid (k.B = w.heap.size) ∧ Hid (Below w.heap.size w w') := by
  refine (new_any n w).mono fun e w' h => ?_
  obtain ⟨OB, rfl, k, rfl, h1, h2, h3, h4⟩ := h
  rw [h2] at h3
  exact ⟨k, rfl, h3, h2, h1, h4⟩

section
variable {k : K} {w : World} {A : List Int} {W : List Bool} {wv : Value}

theorem push_is (o : Ord k w A W wv) (v : Int) {b : Bool} {W' : List Bool} (hb : pushA k.n W v = b) (hW : pushW k.n W v = W') : Calls Try.prog 17 #[.pointer (some ⟨k.OB, 0, none⟩), .int .i64 v] w fun e w' => ∃ wv', e = .returned (.bool b) ∧ Hid (Ord k w' A W' wv') ∧ Hid (Fr k wv wv' w w') := by
  refine (push_any o v).mono fun e w' h => ?_
  obtain ⟨rfl, wv', h1, h2⟩ := h
  rw [hW] at h1
  exact ⟨wv', by rw [hb], h1, h2⟩

theorem pop_is (o : Ord k w A W wv) {x : Int} {b : Bool} {W' : List Bool} (hx : popV A W = x) (hb : popA A W = b) (hW : popW A W = W') : Calls Try.prog 15 #[.pointer (some ⟨k.OB, 0, none⟩)] w fun e w' => ∃ wv', e = .returned (.tuple #[.int .i64 x, .bool b]) ∧ Hid (Ord k w' A W' wv') ∧ Hid (Fr k wv wv' w w') := by
  refine (pop_any o).mono fun e w' h => ?_
  obtain ⟨rfl, wv', h1, h2⟩ := h
  rw [hW] at h1
  exact ⟨wv', by rw [hx, hb], h1, h2⟩

theorem bump_is (o : Ord k w A W wv) (v d : Int) {b : Bool} {A' : List Int} (hb : isF k.n v = b) (hA : bumpF A v d = A') : Calls Try.prog 18 #[.pointer (some ⟨k.OB, 0, none⟩), .int .i64 v, .int .i64 d] w fun e w' => e = .returned (.bool b) ∧ Hid (Ord k w' A' W wv) ∧ Hid (Fr k wv wv w w') := by
  refine (bump_any o v d).mono fun e w' h => ?_
  obtain ⟨rfl, h1, h2⟩ := h
  rw [hA] at h1
  exact ⟨by rw [hb], h1, h2⟩

theorem halve_is (o : Ord k w A W wv) {A' : List Int} (hA : halveF A = A') : Calls Try.prog 16 #[.pointer (some ⟨k.OB, 0, none⟩)] w fun e w' => e = .returned (.tuple #[]) ∧ Hid (Ord k w' A' W wv) ∧ Hid (Fr k wv wv w w') := by
  refine (halve_any o).mono fun e w' h => ?_
  obtain ⟨rfl, h1, h2⟩ := h
  rw [hA] at h1
  exact ⟨rfl, h1, h2⟩

theorem len_is (o : Ord k w A W wv) {x : Int} (hx : (W.count true : Int) = x) : Calls Try.prog 11 #[.pointer (some ⟨k.OB, 0, none⟩)] w fun e w' => e = .returned (.int .i64 x) ∧ w' = w := by
  obtain ⟨hs, ⟨P, s, p⟩, hp, g⟩ := o
  refine (len_any s).mono fun e w' h => ?_
  obtain ⟨rfl, rfl⟩ := h
  exact ⟨by rw [← hx, g.cn], rfl⟩

def hasF (n : Nat) (W : List Bool) (v : Int) : Bool := isF n v && wt W v
def actF (n : Nat) (A : List Int) (v : Int) : Int := if isF n v then ac A v else 0

theorem has_is (o : Ord k w A W wv) (v : Int) {b : Bool} (hb : hasF k.n W v = b) : Calls Try.prog 13 #[.pointer (some ⟨k.OB, 0, none⟩), .int .i64 v] w fun e w' => e = .returned (.bool b) ∧ w' = w := by
  obtain ⟨hs, ⟨P, s, p⟩, hp, g⟩ := o
  subst hb
  cases hi : isF k.n v
  · simpa [hasF, hi] using has_no s v hi
  · obtain ⟨u, rfl, hu⟩ := isF_yes hi
    refine (has_yes s u hu).mono fun e w' h => ?_
    obtain ⟨rfl, rfl⟩ := h
    refine ⟨?_, rfl⟩
    congr 2
    rw [Bool.eq_iff_iff]
    simp only [hasF, hi, Bool.true_and, decide_eq_true_eq]
    rw [g.wr u hu, pl_in p hu]

theorem act_is (o : Ord k w A W wv) (v : Int) {x : Int} (hx : actF k.n A v = x) : Calls Try.prog 14 #[.pointer (some ⟨k.OB, 0, none⟩), .int .i64 v] w fun e w' => e = .returned (.int .i64 x) ∧ w' = w := by
  obtain ⟨hs, ⟨P, s, p⟩, hp, g⟩ := o
  subst hx
  cases hi : isF k.n v
  · simpa [actF, hi] using act_no s v hi
  · obtain ⟨u, rfl, hu⟩ := isF_yes hi
    refine (act_yes s u hu).mono fun e w' h => ?_
    obtain ⟨rfl, rfl⟩ := h
    refine ⟨?_, rfl⟩
    simp [actF, hi, ac]
end

theorem Fr.from {k : K} {w w1 w' : World} {A : List Int} {W : List Bool} {wv wv' : Value} (o : Ord k w1 A W wv) (f : Fr k wv wv' w1 w') (hB : k.B = w.heap.size) (b : Below w.heap.size w w1) : Below w.heap.size w w' := by
  obtain ⟨hs, ⟨P, s, p⟩, hp, g⟩ := o
  have h1 := b.size
  have := Fr.be s f (by omega)
  rw [hB] at this
  exact b.trans this

theorem new_three (w : World) : Calls Try.prog 7 #[.int .i64 3] w fun e w' => ∃ k : K, e = .returned (.pointer (some ⟨k.OB, 0, none⟩)) ∧ Hid (Ord k w' [0, 0, 0] [false, false, false] (.slice none 0 0)) ∧ Hid (k.n = 3) ∧ Hid (k.B = w.heap.size) ∧ Hid (Below w.heap.size w w') := by
  refine (new_at 3 w).mono fun e w' h => ?_
  obtain ⟨k, rfl, h1, h2, h3, h4⟩ := h
  exact ⟨k, rfl, h1, h2, h3, h4⟩

theorem aw1 : pushA 3 [false, false, false] 0 = true := by decide
theorem aw2 : pushW 3 [false, false, false] 0 = [true, false, false] := by decide
theorem aw3 : pushA 3 [true, false, false] 1 = true := by decide
theorem aw4 : pushW 3 [true, false, false] 1 = [true, true, false] := by decide
theorem aw5 : pushA 3 [true, true, false] 1 = false := by decide
theorem aw6 : pushW 3 [true, true, false] 1 = [true, true, false] := by decide
theorem aw7 : isF 3 1 = true := by decide
theorem aw8 : bumpF [0, 0, 0] 1 1 = [0, 1, 0] := by decide
theorem aw9 : popV [0, 1, 0] [true, true, false] = 1 := by decide
theorem aw10 : popA [0, 1, 0] [true, true, false] = true := by decide
theorem aw11 : popW [0, 1, 0] [true, true, false] = [true, false, false] := by decide
theorem aw12 : popV [0, 1, 0] [true, false, false] = 0 := by decide
theorem aw13 : popA [0, 1, 0] [true, false, false] = true := by decide
theorem aw14 : popW [0, 1, 0] [true, false, false] = [false, false, false] := by decide
theorem aw15 : popV [0, 1, 0] [false, false, false] = -1 := by decide
theorem aw16 : popA [0, 1, 0] [false, false, false] = false := by decide
theorem aw17 : popW [0, 1, 0] [false, false, false] = [false, false, false] := by decide
theorem aw18 : isF 3 2 = true := by decide
theorem aw19 : bumpF [0, 1, 0] 2 5 = [0, 1, 5] := by decide
theorem aw20 : halveF [0, 1, 5] = [0, 0, 2] := by decide
theorem aw21 : actF 3 [0, 0, 2] 2 = 2 := by decide
theorem aw22 : actF 3 [0, 0, 2] 9 = 0 := by decide
theorem aw23 : isF 3 3 = false := by decide
theorem aw24 : bumpF [0, 0, 2] 3 1 = [0, 0, 2] := by decide
theorem aw25 : ((([false, false, false] : List Bool).count true : Nat) : Int) = 0 := by decide
theorem aw26 : hasF 3 [false, false, false] 0 = false := by decide

set_option maxHeartbeats 2000000 in
theorem awake_any (w : World) : Calls Try.prog 6 #[] w fun e w' => e = .returned (.bool true) ∧ Below w.heap.size w w' := by
  go_enter Try.func6, Try.ntmps6
  go_wp2_with (first
    | (go_at_call 7; with_reducible (refine (new_three _).mono ?_); rintro e w1 ⟨k, rfl, o1, hn, hB, b1⟩; have hk := Hid.out hn)
    | (go_at_call 17; with_reducible (refine (push_is o1.out 0 (b := true) (W' := [true, false, false]) (by rw [hk]; exact aw1) (by rw [hk]; exact aw2)).mono ?_); rintro e w2 ⟨v2, rfl, o2, f2⟩)
    | (go_at_call 17; with_reducible (refine (push_is o2.out 1 (b := true) (W' := [true, true, false]) (by rw [hk]; exact aw3) (by rw [hk]; exact aw4)).mono ?_); rintro e w3 ⟨v3, rfl, o3, f3⟩)
    | (go_at_call 17; with_reducible (refine (push_is o3.out 1 (b := false) (W' := [true, true, false]) (by rw [hk]; exact aw5) (by rw [hk]; exact aw6)).mono ?_); rintro e w4 ⟨v4, rfl, o4, f4⟩)
    | (go_at_call 18; with_reducible (refine (bump_is o4.out 1 1 (b := true) (A' := [0, 1, 0]) (by rw [hk]; exact aw7) aw8).mono ?_); rintro e w5 ⟨rfl, o5, f5⟩)
    | (go_at_call 15; with_reducible (refine (pop_is o5.out (x := 1) (b := true) (W' := [true, false, false]) aw9 aw10 aw11).mono ?_); rintro e w6 ⟨v6, rfl, o6, f6⟩)
    | (go_at_call 15; with_reducible (refine (pop_is o6.out (x := 0) (b := true) (W' := [false, false, false]) aw12 aw13 aw14).mono ?_); rintro e w7 ⟨v7, rfl, o7, f7⟩)
    | (go_at_call 15; with_reducible (refine (pop_is o7.out (x := -1) (b := false) (W' := [false, false, false]) aw15 aw16 aw17).mono ?_); rintro e w8 ⟨v8, rfl, o8, f8⟩)
    | (go_at_call 18; with_reducible (refine (bump_is o8.out 2 5 (b := true) (A' := [0, 1, 5]) (by rw [hk]; exact aw18) aw19).mono ?_); rintro e w9 ⟨rfl, o9, f9⟩)
    | (go_at_call 16; with_reducible (refine (halve_is o9.out (A' := [0, 0, 2]) aw20).mono ?_); rintro e w10 ⟨rfl, o10, f10⟩)
    | (go_at_call 14; with_reducible (refine (act_is o10.out 2 (x := 2) (by rw [hk]; exact aw21)).mono ?_); rintro e w ⟨rfl, rfl⟩)
    | (go_at_call 14; with_reducible (refine (act_is o10.out 9 (x := 0) (by rw [hk]; exact aw22)).mono ?_); rintro e w ⟨rfl, rfl⟩)
    | (go_at_call 18; with_reducible (refine (bump_is o10.out 3 1 (b := false) (A' := [0, 0, 2]) (by rw [hk]; exact aw23) aw24).mono ?_); rintro e w11 ⟨rfl, o11, f11⟩)
    | (go_at_call 11; with_reducible (refine (len_is o11.out (x := 0) aw25).mono ?_); rintro e w ⟨rfl, rfl⟩)
    | (go_at_call 13; with_reducible (refine (has_is o11.out 0 (b := false) (by rw [hk]; exact aw26)).mono ?_); rintro e w ⟨rfl, rfl⟩))
  go_ret
  exact ⟨rfl, Fr.from o1.out ((((((((((f2.out.trans f3.out).trans f4.out).trans f5.out).trans f6.out).trans f7.out).trans f8.out).trans f9.out).trans f10.out).trans f11.out)) hB.out b1.out⟩

end Go.Proofs.Ytbddhjohlpblaaa
