/-
  The document's Read.
-/
import Derived.Test.YtdhkabppcdnfeaaDoorRguess
import Derived.Test.YtdhkabppcdnfeaaDoorFewest
namespace Go.Proofs.YtdhkabppcdnfeaaDoor
open Go.RowKit
open Go.Lib (decDigits itoa)
set_option linter.unusedVariables false

theorem grid0 (w : World) : Grid w none 0 0 [] := ⟨rfl, Nat.le_refl _, by unfold maxLen; omega, fun _ => rfl, fun h => by omega⟩

theorem guess_ok (s : List UInt8) (v : Int) (l : List (List Int)) (w : World) (hs : s.length ≤ 3000) (hg : guessP s = some (v, l)) :
    Calls Tryd.prog 22 #[.string ⟨s.toArray⟩] w fun e w' => ∃ ao cap, e = .returned (.tuple #[.int .i64 v, .slice ao l.length cap, .bool true]) ∧ Hid (Grid w' ao l.length cap l) ∧ Hid (Below w.heap.size w w') ∧ Hid (l.length ≤ 3000 ∧ ∀ c ∈ l, c.length ≤ 3001) := by
  refine (guess_all s w hs).mono fun e w' he => ?_
  rcases he with ⟨v', l', e1, ao, cap, e2, h2, h3, h4, h5, _⟩ | ⟨e1, _⟩
  · rw [hg] at e1
    simp only [Option.some.injEq, Prod.mk.injEq] at e1
    obtain ⟨rfl, rfl⟩ := e1
    exact ⟨ao, cap, e2, h2, h3, h4, h5⟩
  · rw [hg] at e1; cases e1

theorem guess_bad (s : List UInt8) (w : World) (hs : s.length ≤ 3000) (hg : guessP s = none) :
    Calls Tryd.prog 22 #[.string ⟨s.toArray⟩] w fun e w' => e = .returned (.tuple #[.int .i64 0, .slice none 0 0, .bool false]) ∧ Hid (Below w.heap.size w w') := by
  refine (guess_all s w hs).mono fun e w' he => ?_
  rcases he with ⟨v', l', e1, _⟩ | ⟨_, e2, h3⟩
  · rw [hg] at e1; cases e1
  · exact ⟨e2, h3⟩

theorem long_text {v : Nat} {l : List (List Int)} (hl : l.length ≤ 3000 ∧ ∀ c ∈ l, c.length ≤ 3001) (hf : ∀ c ∈ l, Fit c) (hv : v ≤ 1048576) : (textT v l).length ≤ 100000000000 := by
  have := text_bound (N := 3000) (M := 3001) hf hl.2 hl.1 (by omega) hv
  omega

set_option maxHeartbeats 4000000 in
theorem rRead_ok (s : List UInt8) (v : Nat) (l : List (List Int)) (w : World) (hs : s.length ≤ 3000) (hr : readP s = some (v, l)) :
    Calls Tryd.prog 11 #[.string ⟨s.toArray⟩] w fun e w' => ∃ ao cap, e = .returned (.tuple #[.int .i64 v, .slice ao l.length cap, .int .i64 0]) ∧ Hid (Grid w' ao l.length cap l) ∧ Hid (Below w.heap.size w w') := by
  obtain ⟨hg, e⟩ := readP_some hr
  have HS := hid hs
  have HG : Hid (guessP s = some ((v : Int), l)) := by show _ = _; rw [e]; exact guess_text hg
  have HC := hid (chk_of_good hg)
  have HE := hid e
  have HL : Hid ((textT v l).length ≤ 100000000000) := by show _ ≤ _; rw [← e]; omega
  have put : ∀ (ao : Option Addr) (cap : Nat) (W : World), Grid W ao l.length cap l → Calls Tryd.prog 9 #[.int .i64 v, .slice ao l.length cap] W fun e w' => e = .returned (.tuple #[.string ⟨s.toArray⟩, .int .i64 0]) ∧ Hid (Below W.heap.size W w') := fun ao cap W h =>
    (rPut_ok v ao l.length cap l W h HC.out HL.out).mono fun e w' ⟨h1, h2⟩ => ⟨by rw [h1, ← HE.out], h2⟩
  have PU := hid put
  clear put hr e hg hs
  go_enter Tryd.func11, Tryd.ntmps11
  go_wp2_with (first
    | (go_at_call 22; with_reducible (refine (guess_ok s v l _ HS.out HG.out).mono ?_); rintro e w1 ⟨ao, cap, rfl, hg1, hb1, _⟩)
    | (go_at_call 9; with_reducible (refine (PU.out ao cap _ hg1.out).mono ?_); rintro e w2 ⟨rfl, hb2⟩))
  go_ret3
  exact ⟨ao, cap, rfl, hg1.out.keep hb2.out, Below.next hb1.out hb2.out⟩

set_option maxHeartbeats 4000000 in
theorem rRead_bad (s : List UInt8) (w : World) (hs : s.length ≤ 3000) (hr : readP s = none) :
    Calls Tryd.prog 11 #[.string ⟨s.toArray⟩] w fun e w' => e = .returned (.tuple #[.int .i64 0, .slice none 0 0, .int .i64 7]) ∧ Hid (Below w.heap.size w w') := by
  have HS := hid hs
  rcases hg : guessP s with _ | ⟨v, l⟩
  · have HG := hid hg
    clear hg hs hr
    go_enter Tryd.func11, Tryd.ntmps11
    go_wp2_with (go_at_call 22; with_reducible (refine (guess_bad s _ HS.out HG.out).mono ?_); rintro e w1 ⟨rfl, hb1⟩)
    go_ret3
    exact ⟨rfl, hb1⟩
  have HG := hid hg
  by_cases hc : chkF v l = 0
  · obtain ⟨v0, v1, _, _⟩ := chk_split hc
    obtain ⟨n, rfl⟩ := Int.eq_ofNat_of_zero_le v0
    have hne : (textT n l == s) = false := by
      rw [beq_eq_false_iff_ne]
      rintro rfl
      rw [readP_text (good_of_chk hc)] at hr; cases hr
    have HC := hid hc
    have hv : n ≤ 1048576 := by omega
    clear hc v0 v1 hg hs hr
    go_enter Tryd.func11, Tryd.ntmps11
    go_wp2_with (first
      | (go_at_call 22; with_reducible (refine (guess_ok s n l _ HS.out HG.out).mono ?_); rintro e w1 ⟨ao, cap, rfl, hg1, hb1, hl1⟩)
      | (go_at_call 9; with_reducible (refine (rPut_ok n ao l.length cap l _ hg1.out HC.out (long_text hl1.out hg1.out.fits hv)).mono ?_); rintro e w2 ⟨rfl, hb2⟩))
    go_ret3
    exact ⟨rfl, Below.next hb1.out hb2.out⟩
  · have hc' : (chkF v l != 0) = true := by simpa using hc
    have HC := hid hc
    clear hc hg hs hr
    go_enter Tryd.func11, Tryd.ntmps11
    go_wp2_with (first
      | (go_at_call 22; with_reducible (refine (guess_ok s v l _ HS.out HG.out).mono ?_); rintro e w1 ⟨ao, cap, rfl, hg1, hb1, hl1⟩)
      | (go_at_call 9; with_reducible (refine (rPut_bad v ao l.length cap l _ hg1.out HC.out).mono ?_); rintro e w2 ⟨rfl, hb2⟩))
    go_ret3
    exact ⟨rfl, Below.next hb1.out hb2.out⟩

end Go.Proofs.YtdhkabppcdnfeaaDoor
