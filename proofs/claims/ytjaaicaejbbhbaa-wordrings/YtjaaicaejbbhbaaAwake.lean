/- The examples that each statement asks besides: they come out as the document has them. -/
import Derived.Test.YtjaaicaejbbhbaaCalls
namespace Go.Proofs.Ytjaaicaejbbhbaa
open Go.RowKit
set_option linter.unusedVariables false

theorem ex1 : binF 2 8 1 2 = 255 := by decide +kernel
theorem ex2 : binF 11 4 8 1 = 12 := by decide +kernel
theorem ex3 : binF 4 4 7 0 = 15 := by decide +kernel
theorem ex4 : binE 2 8 = 0 := by decide +kernel
theorem ex5 : binE 11 4 = 0 := by decide +kernel
theorem ex6 : binE 4 4 = 0 := by decide +kernel
theorem ex7 : binE 15 4 = 3 := by decide +kernel
theorem ex8 : unE 15 65 = 2 := by decide +kernel
theorem ex9 : unF 16 4 1 = 15 := by decide +kernel
theorem ex10 : unE 16 4 = 0 := by decide +kernel
theorem ex11 : sgnF 8 255 = -1 := by decide +kernel
theorem ex12 : mskF 3 = 7 := by decide +kernel
theorem ex13 : cutF 4 255 = 15 := by decide +kernel
theorem ex14 : mskF 64 = 18446744073709551615 := by decide +kernel

theorem awake_any (w : World) :
    Calls Try.prog 15 #[] w fun e w' => e = .returned (.bool true) ∧ w' = w := by
  have f1 := ex1; have f2 := ex2; have f3 := ex3; have f4 := ex4; have f5 := ex5; have f6 := ex6; have f7 := ex7
  have f8 := ex8; have f9 := ex9; have f10 := ex10; have f11 := ex11; have f12 := ex12; have f13 := ex13; have f14 := ex14
  go_enter Try.func15, Try.ntmps15
  go_wp2_with (first | (go_at_call 16; refine (binary_any _ _ _ _ _ (by decide) (by decide) (by decide) (by decide)).mono ?_; rintro e w' ⟨rfl, rfl⟩) | (go_at_call 18; refine (unary_any _ _ _ _ (by decide) (by decide)).mono ?_; rintro e w' ⟨rfl, rfl⟩) | (go_at_call 13; refine (signed_any _ _ _ (by decide) (by decide)).mono ?_; rintro e w' ⟨rfl, rfl⟩) | (go_at_call 9; refine (mask_any _ _).mono ?_; rintro e w' ⟨rfl, rfl⟩) | (go_at_call 11; refine (word_cut_any _ _ _ (by decide) (by decide)).mono ?_; rintro e w' ⟨rfl, rfl⟩))
  go_ret
  exact ⟨rfl, rfl⟩
end Go.Proofs.Ytjaaicaejbbhbaa
