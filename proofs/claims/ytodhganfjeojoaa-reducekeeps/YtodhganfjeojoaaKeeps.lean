/-
  Which of two is better, and which are kept, as the document says: the walk.
-/
import Derived.Test.YtodhganfjeojoaaRkeep
import Derived.Test.YtodhganfjeojoaaAwake
namespace Go.Proofs.Ytodhganfjeojoaa
open Go.RowKit Go.Sort
set_option linter.unusedVariables false

set_option maxHeartbeats 4000000 in
theorem keeps_walk (ao : Option Addr) (n cap : Nat) (D : Nat → Dd) (w : World) (h : Deeds w ao n D) :
    Calls Try.prog 3 #[.slice ao n cap] w fun e w' => e = .returned (.bool true) ∧ Below w.heap.size w w' := by
  have HD := hid h
  clear h
  by_cases hn : n ≤ 100
  · have hn' : ¬ (100 : Int) < (n : Int) := by omega
    go_enter Try.func3, Try.ntmps3
    go_wp2_with fail
    go_loopw [3] (fun i wr => ∃ k : Nat, k ≤ n ∧ i = .int .i64 ((k : Int) + 1) ∧ Hid (Below w.heap.size w wr)) (fun i _ => n + 1 - (intOf i).toNat)
    case atStart => exact ⟨0, Nat.zero_le _, rfl, hid (Below.refl _ _)⟩
    case round =>
      obtain ⟨k, hk, rfl, hb⟩ := hrel
      by_cases hlt : k + 1 < n
      · obtain ⟨b, off, rfl, KC⟩ := two_here (HD.out.below hb.out) (show k < n by omega) hlt
        have KQ := hid (six_grown KC.out)
        obtain ⟨dk, ek⟩ : ∃ d, D k = d := ⟨_, rfl⟩
        obtain ⟨dl, el⟩ : ∃ d, D (k + 1) = d := ⟨_, rfl⟩
        rw [ek, el] at KQ
        have y0 := KQ.out.1
        have y1 := KQ.out.2.1
        have y2 := KQ.out.2.2.1
        have z0 := KQ.out.2.2.2.1
        have z1 := KQ.out.2.2.2.2.1
        have z2 := KQ.out.2.2.2.2.2
        have hx : (btr dk dl != btr dk dl) = false := by simp
        have hl1 : (k : Int) + 1 < (n : Int) := by omega
        clear ek el KC
        go_wp2_with fail
        refine wp_region_quiet_grown (by kernel_rfl) (by kernel_rfl) ?_
        repeat (go_big_quiet_step (first
          | (go_at_call 6; exact Calls.grown_of (better_is dk dl _))
          | (go_at_call 7; exact Calls.grown_of (rbetter_is dk dl _ rfl))
          | fail))
        refine wpQuiet_nil ?_
        intro _ hw
        obtain ⟨⟨nq, osq⟩, hw2⟩ := hw
        subst hw2
        go_wp2_with fail
        go_roundw
        all_goals first | exact ⟨k + 1, by omega, by go_num, hid (Below.next hb.out (Gr.below ⟨nq, osq, rfl⟩))⟩ | (simp [intOf]; omega)
      · have hl1 : ¬ (k : Int) + 1 < (n : Int) := by omega
        have HK := hid (HD.out.below hb.out)
        go_wp2_with (first
          | (go_at_call 9; with_reducible (refine (keep_is HK.out hn).mono ?_); rintro e w2 ⟨g2, rfl, hB2, b2⟩; have HK2 := hid (HK.out.below b2.out))
          | (go_at_call 10; with_reducible (refine (rkeep_is HK2.out hn).mono ?_); rintro e w3 ⟨g3, rfl, hB3, b3⟩; have hB4 := hid (hB2.out.below b3.out))
          | (go_at_call 8; with_reducible (refine (bools_same g2 g3 n n n (keepF n D) _ hB4.out hB3.out hn).mono ?_); rintro e w4 ⟨rfl, b4⟩)
          | (go_at_call 5; with_reducible (refine (awake_is _).mono ?_); rintro e w5 ⟨rfl, b5⟩))
        go_ret
        exact ⟨rfl, Below.next (Below.next (Below.next (Below.next hb.out b2.out) b3.out) b4.out) b5.out⟩
  · have hn' : (100 : Int) < (n : Int) := by omega
    go_enter Try.func3, Try.ntmps3
    go_wp2_with (go_at_call 5; with_reducible (refine (awake_is _).mono ?_); rintro e w5 ⟨rfl, b5⟩)
    go_ret
    exact ⟨rfl, b5.out⟩

end Go.Proofs.Ytodhganfjeojoaa
