/-
  awake: the chapter's example, and others.
-/
import Derived.Test.YtbekgejbgmdbdaaVw
namespace Go.Proofs.Ytbekgejbgmdbdaa
open Go.RowKit Go.Maps
set_option linter.unusedVariables false
set_option maxRecDepth 20000

theorem new_nine (w : World) : Calls Try.prog 17 #[.int .i64 9] w fun e w' => ∃ k : K, e = .returned (.pointer (some ⟨k.DB, 0, none⟩)) ∧ Hid (k.M = 9) ∧ Hid (k.B = w.heap.size) ∧ Hid (Dg k w' [] (fun j => j = k.DB)) ∧ Hid (Below w.heap.size w w') := new_at 9 w

theorem aw0i : resI 9 [] (varP [] 8 1) = 0 := by kernel_rfl
theorem aw0e : resE 9 [] (varP [] 8 1) = 0 := by kernel_rfl
theorem aw0n : resN 9 [] (varP [] 8 1) = [⟨21, 8, 1, 0, 0, 0⟩] := by kernel_rfl
theorem aw1i : resI 9 [⟨21, 8, 1, 0, 0, 0⟩] (constP 8 1) = 1 := by kernel_rfl
theorem aw1e : resE 9 [⟨21, 8, 1, 0, 0, 0⟩] (constP 8 1) = 0 := by kernel_rfl
theorem aw1n : resN 9 [⟨21, 8, 1, 0, 0, 0⟩] (constP 8 1) = [⟨21, 8, 1, 0, 0, 0⟩, ⟨20, 8, 0, 0, 0, 1⟩] := by kernel_rfl
theorem aw2i : resI 9 [⟨21, 8, 1, 0, 0, 0⟩, ⟨20, 8, 0, 0, 0, 1⟩] (binP [⟨21, 8, 1, 0, 0, 0⟩, ⟨20, 8, 0, 0, 0, 1⟩] 1 0 1) = 2 := by kernel_rfl
theorem aw2e : resE 9 [⟨21, 8, 1, 0, 0, 0⟩, ⟨20, 8, 0, 0, 0, 1⟩] (binP [⟨21, 8, 1, 0, 0, 0⟩, ⟨20, 8, 0, 0, 0, 1⟩] 1 0 1) = 0 := by kernel_rfl
theorem aw2n : resN 9 [⟨21, 8, 1, 0, 0, 0⟩, ⟨20, 8, 0, 0, 0, 1⟩] (binP [⟨21, 8, 1, 0, 0, 0⟩, ⟨20, 8, 0, 0, 0, 1⟩] 1 0 1) = [⟨21, 8, 1, 0, 0, 0⟩, ⟨20, 8, 0, 0, 0, 1⟩, ⟨1, 8, 0, 1, 0, 0⟩] := by kernel_rfl
theorem aw3i : resI 9 [⟨21, 8, 1, 0, 0, 0⟩, ⟨20, 8, 0, 0, 0, 1⟩, ⟨1, 8, 0, 1, 0, 0⟩] (catP [⟨21, 8, 1, 0, 0, 0⟩, ⟨20, 8, 0, 0, 0, 1⟩, ⟨1, 8, 0, 1, 0, 0⟩] 2 0) = 3 := by kernel_rfl
theorem aw3e : resE 9 [⟨21, 8, 1, 0, 0, 0⟩, ⟨20, 8, 0, 0, 0, 1⟩, ⟨1, 8, 0, 1, 0, 0⟩] (catP [⟨21, 8, 1, 0, 0, 0⟩, ⟨20, 8, 0, 0, 0, 1⟩, ⟨1, 8, 0, 1, 0, 0⟩] 2 0) = 0 := by kernel_rfl
def aN : List Nd := [⟨21, 8, 1, 0, 0, 0⟩, ⟨20, 8, 0, 0, 0, 1⟩, ⟨1, 8, 0, 1, 0, 0⟩, ⟨24, 16, 2, 0, 0, 0⟩]
theorem aw3n : resN 9 [⟨21, 8, 1, 0, 0, 0⟩, ⟨20, 8, 0, 0, 0, 1⟩, ⟨1, 8, 0, 1, 0, 0⟩] (catP [⟨21, 8, 1, 0, 0, 0⟩, ⟨20, 8, 0, 0, 0, 1⟩, ⟨1, 8, 0, 1, 0, 0⟩] 2 0) = aN := by kernel_rfl

theorem aN_wl : Wl aN := by
  have h1 := Wl.nil.made 9 ⟨1, 8, 1, 0, 0, 0⟩
  rw [show resN 9 [] (planD [] ⟨1, 8, 1, 0, 0, 0⟩) = [⟨21, 8, 1, 0, 0, 0⟩] from aw0n] at h1
  have h2 := h1.made 9 ⟨0, 8, 0, 0, 0, 1⟩
  rw [show resN 9 [⟨21, 8, 1, 0, 0, 0⟩] (planD [⟨21, 8, 1, 0, 0, 0⟩] ⟨0, 8, 0, 0, 0, 1⟩) = _ from aw1n] at h2
  have h3 := h2.made 9 ⟨3, 0, 1, 0, 1, 0⟩
  rw [show resN 9 [⟨21, 8, 1, 0, 0, 0⟩, ⟨20, 8, 0, 0, 0, 1⟩] (planD [⟨21, 8, 1, 0, 0, 0⟩, ⟨20, 8, 0, 0, 0, 1⟩] ⟨3, 0, 1, 0, 1, 0⟩) = _ from aw2n] at h3
  have h4 := h3.made 9 ⟨6, 0, 2, 0, 0, 0⟩
  rw [show resN 9 [⟨21, 8, 1, 0, 0, 0⟩, ⟨20, 8, 0, 0, 0, 1⟩, ⟨1, 8, 0, 1, 0, 0⟩] (planD [⟨21, 8, 1, 0, 0, 0⟩, ⟨20, 8, 0, 0, 0, 1⟩, ⟨1, 8, 0, 1, 0, 0⟩] ⟨6, 0, 2, 0, 0, 0⟩) = _ from aw3n] at h4
  exact h4

theorem aN_a : vF aN [0, 255] (2 : Nat) = 0 := by decide +kernel
theorem aN_b : vF aN [0, 1] (3 : Nat) = 513 := by decide +kernel
theorem aN_c : vF aN [] (0 : Nat) = 0 := by decide +kernel
theorem aN_d : isN aN 9 = false := by decide +kernel
theorem aN_e : isN aN (-1) = false := by decide +kernel
theorem k3 : ksF (ndA aN (3 : Nat)) = [2, 0] := by decide +kernel
theorem k2 : ksF (ndA aN (2 : Nat)) = [0, 1] := by decide +kernel
theorem k1 : ksF (ndA aN (1 : Nat)) = [] := by decide +kernel
theorem k0 : ksF (ndA aN (0 : Nat)) = [] := by decide +kernel

theorem aN_bel : BelL aN 3 [3, 2, 0, 1] := by
  refine ⟨by decide, fun j => ⟨fun h => ?_, fun h => ?_⟩⟩
  · have r3 := Rch.refl aN 3
    have r2 : Rch aN 3 2 := r3.step (k := 2) (by rw [k3]; simp)
    have r0 : Rch aN 3 0 := r3.step (k := 0) (by rw [k3]; simp)
    have r1 : Rch aN 3 1 := r2.step (k := 1) (by rw [k2]; simp)
    simp at h
    rcases h with rfl | rfl | rfl | rfl
    · exact r3
    · exact r2
    · exact r0
    · exact r1
  · refine h (fun m => m ∈ [3, 2, 0, 1]) (by simp) fun m hm k hk => ?_
    simp at hm
    rcases hm with rfl | rfl | rfl | rfl
    · rw [k3] at hk; simp at hk; rcases hk with rfl | rfl <;> simp
    · rw [k2] at hk; simp at hk; rcases hk with rfl | rfl <;> simp
    · rw [k0] at hk; simp at hk
    · rw [k1] at hk; simp at hk

theorem aN_var : VarL aN 3 [1] := by
  refine ⟨by simp, fun a => ⟨fun h => ?_, ?_⟩⟩
  · simp at h; subst h
    exact ⟨0, (aN_bel.2 0).1 (by simp), by decide +kernel, by decide +kernel⟩
  · rintro ⟨j, h1, h2, rfl⟩
    have := (aN_bel.2 j).2 h1
    simp at this
    rcases this with rfl | rfl | rfl | rfl
    · exact absurd h2 (by decide +kernel)
    · exact absurd h2 (by decide +kernel)
    · decide +kernel
    · exact absurd h2 (by decide +kernel)

section
variable {k : K} {w : World} {P : Nat → Prop} {a : Option Addr} {cap : Nat}
theorem us_two (w : World) (x y : Int) (hx : Wd64 x) (hy : Wd64 y) {g : Nat} (hg : g = w.heap.size) : Us (w.alloc (.cells #[.int .u64 x, .int .u64 y] 32)) (some ⟨g, 0, none⟩) 2 [x, y] := by
  subst hg
  refine ⟨rfl, fun z hz => ?_, fun _ => ⟨_, 0, rfl, fun j hj => ?_⟩⟩
  · simp at hz; rcases hz with rfl | rfl
    · exact hx
    · exact hy
  · rw [cell_of (new_same _ _)]
    have : j = 0 ∨ j = 1 := by omega
    rcases this with rfl | rfl <;> rfl
theorem wd0 : Wd64 0 := ⟨by omega, by omega⟩
theorem wd1 : Wd64 1 := ⟨by omega, by omega⟩
theorem wd255 : Wd64 255 := ⟨by omega, by omega⟩
theorem us_none (w : World) : Us w none 0 [] := ⟨rfl, fun z hz => by simp at hz, fun h => by omega⟩

theorem aw_val_a (s : Dg k w aN P) (hE : Us w a 2 [0, 255]) : Calls Try.prog 8 #[.pointer (some ⟨k.DB, 0, none⟩), .int .i64 2, .slice a 2 cap] w fun e w' => e = .returned (.tuple #[.int .u64 0, .int .i64 0]) ∧ Hid (Below w.heap.size w w') := value_yes s aN_wl (by decide) hE 2 (by decide) aN_a
theorem aw_val_b (s : Dg k w aN P) (hE : Us w a 2 [0, 1]) : Calls Try.prog 8 #[.pointer (some ⟨k.DB, 0, none⟩), .int .i64 3, .slice a 2 cap] w fun e w' => e = .returned (.tuple #[.int .u64 513, .int .i64 0]) ∧ Hid (Below w.heap.size w w') := value_yes s aN_wl (by decide) hE 3 (by decide) aN_b
theorem aw_val_c (s : Dg k w aN P) : Calls Try.prog 8 #[.pointer (some ⟨k.DB, 0, none⟩), .int .i64 0, .slice none 0 0] w fun e w' => e = .returned (.tuple #[.int .u64 0, .int .i64 0]) ∧ Hid (Below w.heap.size w w') := value_yes s aN_wl (by decide) (us_none w) 0 (by decide) aN_c
theorem aw_val_d (s : Dg k w aN P) : Calls Try.prog 8 #[.pointer (some ⟨k.DB, 0, none⟩), .int .i64 9, .slice none 0 0] w fun e w' => e = .returned (.tuple #[.int .u64 0, .int .i64 11]) ∧ Hid (Below w.heap.size w w') := value_no s 9 aN_d (by decide) (by decide)
theorem aw_vars (s : Dg k w aN P) : Calls Try.prog 10 #[.pointer (some ⟨k.DB, 0, none⟩), .int .i64 3] w fun e w' => ∃ ao c, e = .returned (.slice ao 1 c) ∧ Hid (Ls.Row w' ao 1 c [1]) ∧ Hid (Below w.heap.size w w') := vars_any s aN_wl (by decide) 3 (by decide) aN_var
theorem aw_size (s : Dg k w aN P) : Calls Try.prog 12 #[.pointer (some ⟨k.DB, 0, none⟩), .int .i64 3] w fun e w' => e = .returned (.int .i64 4) ∧ Hid (Below w.heap.size w w') := size_yes s aN_wl (by decide) 3 (by decide) aN_bel rfl
theorem aw_none (s : Dg k w aN P) : Calls Try.prog 12 #[.pointer (some ⟨k.DB, 0, none⟩), .int .i64 (-1)] w fun e w' => e = .returned (.int .i64 0) ∧ Hid (Below w.heap.size w w') := size_no s (-1) aN_e
theorem aw_same {ao : Option Addr} {c g : Nat} (h : Ls.Row w ao 1 c [1]) (hg : g = w.heap.size) : Calls Try.prog 9 #[.slice ao 1 c, .slice (some ⟨g, 0, none⟩) 1 1] (w.alloc (.cells #[.int .i64 1] 3)) fun e w' => e = .returned (.bool true) ∧ Hid (Below w.heap.size w w') := by
  subst hg
  refine (Ls.same_any ao _ 1 1 c 1 [1] [1] _ (h.keep (new_b _ _)) (Ls.row_one w 1 (by decide) (by decide))).mono fun e w' hh => ?_
  exact ⟨hh.1, hid (Below.next (new_b w _) hh.2)⟩
end

set_option maxHeartbeats 4000000 in
set_option maxRecDepth 100000 in
theorem awake_any (w : World) : Calls Try.prog 5 #[] w fun e w' => e = .returned (.bool true) ∧ Hid (Below w.heap.size w w') := by
  go_enter Try.func5, Try.ntmps5
  go_wp2_with (first
    | (go_at_call 17; with_reducible (refine (new_nine _).mono ?_); rintro e w1 ⟨k, rfl, hM, hB, s0, b1⟩)
    | (go_at_call 18; with_reducible (refine (mk_is (var_any s0.out 8 1) (M := 9) hM.out aw0i aw0e aw0n).mono ?_); rintro e v0 ⟨P0, rfl, s1, f1⟩)
    | (go_at_call 19; with_reducible (refine (mk_is (const_any s1.out 8 1 (by omega) (by omega)) (M := 9) hM.out aw1i aw1e aw1n).mono ?_); rintro e v1 ⟨P1, rfl, s2, f2⟩)
    | (go_at_call 20; with_reducible (refine (mk_is (binary_any s2.out 1 0 1) (M := 9) hM.out aw2i aw2e aw2n).mono ?_); rintro e v2 ⟨P2, rfl, s3, f3⟩)
    | (go_at_call 21; with_reducible (refine (mk_is (concat_any s3.out 2 0) (M := 9) hM.out aw3i aw3e aw3n).mono ?_); rintro e v3 ⟨P3, rfl, s4, f4⟩)
    | (go_at_call 8; with_reducible (refine (aw_val_a (s4.out.below (new_b _ _)) (us_two _ 0 255 wd0 wd255 rfl)).mono ?_); rintro e x1 ⟨rfl, c1⟩; have t1 := hid (s4.out.below (Below.next (new_b _ _) c1.out)); have d1 := hid (Below.next (new_b _ _) c1.out))
    | (go_at_call 8; with_reducible (refine (aw_val_b (t1.out.below (new_b _ _)) (us_two _ 0 1 wd0 wd1 rfl)).mono ?_); rintro e x2 ⟨rfl, c2⟩; have t2 := hid (t1.out.below (Below.next (new_b _ _) c2.out)); have d2 := hid (Below.next d1.out (Below.next (new_b _ _) c2.out)))
    | (go_at_call 8; with_reducible (refine (aw_val_c t2.out).mono ?_); rintro e x3 ⟨rfl, c3⟩; have t3 := hid (t2.out.below c3.out))
    | (go_at_call 8; with_reducible (refine (aw_val_d t3.out).mono ?_); rintro e x4 ⟨rfl, c4⟩; have t4 := hid (t3.out.below c4.out))
    | (go_at_call 10; with_reducible (refine (aw_vars t4.out).mono ?_); rintro e x5 ⟨ao, c, rfl, r5, c5⟩; have t5 := hid (t4.out.below c5.out))
    | (go_at_call 9; with_reducible (refine (aw_same r5.out rfl).mono ?_); rintro e x6 ⟨rfl, c6⟩; have t6 := hid (t5.out.below c6.out))
    | (go_at_call 12; with_reducible (refine (aw_size t6.out).mono ?_); rintro e x7 ⟨rfl, c7⟩; have t7 := hid (t6.out.below c7.out))
    | (go_at_call 12; with_reducible (refine (aw_none t7.out).mono ?_); rintro e x8 ⟨rfl, c8⟩))
  go_ret
  exact ⟨rfl, hid (Below.next (Fr.from s0.out (((f1.out.trans f2.out).trans f3.out).trans f4.out) hB.out b1.out) (Below.next d2.out (Below.next c3.out (Below.next c4.out (Below.next c5.out (Below.next c6.out (Below.next c7.out c8.out)))))))⟩

end Go.Proofs.Ytbekgejbgmdbdaa
