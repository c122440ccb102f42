/-
  awake: the chapter's example, and others.
-/
import Derived.Test.YtamiifgdpdfjnaaFs
import Derived.Test.YtamiifgdpdfjnaaFe
namespace Go.Proofs.Ytamiifgdpdfjnaa
open Go.RowKit Go.Maps
set_option linter.unusedVariables false
set_option maxRecDepth 100000

theorem new_many (w : World) : Calls Try.prog 13 #[.int .i64 99] w fun e w' => ∃ k : K, e = .returned (.pointer (some ⟨k.DB, 0, none⟩)) ∧ Hid (k.M = 99) ∧ Hid (k.B = w.heap.size) ∧ Hid (Dg k w' [] (fun j => j = k.DB)) ∧ Hid (Below w.heap.size w w') := new_at 99 w

def aL1 : List Nd := [⟨20, 8, 0, 0, 0, 2⟩]
def aL2 : List Nd := [⟨20, 8, 0, 0, 0, 2⟩, ⟨20, 8, 0, 0, 0, 3⟩]
def aL3 : List Nd := [⟨20, 8, 0, 0, 0, 2⟩, ⟨20, 8, 0, 0, 0, 3⟩, ⟨20, 8, 0, 0, 0, 0⟩]
def aL4 : List Nd := [⟨20, 8, 0, 0, 0, 2⟩, ⟨20, 8, 0, 0, 0, 3⟩, ⟨20, 8, 0, 0, 0, 0⟩, ⟨21, 8, 0, 0, 0, 0⟩]
def aL5 : List Nd := [⟨20, 8, 0, 0, 0, 2⟩, ⟨20, 8, 0, 0, 0, 3⟩, ⟨20, 8, 0, 0, 0, 0⟩, ⟨21, 8, 0, 0, 0, 0⟩, ⟨20, 8, 0, 0, 0, 5⟩]
def aL6 : List Nd := [⟨20, 8, 0, 0, 0, 2⟩, ⟨20, 8, 0, 0, 0, 3⟩, ⟨20, 8, 0, 0, 0, 0⟩, ⟨21, 8, 0, 0, 0, 0⟩, ⟨20, 8, 0, 0, 0, 5⟩, ⟨15, 8, 3, 0, 0, 0⟩]
theorem aw0i : resI 99 [] (constP 8 2) = 0 := by kernel_rfl
theorem aw0e : resE 99 [] (constP 8 2) = 0 := by kernel_rfl
theorem aw0n : resN 99 [] (constP 8 2) = aL1 := by kernel_rfl
theorem aw1i : resI 99 aL1 (constP 8 3) = 1 := by kernel_rfl
theorem aw1e : resE 99 aL1 (constP 8 3) = 0 := by kernel_rfl
theorem aw1n : resN 99 aL1 (constP 8 3) = aL2 := by kernel_rfl
theorem aw2i : resI 99 aL2 (constP 8 0) = 2 := by kernel_rfl
theorem aw2e : resE 99 aL2 (constP 8 0) = 0 := by kernel_rfl
theorem aw2n : resN 99 aL2 (constP 8 0) = aL3 := by kernel_rfl
theorem aw3i : resI 99 aL3 (varP aL3 8 0) = 3 := by kernel_rfl
theorem aw3e : resE 99 aL3 (varP aL3 8 0) = 0 := by kernel_rfl
theorem aw3n : resN 99 aL3 (varP aL3 8 0) = aL4 := by kernel_rfl
theorem aw4i : resI 99 aL4 (fbinP aL4 1 0 1) = 4 := by kernel_rfl
theorem aw4e : resE 99 aL4 (fbinP aL4 1 0 1) = 0 := by kernel_rfl
theorem aw4n : resN 99 aL4 (fbinP aL4 1 0 1) = aL5 := by kernel_rfl
theorem kv4 : conV aL5 4 = 5 := by kernel_rfl
theorem kb4 : conB aL5 4 = true := by kernel_rfl
theorem kv3 : conV aL5 3 = 0 := by kernel_rfl
theorem kb3 : conB aL5 3 = false := by kernel_rfl
theorem aw5i : resI 99 aL5 (fbinP aL5 1 3 2) = 3 := by kernel_rfl
theorem aw5e : resE 99 aL5 (fbinP aL5 1 3 2) = 0 := by kernel_rfl
theorem aw5n : resN 99 aL5 (fbinP aL5 1 3 2) = aL5 := by kernel_rfl
theorem aw6i : resI 99 aL5 (fbinP aL5 2 3 3) = 2 := by kernel_rfl
theorem aw6e : resE 99 aL5 (fbinP aL5 2 3 3) = 0 := by kernel_rfl
theorem aw6n : resN 99 aL5 (fbinP aL5 2 3 3) = aL5 := by kernel_rfl
theorem aw7i : resI 99 aL5 (funP aL5 15 3) = 5 := by kernel_rfl
theorem aw7e : resE 99 aL5 (funP aL5 15 3) = 0 := by kernel_rfl
theorem aw7n : resN 99 aL5 (funP aL5 15 3) = aL6 := by kernel_rfl
theorem aw8i : resI 99 aL6 (funP aL6 15 5) = 3 := by kernel_rfl
theorem aw8e : resE 99 aL6 (funP aL6 15 5) = 0 := by kernel_rfl
theorem aw8n : resN 99 aL6 (funP aL6 15 5) = aL6 := by kernel_rfl
theorem aw9i : resI 99 aL6 (fbinP aL6 1 3 98) = 0 := by kernel_rfl
theorem aw9e : resE 99 aL6 (fbinP aL6 1 3 98) = 11 := by kernel_rfl
theorem aw9n : resN 99 aL6 (fbinP aL6 1 3 98) = aL6 := by kernel_rfl

set_option maxHeartbeats 4000000 in
theorem awake_any (w : World) : Calls Try.prog 4 #[] w fun e w' => e = .returned (.bool true) ∧ Hid (Below w.heap.size w w') := by
  go_enter Try.func4, Try.ntmps4
  go_wp2_with (first
    | (go_at_call 13; with_reducible (refine (new_many _).mono ?_); rintro e w1 ⟨k, rfl, hM, hB, s0, b1⟩)
    | (go_at_call 7; with_reducible (refine (mk_is (const_any s0.out 8 2 (by omega) (by omega)) (M := 99) hM.out aw0i aw0e aw0n).mono ?_); rintro e v0 ⟨P0, rfl, s1, f0⟩)
    | (go_at_call 7; with_reducible (refine (mk_is (const_any s1.out 8 3 (by omega) (by omega)) (M := 99) hM.out aw1i aw1e aw1n).mono ?_); rintro e v1 ⟨P1, rfl, s2, f1⟩)
    | (go_at_call 7; with_reducible (refine (mk_is (const_any s2.out 8 0 (by omega) (by omega)) (M := 99) hM.out aw2i aw2e aw2n).mono ?_); rintro e v2 ⟨P2, rfl, s3, f2⟩)
    | (go_at_call 14; with_reducible (refine (mk_is (var_any s3.out 8 0) (M := 99) hM.out aw3i aw3e aw3n).mono ?_); rintro e v3 ⟨P3, rfl, s4, f3⟩)
    | (go_at_call 8; with_reducible (refine (mk_is (fbin_any s4.out 1 0 1) (M := 99) hM.out aw4i aw4e aw4n).mono ?_); rintro e v4 ⟨P4, rfl, s5, f4⟩)
    | (go_at_call 9; with_reducible (refine (known_is s5.out 4 kv4 kb4).mono ?_); rintro e x4 ⟨rfl, c4⟩; have t4 := hid (s5.out.below c4.out))
    | (go_at_call 9; with_reducible (refine (known_is t4.out 3 kv3 kb3).mono ?_); rintro e x3 ⟨rfl, c3⟩; have t3 := hid (t4.out.below c3.out))
    | (go_at_call 8; with_reducible (refine (mk_is (fbin_any t3.out 1 3 2) (M := 99) hM.out aw5i aw5e aw5n).mono ?_); rintro e v5 ⟨P5, rfl, s6, f5⟩)
    | (go_at_call 8; with_reducible (refine (mk_is (fbin_any s6.out 2 3 3) (M := 99) hM.out aw6i aw6e aw6n).mono ?_); rintro e v6 ⟨P6, rfl, s7, f6⟩)
    | (go_at_call 11; with_reducible (refine (mk_is (funary_any s7.out 15 3) (M := 99) hM.out aw7i aw7e aw7n).mono ?_); rintro e v7 ⟨P7, rfl, s8, f7⟩)
    | (go_at_call 11; with_reducible (refine (mk_is (funary_any s8.out 15 5) (M := 99) hM.out aw8i aw8e aw8n).mono ?_); rintro e v8 ⟨P8, rfl, s9, f8⟩)
    | (go_at_call 8; with_reducible (refine (mk_is (fbin_any s9.out 1 3 98) (M := 99) hM.out aw9i aw9e aw9n).mono ?_); rintro e v9 ⟨P9, rfl, s10, f9⟩))
  go_ret
  exact ⟨rfl, hid (Fr.from s0.out (Fr.trans (Fr.trans (Fr.trans (Fr.trans (Fr.trans (Fr.trans (Fr.trans (Fr.trans (Fr.trans (Fr.trans (Fr.trans f0.out f1.out) f2.out) f3.out) f4.out) (Fr.below c4.out)) (Fr.below c3.out)) f5.out) f6.out) f7.out) f8.out) f9.out) hB.out b1.out)⟩

end Go.Proofs.Ytamiifgdpdfjnaa
