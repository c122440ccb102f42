/-
  awake: the chapter's examples, and others.
-/
import Derived.Test.YtefielnmlekhaaaDoorRz
namespace Go.Proofs.YtefielnmlekhaaaDoor
open Go.RowKit Go.Maps
set_option linter.unusedVariables false
set_option maxRecDepth 100000

theorem new_nine (w : World) : Calls Tryd.prog 11 #[.int .i64 9] w fun e w' => ∃ k : K, e = .returned (.pointer (some ⟨k.DB, 0, none⟩)) ∧ Hid (k.M = 9) ∧ Hid (k.B = w.heap.size) ∧ Hid (Dg k w' [] (fun j => j = k.DB)) ∧ Hid (Below w.heap.size w w') := new_at 9 w

def bL1 : List Nd := [⟨21, 8, 0, 0, 0, 0⟩]
def bL2 : List Nd := [⟨21, 8, 0, 0, 0, 0⟩, ⟨20, 8, 0, 0, 0, 1⟩]
def bL3 : List Nd := [⟨21, 8, 0, 0, 0, 0⟩, ⟨20, 8, 0, 0, 0, 1⟩, ⟨1, 8, 0, 1, 0, 0⟩]
def bL4 : List Nd := [⟨21, 8, 0, 0, 0, 0⟩, ⟨20, 8, 0, 0, 0, 1⟩, ⟨1, 8, 0, 1, 0, 0⟩, ⟨23, 4, 0, 4, 0, 0⟩]
theorem aw0i : resI 9 [] (varP [] 8 0) = 0 := by kernel_rfl
theorem aw0e : resE 9 [] (varP [] 8 0) = 0 := by kernel_rfl
theorem aw0n : resN 9 [] (varP [] 8 0) = bL1 := by kernel_rfl
theorem aw1i : resI 9 bL1 (constP 8 1) = 1 := by kernel_rfl
theorem aw1e : resE 9 bL1 (constP 8 1) = 0 := by kernel_rfl
theorem aw1n : resN 9 bL1 (constP 8 1) = bL2 := by kernel_rfl
theorem aw2i : resI 9 bL2 (binP bL2 1 0 1) = 2 := by kernel_rfl
theorem aw2e : resE 9 bL2 (binP bL2 1 0 1) = 0 := by kernel_rfl
theorem aw2n : resN 9 bL2 (binP bL2 1 0 1) = bL3 := by kernel_rfl
theorem aw3i : resI 9 bL3 (extP bL3 0 4 4) = 3 := by kernel_rfl
theorem aw3e : resE 9 bL3 (extP bL3 0 4 4) = 0 := by kernel_rfl
theorem aw3n : resN 9 bL3 (extP bL3 0 4 4) = bL4 := by kernel_rfl
theorem aw_wl : Wl bL4 := by
  have h := (((Wl.nil.made 9 ⟨1, 8, 0, 0, 0, 0⟩).made 9 ⟨0, 8, 0, 0, 0, 1⟩).made 9 ⟨3, 0, 1, 0, 1, 0⟩).made 9 ⟨5, 4, 0, 4, 0, 0⟩
  have e1 : resN 9 [] (planD [] ⟨1, 8, 0, 0, 0, 0⟩) = bL1 := by kernel_rfl
  have e2 : resN 9 bL1 (planD bL1 ⟨0, 8, 0, 0, 0, 1⟩) = bL2 := by kernel_rfl
  have e3 : resN 9 bL2 (planD bL2 ⟨3, 0, 1, 0, 1, 0⟩) = bL3 := by kernel_rfl
  have e4 : resN 9 bL3 (planD bL3 ⟨5, 4, 0, 4, 0, 0⟩) = bL4 := by kernel_rfl
  rw [e1, e2, e3, e4] at h
  exact h

theorem dg0 : dgs 0 = [48] := by rw [dgs_small (by omega) (by omega)]; rfl
theorem dg1 : dgs 1 = [49] := by rw [dgs_small (by omega) (by omega)]; rfl
theorem dg4 : dgs 4 = [52] := by rw [dgs_small (by omega) (by omega)]; rfl
theorem dg8 : dgs 8 = [56] := by rw [dgs_small (by omega) (by omega)]; rfl

theorem bt0 : nodeT ⟨21, 8, 0, 0, 0, 0⟩ [] = [120, 48, 58, 56] := by simp [nodeT, dg0, dg8]
theorem bt1 : nodeT ⟨20, 8, 0, 0, 0, 1⟩ [] = [49, 58, 56] := by simp [nodeT, dg1, dg8]
theorem bt2 : nodeT ⟨1, 8, 0, 1, 0, 0⟩ [[120, 48, 58, 56], [49, 58, 56]] = [40, 97, 100, 100, 32, 120, 48, 58, 56, 32, 49, 58, 56, 41] := by
  have e : headF ⟨1, 8, 0, 1, 0, 0⟩ = [40, 97, 100, 100] := by simp [headF, numsF, wordF, wdsL]
  simp [nodeT, e]
theorem bt3 : nodeT ⟨23, 4, 0, 4, 0, 0⟩ [[120, 48, 58, 56]] = [40, 101, 120, 116, 32, 52, 32, 52, 32, 120, 48, 58, 56, 41] := by
  have e : headF ⟨23, 4, 0, 4, 0, 0⟩ = [40, 101, 120, 116, 32, 52, 32, 52] := by simp [headF, numsF, wordF, wdsL, dg4]
  simp [nodeT, e]
theorem bts : textsF bL4 4 = [[120, 48, 58, 56], [49, 58, 56], [40, 97, 100, 100, 32, 120, 48, 58, 56, 32, 49, 58, 56, 41], [40, 101, 120, 116, 32, 52, 32, 52, 32, 120, 48, 58, 56, 41]] := by
  have n0 : ndA bL4 ((0 : Nat) : Int) = ⟨21, 8, 0, 0, 0, 0⟩ := by kernel_rfl
  have n1 : ndA bL4 ((1 : Nat) : Int) = ⟨20, 8, 0, 0, 0, 1⟩ := by kernel_rfl
  have n2 : ndA bL4 ((2 : Nat) : Int) = ⟨1, 8, 0, 1, 0, 0⟩ := by kernel_rfl
  have n3 : ndA bL4 ((3 : Nat) : Int) = ⟨23, 4, 0, 4, 0, 0⟩ := by kernel_rfl
  have k0 : ksF ⟨21, 8, 0, 0, 0, 0⟩ = [] := by kernel_rfl
  have k1 : ksF ⟨20, 8, 0, 0, 0, 1⟩ = [] := by kernel_rfl
  have k2 : ksF ⟨1, 8, 0, 1, 0, 0⟩ = [0, 1] := by kernel_rfl
  have k3 : ksF ⟨23, 4, 0, 4, 0, 0⟩ = [0] := by kernel_rfl
  have t1 : textsF bL4 1 = [[120, 48, 58, 56]] := by
    show textsF bL4 0 ++ [nodeT (ndA bL4 ((0 : Nat) : Int)) _] = _
    rw [n0, k0]; simp [textsF, bt0]
  have t2 : textsF bL4 2 = [[120, 48, 58, 56], [49, 58, 56]] := by
    show textsF bL4 1 ++ [nodeT (ndA bL4 ((1 : Nat) : Int)) _] = _
    rw [n1, k1, t1]; simp [bt1]
  have t3 : textsF bL4 3 = [[120, 48, 58, 56], [49, 58, 56], [40, 97, 100, 100, 32, 120, 48, 58, 56, 32, 49, 58, 56, 41]] := by
    show textsF bL4 2 ++ [nodeT (ndA bL4 ((2 : Nat) : Int)) _] = _
    rw [n2, k2, t2]; simp [gtT, bt2]
  show textsF bL4 3 ++ [nodeT (ndA bL4 ((3 : Nat) : Int)) _] = _
  rw [n3, k3, t3]; simp [gtT, bt3]
theorem bx2 : TX bL4 2 = [40, 97, 100, 100, 32, 120, 48, 58, 56, 32, 49, 58, 56, 41] := by
  show gtT (textsF bL4 4) 2 = _
  rw [bts]; rfl
theorem bx3 : TX bL4 3 = [40, 101, 120, 116, 32, 52, 32, 52, 32, 120, 48, 58, 56, 41] := by
  show gtT (textsF bL4 4) 3 = _
  rw [bts]; rfl
theorem bi2 : isN bL4 2 = true := by kernel_rfl
theorem bi3 : isN bL4 3 = true := by kernel_rfl
theorem bi7 : isN bL4 7 = false := by kernel_rfl
theorem as2 : shS bL4 2 = [40, 97, 100, 100, 32, 120, 48, 58, 56, 32, 49, 58, 56, 41] ∧ shE bL4 2 = 0 := by simp [shS, shE, bi2, bx2]
theorem as3 : shS bL4 3 = [40, 101, 120, 116, 32, 52, 32, 52, 32, 120, 48, 58, 56, 41] ∧ shE bL4 3 = 0 := by simp [shS, shE, bi3, bx3]
theorem as7 : shS bL4 7 = [] ∧ shE bL4 7 = 11 := by simp [shS, shE, bi7]

theorem show_is {k : K} {w : World} {x y : Addr} {N : List Nd} {P : Nat → Prop} (hE : Env w x y) (hD : Dg k w N P) (r : Wl N) (i : Int) {S : List UInt8} {E : Int} (h : shS N i = S ∧ shE N i = E) :
    Calls Tryd.prog 7 #[.pointer (some ⟨k.DB, 0, none⟩), .int .i64 i] w fun e w' => e = .returned (.tuple #[.string ⟨S.toArray⟩, .int .i64 E]) ∧ Hid (Below w.heap.size w w') := by
  rw [← h.1, ← h.2]
  exact show_any hE hD r i
theorem word_is {x y : Addr} {op : Int} {w : World} (hE : Env w x y) {S : List UInt8} (h : wordF op = S) : Calls Tryd.prog 9 #[.int .i64 op] w fun e w' => e = .returned (.string ⟨S.toArray⟩) ∧ w' = w := by
  rw [← h]
  exact word_any op w hE
theorem w16 : wordF 16 = [110, 101, 103] := by kernel_rfl
theorem w20 : wordF 20 = [] := by kernel_rfl
theorem w26 : wordF 26 = [115, 101, 120, 116] := by kernel_rfl

set_option maxHeartbeats 8000000 in
theorem awake_any {x y : Addr} (w : World) (hE : Env w x y) : Calls Tryd.prog 5 #[] w fun e w' => e = .returned (.bool true) ∧ Hid (Below w.heap.size w w') := by
  have HE := hid hE
  clear hE
  go_enter Tryd.func5, Tryd.ntmps5
  go_wp2_with (first
    | (go_at_call 11; with_reducible (refine (new_nine _).mono ?_); rintro e w1 ⟨k, rfl, hM, hB, s0, b1⟩)
    | (go_at_call 12; with_reducible (refine (mk_is (var_any s0.out 8 0) (M := 9) hM.out aw0i aw0e aw0n).mono ?_); rintro e v0 ⟨P0, rfl, s1, f0⟩)
    | (go_at_call 13; with_reducible (refine (mk_is (const_any s1.out 8 1 (by omega) (by omega)) (M := 9) hM.out aw1i aw1e aw1n).mono ?_); rintro e v1 ⟨P1, rfl, s2, f1⟩)
    | (go_at_call 14; with_reducible (refine (mk_is (binary_any s2.out 1 0 1) (M := 9) hM.out aw2i aw2e aw2n).mono ?_); rintro e v2 ⟨P2, rfl, s3, f2⟩)
    | (go_at_call 15; with_reducible (refine (mk_is (extract_any s3.out 0 4 4 (b64_small (by omega) (by omega)) (b64_small (by omega) (by omega))) (M := 9) hM.out aw3i aw3e aw3n).mono ?_); rintro e v3 ⟨P3, rfl, s4, f3⟩; have B4 := hid (Fr.from s0.out (Fr.trans (Fr.trans (Fr.trans f0.out f1.out) f2.out) f3.out) hB.out b1.out); have E4 := hid (HE.out.keep B4.out))
    | (go_at_call 7; with_reducible (refine (show_is E4.out s4.out aw_wl 2 as2).mono ?_); rintro e v4 ⟨rfl, b5⟩; have s5 := hid (s4.out.below b5.out); have E5 := hid (E4.out.keep b5.out); have B5 := hid (Below.next B4.out b5.out))
    | (go_at_call 7; with_reducible (refine (show_is E5.out s5.out aw_wl 3 as3).mono ?_); rintro e v5 ⟨rfl, b6⟩; have s6 := hid (s5.out.below b6.out); have E6 := hid (E5.out.keep b6.out); have B6 := hid (Below.next B5.out b6.out))
    | (go_at_call 7; with_reducible (refine (show_is E6.out s6.out aw_wl 7 as7).mono ?_); rintro e v6 ⟨rfl, b7⟩; have E7 := hid (E6.out.keep b7.out); have B7 := hid (Below.next B6.out b7.out))
    | (go_at_call 9; with_reducible (refine (word_is E7.out w16).mono ?_); rintro e v7 ⟨rfl, rfl⟩)
    | (go_at_call 9; with_reducible (refine (word_is E7.out w20).mono ?_); rintro e v7 ⟨rfl, rfl⟩)
    | (go_at_call 9; with_reducible (refine (word_is E7.out w26).mono ?_); rintro e v7 ⟨rfl, rfl⟩))
  go_ret
  exact ⟨rfl, B7⟩

end Go.Proofs.YtefielnmlekhaaaDoor
