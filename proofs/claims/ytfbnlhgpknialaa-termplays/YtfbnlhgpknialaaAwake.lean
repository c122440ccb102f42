/-
  awake: the chapter's example, and others.
-/
import Derived.Test.YtfbnlhgpknialaaMkC
import Derived.Test.YtfbnlhgpknialaaVar
namespace Go.Proofs.Ytfbnlhgpknialaa
open Go.RowKit Go.Maps
set_option linter.unusedVariables false

theorem mk_is {k : K} {w : World} {N : List Nd} {P : Nat → Prop} {p : Plan} {f : FuncId} {args : Array Value} (h : Calls Try.prog f args w fun e w' => e = .returned (.tuple #[.int .i64 (resI k.M N p), .int .i64 (resE k.M N p)]) ∧ Hid (MkEnd k N P p w w')) {M : Nat} (hM : k.M = M) {I E : Int} {N' : List Nd} (hI : resI M N p = I) (hE : resE M N p = E) (hN : resN M N p = N') :
    Calls Try.prog f args w fun e w' => ∃ P', e = .returned (.tuple #[.int .i64 I, .int .i64 E]) ∧ Hid (Dg k w' N' P') ∧ Hid (Fr P P' w w') := by
  subst hM hI hE hN
  refine h.mono fun e w' h => ?_
  obtain ⟨rfl, h⟩ := h
  obtain ⟨P', h1, h2⟩ := h.out
  exact ⟨P', rfl, h1, h2⟩

theorem new_at (n : Int) (w : World) : Calls Try.prog 12 #[.int .i64 n] w fun e w' => ∃ k : K, e = .returned (.pointer (some ⟨k.DB, 0, none⟩)) ∧ Hid (k.M = cntF n) ∧ Hid (k.B = w.heap.size) ∧ Hid (Dg k w' [] (fun j => j = k.DB)) ∧ Hid (Below w.heap.size w w') := by
  refine (new_any n w).mono fun e w' h => ?_
  obtain ⟨OB, rfl, h⟩ := h
  obtain ⟨rfl, h1, h2⟩ := h.out
  exact ⟨⟨w.heap.size, w.heap.size, cntF n⟩, rfl, hid rfl, hid rfl, h1, h2⟩

theorem new_five (w : World) : Calls Try.prog 12 #[.int .i64 5] w fun e w' => ∃ k : K, e = .returned (.pointer (some ⟨k.DB, 0, none⟩)) ∧ Hid (k.M = 5) ∧ Hid (k.B = w.heap.size) ∧ Hid (Dg k w' [] (fun j => j = k.DB)) ∧ Hid (Below w.heap.size w w') := new_at 5 w

theorem Fr.from {k : K} {w w1 w' : World} {N : List Nd} {P P' : Nat → Prop} (s : Dg k w1 N P) (f : Fr P P' w1 w') (hB : k.B = w.heap.size) (b : Below w.heap.size w w1) : Below w.heap.size w w' := by
  have h1 := b.size
  have := f.be (B := k.B) (fun j hj => (s.bd hj).1) (by omega)
  rw [hB] at this
  exact b.trans this

theorem aw0i : resI 5 [] (constP 8 300) = 0 := by kernel_rfl
theorem aw0e : resE 5 [] (constP 8 300) = 0 := by kernel_rfl
theorem aw0n : resN 5 [] (constP 8 300) = [⟨20, 8, 0, 0, 0, 44⟩] := by kernel_rfl
theorem aw1i : resI 5 [⟨20, 8, 0, 0, 0, 44⟩] (constP 8 44) = 0 := by kernel_rfl
theorem aw1e : resE 5 [⟨20, 8, 0, 0, 0, 44⟩] (constP 8 44) = 0 := by kernel_rfl
theorem aw1n : resN 5 [⟨20, 8, 0, 0, 0, 44⟩] (constP 8 44) = [⟨20, 8, 0, 0, 0, 44⟩] := by kernel_rfl
theorem aw2i : resI 5 [⟨20, 8, 0, 0, 0, 44⟩] (varP [⟨20, 8, 0, 0, 0, 44⟩] 8 3) = 1 := by kernel_rfl
theorem aw2e : resE 5 [⟨20, 8, 0, 0, 0, 44⟩] (varP [⟨20, 8, 0, 0, 0, 44⟩] 8 3) = 0 := by kernel_rfl
theorem aw2n : resN 5 [⟨20, 8, 0, 0, 0, 44⟩] (varP [⟨20, 8, 0, 0, 0, 44⟩] 8 3) = [⟨20, 8, 0, 0, 0, 44⟩, ⟨21, 8, 3, 0, 0, 0⟩] := by kernel_rfl
theorem aw3i : resI 5 [⟨20, 8, 0, 0, 0, 44⟩, ⟨21, 8, 3, 0, 0, 0⟩] (varP [⟨20, 8, 0, 0, 0, 44⟩, ⟨21, 8, 3, 0, 0, 0⟩] 9 3) = 0 := by kernel_rfl
theorem aw3e : resE 5 [⟨20, 8, 0, 0, 0, 44⟩, ⟨21, 8, 3, 0, 0, 0⟩] (varP [⟨20, 8, 0, 0, 0, 44⟩, ⟨21, 8, 3, 0, 0, 0⟩] 9 3) = 2 := by kernel_rfl
theorem aw3n : resN 5 [⟨20, 8, 0, 0, 0, 44⟩, ⟨21, 8, 3, 0, 0, 0⟩] (varP [⟨20, 8, 0, 0, 0, 44⟩, ⟨21, 8, 3, 0, 0, 0⟩] 9 3) = [⟨20, 8, 0, 0, 0, 44⟩, ⟨21, 8, 3, 0, 0, 0⟩] := by kernel_rfl
theorem aw4i : resI 5 [⟨20, 8, 0, 0, 0, 44⟩, ⟨21, 8, 3, 0, 0, 0⟩] (binP [⟨20, 8, 0, 0, 0, 44⟩, ⟨21, 8, 3, 0, 0, 0⟩] 1 1 0) = 2 := by kernel_rfl
theorem aw4e : resE 5 [⟨20, 8, 0, 0, 0, 44⟩, ⟨21, 8, 3, 0, 0, 0⟩] (binP [⟨20, 8, 0, 0, 0, 44⟩, ⟨21, 8, 3, 0, 0, 0⟩] 1 1 0) = 0 := by kernel_rfl
theorem aw4n : resN 5 [⟨20, 8, 0, 0, 0, 44⟩, ⟨21, 8, 3, 0, 0, 0⟩] (binP [⟨20, 8, 0, 0, 0, 44⟩, ⟨21, 8, 3, 0, 0, 0⟩] 1 1 0) = [⟨20, 8, 0, 0, 0, 44⟩, ⟨21, 8, 3, 0, 0, 0⟩, ⟨1, 8, 1, 0, 0, 0⟩] := by kernel_rfl
theorem aw5i : resI 5 [⟨20, 8, 0, 0, 0, 44⟩, ⟨21, 8, 3, 0, 0, 0⟩, ⟨1, 8, 1, 0, 0, 0⟩] (binP [⟨20, 8, 0, 0, 0, 44⟩, ⟨21, 8, 3, 0, 0, 0⟩, ⟨1, 8, 1, 0, 0, 0⟩] 13 1 0) = 3 := by kernel_rfl
theorem aw5e : resE 5 [⟨20, 8, 0, 0, 0, 44⟩, ⟨21, 8, 3, 0, 0, 0⟩, ⟨1, 8, 1, 0, 0, 0⟩] (binP [⟨20, 8, 0, 0, 0, 44⟩, ⟨21, 8, 3, 0, 0, 0⟩, ⟨1, 8, 1, 0, 0, 0⟩] 13 1 0) = 0 := by kernel_rfl
theorem aw5n : resN 5 [⟨20, 8, 0, 0, 0, 44⟩, ⟨21, 8, 3, 0, 0, 0⟩, ⟨1, 8, 1, 0, 0, 0⟩] (binP [⟨20, 8, 0, 0, 0, 44⟩, ⟨21, 8, 3, 0, 0, 0⟩, ⟨1, 8, 1, 0, 0, 0⟩] 13 1 0) = [⟨20, 8, 0, 0, 0, 44⟩, ⟨21, 8, 3, 0, 0, 0⟩, ⟨1, 8, 1, 0, 0, 0⟩, ⟨13, 1, 1, 0, 0, 0⟩] := by kernel_rfl
theorem aw6i : resI 5 [⟨20, 8, 0, 0, 0, 44⟩, ⟨21, 8, 3, 0, 0, 0⟩, ⟨1, 8, 1, 0, 0, 0⟩, ⟨13, 1, 1, 0, 0, 0⟩] (iteP [⟨20, 8, 0, 0, 0, 44⟩, ⟨21, 8, 3, 0, 0, 0⟩, ⟨1, 8, 1, 0, 0, 0⟩, ⟨13, 1, 1, 0, 0, 0⟩] 1 0 0) = 0 := by kernel_rfl
theorem aw6e : resE 5 [⟨20, 8, 0, 0, 0, 44⟩, ⟨21, 8, 3, 0, 0, 0⟩, ⟨1, 8, 1, 0, 0, 0⟩, ⟨13, 1, 1, 0, 0, 0⟩] (iteP [⟨20, 8, 0, 0, 0, 44⟩, ⟨21, 8, 3, 0, 0, 0⟩, ⟨1, 8, 1, 0, 0, 0⟩, ⟨13, 1, 1, 0, 0, 0⟩] 1 0 0) = 2 := by kernel_rfl
theorem aw6n : resN 5 [⟨20, 8, 0, 0, 0, 44⟩, ⟨21, 8, 3, 0, 0, 0⟩, ⟨1, 8, 1, 0, 0, 0⟩, ⟨13, 1, 1, 0, 0, 0⟩] (iteP [⟨20, 8, 0, 0, 0, 44⟩, ⟨21, 8, 3, 0, 0, 0⟩, ⟨1, 8, 1, 0, 0, 0⟩, ⟨13, 1, 1, 0, 0, 0⟩] 1 0 0) = [⟨20, 8, 0, 0, 0, 44⟩, ⟨21, 8, 3, 0, 0, 0⟩, ⟨1, 8, 1, 0, 0, 0⟩, ⟨13, 1, 1, 0, 0, 0⟩] := by kernel_rfl
theorem aw7i : resI 5 [⟨20, 8, 0, 0, 0, 44⟩, ⟨21, 8, 3, 0, 0, 0⟩, ⟨1, 8, 1, 0, 0, 0⟩, ⟨13, 1, 1, 0, 0, 0⟩] (widP [⟨20, 8, 0, 0, 0, 44⟩, ⟨21, 8, 3, 0, 0, 0⟩, ⟨1, 8, 1, 0, 0, 0⟩, ⟨13, 1, 1, 0, 0, 0⟩] 1 8 true) = 1 := by kernel_rfl
theorem aw7e : resE 5 [⟨20, 8, 0, 0, 0, 44⟩, ⟨21, 8, 3, 0, 0, 0⟩, ⟨1, 8, 1, 0, 0, 0⟩, ⟨13, 1, 1, 0, 0, 0⟩] (widP [⟨20, 8, 0, 0, 0, 44⟩, ⟨21, 8, 3, 0, 0, 0⟩, ⟨1, 8, 1, 0, 0, 0⟩, ⟨13, 1, 1, 0, 0, 0⟩] 1 8 true) = 0 := by kernel_rfl
theorem aw7n : resN 5 [⟨20, 8, 0, 0, 0, 44⟩, ⟨21, 8, 3, 0, 0, 0⟩, ⟨1, 8, 1, 0, 0, 0⟩, ⟨13, 1, 1, 0, 0, 0⟩] (widP [⟨20, 8, 0, 0, 0, 44⟩, ⟨21, 8, 3, 0, 0, 0⟩, ⟨1, 8, 1, 0, 0, 0⟩, ⟨13, 1, 1, 0, 0, 0⟩] 1 8 true) = [⟨20, 8, 0, 0, 0, 44⟩, ⟨21, 8, 3, 0, 0, 0⟩, ⟨1, 8, 1, 0, 0, 0⟩, ⟨13, 1, 1, 0, 0, 0⟩] := by kernel_rfl
theorem aw8i : resI 5 [⟨20, 8, 0, 0, 0, 44⟩, ⟨21, 8, 3, 0, 0, 0⟩, ⟨1, 8, 1, 0, 0, 0⟩, ⟨13, 1, 1, 0, 0, 0⟩] (extP [⟨20, 8, 0, 0, 0, 44⟩, ⟨21, 8, 3, 0, 0, 0⟩, ⟨1, 8, 1, 0, 0, 0⟩, ⟨13, 1, 1, 0, 0, 0⟩] 1 4 4) = 4 := by kernel_rfl
theorem aw8e : resE 5 [⟨20, 8, 0, 0, 0, 44⟩, ⟨21, 8, 3, 0, 0, 0⟩, ⟨1, 8, 1, 0, 0, 0⟩, ⟨13, 1, 1, 0, 0, 0⟩] (extP [⟨20, 8, 0, 0, 0, 44⟩, ⟨21, 8, 3, 0, 0, 0⟩, ⟨1, 8, 1, 0, 0, 0⟩, ⟨13, 1, 1, 0, 0, 0⟩] 1 4 4) = 0 := by kernel_rfl
theorem aw8n : resN 5 [⟨20, 8, 0, 0, 0, 44⟩, ⟨21, 8, 3, 0, 0, 0⟩, ⟨1, 8, 1, 0, 0, 0⟩, ⟨13, 1, 1, 0, 0, 0⟩] (extP [⟨20, 8, 0, 0, 0, 44⟩, ⟨21, 8, 3, 0, 0, 0⟩, ⟨1, 8, 1, 0, 0, 0⟩, ⟨13, 1, 1, 0, 0, 0⟩] 1 4 4) = [⟨20, 8, 0, 0, 0, 44⟩, ⟨21, 8, 3, 0, 0, 0⟩, ⟨1, 8, 1, 0, 0, 0⟩, ⟨13, 1, 1, 0, 0, 0⟩, ⟨23, 4, 1, 4, 0, 0⟩] := by kernel_rfl
theorem aw9i : resI 5 [⟨20, 8, 0, 0, 0, 44⟩, ⟨21, 8, 3, 0, 0, 0⟩, ⟨1, 8, 1, 0, 0, 0⟩, ⟨13, 1, 1, 0, 0, 0⟩, ⟨23, 4, 1, 4, 0, 0⟩] (catP [⟨20, 8, 0, 0, 0, 44⟩, ⟨21, 8, 3, 0, 0, 0⟩, ⟨1, 8, 1, 0, 0, 0⟩, ⟨13, 1, 1, 0, 0, 0⟩, ⟨23, 4, 1, 4, 0, 0⟩] 1 0) = 0 := by kernel_rfl
theorem aw9e : resE 5 [⟨20, 8, 0, 0, 0, 44⟩, ⟨21, 8, 3, 0, 0, 0⟩, ⟨1, 8, 1, 0, 0, 0⟩, ⟨13, 1, 1, 0, 0, 0⟩, ⟨23, 4, 1, 4, 0, 0⟩] (catP [⟨20, 8, 0, 0, 0, 44⟩, ⟨21, 8, 3, 0, 0, 0⟩, ⟨1, 8, 1, 0, 0, 0⟩, ⟨13, 1, 1, 0, 0, 0⟩, ⟨23, 4, 1, 4, 0, 0⟩] 1 0) = 8 := by kernel_rfl
theorem aw9n : resN 5 [⟨20, 8, 0, 0, 0, 44⟩, ⟨21, 8, 3, 0, 0, 0⟩, ⟨1, 8, 1, 0, 0, 0⟩, ⟨13, 1, 1, 0, 0, 0⟩, ⟨23, 4, 1, 4, 0, 0⟩] (catP [⟨20, 8, 0, 0, 0, 44⟩, ⟨21, 8, 3, 0, 0, 0⟩, ⟨1, 8, 1, 0, 0, 0⟩, ⟨13, 1, 1, 0, 0, 0⟩, ⟨23, 4, 1, 4, 0, 0⟩] 1 0) = [⟨20, 8, 0, 0, 0, 44⟩, ⟨21, 8, 3, 0, 0, 0⟩, ⟨1, 8, 1, 0, 0, 0⟩, ⟨13, 1, 1, 0, 0, 0⟩, ⟨23, 4, 1, 4, 0, 0⟩] := by kernel_rfl
theorem aw10i : resI 5 [⟨20, 8, 0, 0, 0, 44⟩, ⟨21, 8, 3, 0, 0, 0⟩, ⟨1, 8, 1, 0, 0, 0⟩, ⟨13, 1, 1, 0, 0, 0⟩, ⟨23, 4, 1, 4, 0, 0⟩] (unP [⟨20, 8, 0, 0, 0, 44⟩, ⟨21, 8, 3, 0, 0, 0⟩, ⟨1, 8, 1, 0, 0, 0⟩, ⟨13, 1, 1, 0, 0, 0⟩, ⟨23, 4, 1, 4, 0, 0⟩] 1 1) = 0 := by kernel_rfl
theorem aw10e : resE 5 [⟨20, 8, 0, 0, 0, 44⟩, ⟨21, 8, 3, 0, 0, 0⟩, ⟨1, 8, 1, 0, 0, 0⟩, ⟨13, 1, 1, 0, 0, 0⟩, ⟨23, 4, 1, 4, 0, 0⟩] (unP [⟨20, 8, 0, 0, 0, 44⟩, ⟨21, 8, 3, 0, 0, 0⟩, ⟨1, 8, 1, 0, 0, 0⟩, ⟨13, 1, 1, 0, 0, 0⟩, ⟨23, 4, 1, 4, 0, 0⟩] 1 1) = 3 := by kernel_rfl
theorem aw10n : resN 5 [⟨20, 8, 0, 0, 0, 44⟩, ⟨21, 8, 3, 0, 0, 0⟩, ⟨1, 8, 1, 0, 0, 0⟩, ⟨13, 1, 1, 0, 0, 0⟩, ⟨23, 4, 1, 4, 0, 0⟩] (unP [⟨20, 8, 0, 0, 0, 44⟩, ⟨21, 8, 3, 0, 0, 0⟩, ⟨1, 8, 1, 0, 0, 0⟩, ⟨13, 1, 1, 0, 0, 0⟩, ⟨23, 4, 1, 4, 0, 0⟩] 1 1) = [⟨20, 8, 0, 0, 0, 44⟩, ⟨21, 8, 3, 0, 0, 0⟩, ⟨1, 8, 1, 0, 0, 0⟩, ⟨13, 1, 1, 0, 0, 0⟩, ⟨23, 4, 1, 4, 0, 0⟩] := by kernel_rfl
theorem awW : wdF [⟨20, 8, 0, 0, 0, 44⟩, ⟨21, 8, 3, 0, 0, 0⟩, ⟨1, 8, 1, 0, 0, 0⟩, ⟨13, 1, 1, 0, 0, 0⟩, ⟨23, 4, 1, 4, 0, 0⟩] 3 = 1 := by kernel_rfl
theorem awA : ndA [⟨20, 8, 0, 0, 0, 44⟩, ⟨21, 8, 3, 0, 0, 0⟩, ⟨1, 8, 1, 0, 0, 0⟩, ⟨13, 1, 1, 0, 0, 0⟩, ⟨23, 4, 1, 4, 0, 0⟩] 2 = ⟨1, 8, 1, 0, 0, 0⟩ := by kernel_rfl
theorem awI : isN [⟨20, 8, 0, 0, 0, 44⟩, ⟨21, 8, 3, 0, 0, 0⟩, ⟨1, 8, 1, 0, 0, 0⟩, ⟨13, 1, 1, 0, 0, 0⟩, ⟨23, 4, 1, 4, 0, 0⟩] 2 = true := by kernel_rfl

theorem node_is {k : K} {w : World} {N : List Nd} {P : Nat → Prop} (s : Dg k w N P) (id : Int) {n : Nd} {b : Bool} (hn : ndA N id = n) (hb : isN N id = b) : Calls Try.prog 8 #[.pointer (some ⟨k.DB, 0, none⟩), .int .i64 id] w fun e w' =>
    e = .returned (.tuple #[.agg #[.int .i64 n.op, .int .i64 n.wd, .int .i64 n.a, .int .i64 n.b, .int .i64 n.c, .int .u64 n.v], .bool b]) ∧ Hid (Below w.heap.size w w') := by
  subst hn hb
  exact node_any s id
theorem node_two {k : K} {w : World} {N : List Nd} {P : Nat → Prop} (s : Dg k w N P) (hn : ndA N 2 = ⟨1, 8, 1, 0, 0, 0⟩) (hb : isN N 2 = true) : Calls Try.prog 8 #[.pointer (some ⟨k.DB, 0, none⟩), .int .i64 2] w fun e w' =>
    e = .returned (.tuple #[.agg #[.int .i64 1, .int .i64 8, .int .i64 1, .int .i64 0, .int .i64 0, .int .u64 0], .bool true]) ∧ Hid (Below w.heap.size w w') := node_is s 2 hn hb
theorem len_is {k : K} {w : World} {N : List Nd} {P : Nat → Prop} (s : Dg k w N P) {x : Int} (hx : (N.length : Int) = x) : Calls Try.prog 14 #[.pointer (some ⟨k.DB, 0, none⟩)] w fun e w' => e = .returned (.int .i64 x) ∧ w' = w := by
  subst hx; exact len_any s

theorem box_new {v v' : World} {op wd a b c x : Int} (h : Below (v.alloc (.cells #[.int .i64 op, .int .i64 wd, .int .i64 a, .int .i64 b, .int .i64 c, .int .u64 x] 32)).heap.size (v.alloc (.cells #[.int .i64 op, .int .i64 wd, .int .i64 a, .int .i64 b, .int .i64 c, .int .u64 x] 32)) v') : v'.cell? ⟨v.heap.size, 0, none⟩ = some (.int .i64 op) ∧ v'.cell? ⟨v.heap.size, 1, none⟩ = some (.int .i64 wd) ∧ v'.cell? ⟨v.heap.size, 2, none⟩ = some (.int .i64 a) ∧ v'.cell? ⟨v.heap.size, 3, none⟩ = some (.int .i64 b) ∧ v'.cell? ⟨v.heap.size, 4, none⟩ = some (.int .i64 c) ∧ v'.cell? ⟨v.heap.size, 5, none⟩ = some (.int .u64 x) :=
  box6 (n := ⟨op, wd, a, b, c, x⟩) (by rw [h.block _ (by simp)]; exact new_same v _)

set_option maxHeartbeats 4000000 in
set_option maxRecDepth 100000 in
theorem awake_any (w : World) : Calls Try.prog 6 #[] w fun e w' => e = .returned (.bool true) ∧ Hid (Below w.heap.size w w') := by
  go_enter Try.func6, Try.ntmps6
  go_wp2_with (first
    | (go_at_call 12; with_reducible (refine (new_five _).mono ?_); rintro e w1 ⟨k, rfl, hM, hB, s0, b1⟩)
    | (go_at_call 15; with_reducible (refine (mk_is (const_any s0.out 8 300 (by omega) (by omega)) (M := 5) hM.out aw0i aw0e aw0n).mono ?_); rintro e v0 ⟨P0, rfl, s1, f1⟩)
    | (go_at_call 15; with_reducible (refine (mk_is (const_any s1.out 8 44 (by omega) (by omega)) (M := 5) hM.out aw1i aw1e aw1n).mono ?_); rintro e v1 ⟨P1, rfl, s2, f2⟩)
    | (go_at_call 16; with_reducible (refine (mk_is (var_any s2.out 8 3) (M := 5) hM.out aw2i aw2e aw2n).mono ?_); rintro e v2 ⟨P2, rfl, s3, f3⟩)
    | (go_at_call 16; with_reducible (refine (mk_is (var_any s3.out 9 3) (M := 5) hM.out aw3i aw3e aw3n).mono ?_); rintro e v3 ⟨P3, rfl, s4, f4⟩)
    | (go_at_call 17; with_reducible (refine (mk_is (binary_any s4.out 1 1 0) (M := 5) hM.out aw4i aw4e aw4n).mono ?_); rintro e v4 ⟨P4, rfl, s5, f5⟩)
    | (go_at_call 17; with_reducible (refine (mk_is (binary_any s5.out 13 1 0) (M := 5) hM.out aw5i aw5e aw5n).mono ?_); rintro e v5 ⟨P5, rfl, s6, f6⟩)
    | (go_at_call 18; with_reducible (refine (mk_is (ite_any s6.out 1 0 0) (M := 5) hM.out aw6i aw6e aw6n).mono ?_); rintro e v6 ⟨P6, rfl, s7, f7⟩)
    | (go_at_call 19; with_reducible (refine (mk_is (extend_any s7.out 1 8 true) (M := 5) hM.out aw7i aw7e aw7n).mono ?_); rintro e v7 ⟨P7, rfl, s8, f8⟩)
    | (go_at_call 20; with_reducible (refine (mk_is (extract_any s8.out 1 4 4 (b64_small (by omega) (by omega)) (b64_small (by omega) (by omega))) (M := 5) hM.out aw8i aw8e aw8n).mono ?_); rintro e v8 ⟨P8, rfl, s9, f9⟩)
    | (go_at_call 21; with_reducible (refine (mk_is (concat_any s9.out 1 0) (M := 5) hM.out aw9i aw9e aw9n).mono ?_); rintro e v9 ⟨P9, rfl, s10, f10⟩)
    | (go_at_call 22; with_reducible (refine (mk_is (unary_any s10.out 1 1) (M := 5) hM.out aw10i aw10e aw10n).mono ?_); rintro e v10 ⟨P10, rfl, s11, f11⟩)
    | (go_at_call 8; with_reducible (refine (node_two s11.out awA awI).mono ?_); rintro e v20 ⟨rfl, b20⟩; have s20 := hid (s11.out.below (Below.next b20.out (show Below v20.heap.size v20 (v20.alloc (.cells #[.int .i64 1, .int .i64 8, .int .i64 1, .int .i64 0, .int .i64 0, .int .u64 0] 32)) by go_grown))))
    | (go_at_call 9; with_reducible (refine (width_is s20.out 3 awW).mono ?_); rintro e v21 ⟨rfl, b21⟩; have s21 := hid (s20.out.below b21.out); have y0 := box_new b21.out; obtain ⟨y1, y2, y3, y4, y5, y6⟩ := y0)
    | (go_at_call 14; with_reducible (refine (len_is s21.out (x := 5) (by simp)).mono ?_); rintro e v22 ⟨rfl, rfl⟩))
  go_ret
  exact ⟨rfl, hid (Below.next (Below.next (Fr.from s0.out (((((((((((f1.out).trans f2.out).trans f3.out).trans f4.out).trans f5.out).trans f6.out).trans f7.out).trans f8.out).trans f9.out).trans f10.out).trans f11.out) hB.out b1.out) (Below.next b20.out (show Below v20.heap.size v20 (v20.alloc (.cells #[.int .i64 1, .int .i64 8, .int .i64 1, .int .i64 0, .int .i64 0, .int .u64 0] 32)) by go_grown))) b21.out)⟩

end Go.Proofs.Ytfbnlhgpknialaa
