/-
  oneOf of the package fold.
-/
import Derived.Test.YtamiifgdpdfjnaaFc
namespace Go.Proofs.Ytamiifgdpdfjnaa
open Go.RowKit Go.Maps
set_option linter.unusedVariables false
set_option maxRecDepth 100000

theorem one_3 {k : K} {w : World} {N : List Nd} {P : Nat → Prop} (s : Dg k w N P) (a b : Int) : Calls Try.prog 26 #[.pointer (some ⟨k.DB, 0, none⟩), .int .i64 3, .int .i64 a, .int .i64 b] w fun e w' =>
    e = .returned (.tuple #[.int .i64 (oneI N 3 a b), .bool (oneB N 3 a b)]) ∧ Hid (Dg k w' N P) ∧ Hid (Below w.heap.size w w') := by
  obtain ⟨ha1, ea1⟩ : ∃ x, isC N a 1 = x := ⟨_, rfl⟩
  obtain ⟨hb1, eb1⟩ : ∃ x, isC N b 1 = x := ⟨_, rfl⟩
  obtain ⟨ha0, ea0⟩ : ∃ x, isC N a 0 = x := ⟨_, rfl⟩
  obtain ⟨hb0, eb0⟩ : ∃ x, isC N b 0 = x := ⟨_, rfl⟩
  have HE : Hid (oneO N 3 a b = if ha1 then some b else if hb1 then some a else if ha0 then some a else if hb0 then some b else none) := hid (by unfold oneO mulO andO; simp only [ea1, eb1, ea0, eb0]; simp)
  have HS := hid s
  have HC := hid (Below.refl w.heap.size w)
  have Ha1 := hid ea1
  have Hb1 := hid eb1
  have Ha0 := hid ea0
  have Hb0 := hid eb0
  clear s ea1 eb1 ea0 eb0
  cases ha1 <;> cases hb1 <;> cases ha0 <;> cases hb0
  all_goals
    go_enter Try.func26, Try.ntmps26
    go_wp2_with (first
      | (go_at_call 47; with_reducible (refine (is_step (w0 := w) (by assumption) (by assumption) a 1 Ha1.out).mono ?_); rintro e w2 ⟨rfl, s2, c2⟩)
      | (go_at_call 47; with_reducible (refine (is_step (w0 := w) (by assumption) (by assumption) b 1 Hb1.out).mono ?_); rintro e w2 ⟨rfl, s2, c2⟩)
      | (go_at_call 47; with_reducible (refine (is_step (w0 := w) (by assumption) (by assumption) a 0 Ha0.out).mono ?_); rintro e w2 ⟨rfl, s2, c2⟩)
      | (go_at_call 47; with_reducible (refine (is_step (w0 := w) (by assumption) (by assumption) b 0 Hb0.out).mono ?_); rintro e w2 ⟨rfl, s2, c2⟩)
      | fail)
    go_ret2
    exact ⟨ret_ib (by unfold oneI; rw [HE.out]; rfl) (by unfold oneB; rw [HE.out]; rfl), by assumption, by assumption⟩

theorem one_6 {k : K} {w : World} {N : List Nd} {P : Nat → Prop} (s : Dg k w N P) (a b : Int) : Calls Try.prog 26 #[.pointer (some ⟨k.DB, 0, none⟩), .int .i64 6, .int .i64 a, .int .i64 b] w fun e w' =>
    e = .returned (.tuple #[.int .i64 (oneI N 6 a b), .bool (oneB N 6 a b)]) ∧ Hid (Dg k w' N P) ∧ Hid (Below w.heap.size w w') := by
  obtain ⟨ha0, ea0⟩ : ∃ x, isC N a 0 = x := ⟨_, rfl⟩
  obtain ⟨hb0, eb0⟩ : ∃ x, isC N b 0 = x := ⟨_, rfl⟩
  have HE : Hid (oneO N 6 a b = if ha0 then some a else if hb0 then some b else none) := hid (by unfold oneO andO; simp only [ea0, eb0]; simp)
  have HS := hid s
  have HC := hid (Below.refl w.heap.size w)
  have Ha0 := hid ea0
  have Hb0 := hid eb0
  clear s ea0 eb0
  cases ha0 <;> cases hb0
  all_goals
    go_enter Try.func26, Try.ntmps26
    go_wp2_with (first
      | (go_at_call 47; with_reducible (refine (is_step (w0 := w) (by assumption) (by assumption) a 0 Ha0.out).mono ?_); rintro e w2 ⟨rfl, s2, c2⟩)
      | (go_at_call 47; with_reducible (refine (is_step (w0 := w) (by assumption) (by assumption) b 0 Hb0.out).mono ?_); rintro e w2 ⟨rfl, s2, c2⟩)
      | fail)
    go_ret2
    exact ⟨ret_ib (by unfold oneI; rw [HE.out]; rfl) (by unfold oneB; rw [HE.out]; rfl), by assumption, by assumption⟩

theorem one_1 {k : K} {w : World} {N : List Nd} {P : Nat → Prop} (s : Dg k w N P) (a b : Int) : Calls Try.prog 26 #[.pointer (some ⟨k.DB, 0, none⟩), .int .i64 1, .int .i64 a, .int .i64 b] w fun e w' =>
    e = .returned (.tuple #[.int .i64 (oneI N 1 a b), .bool (oneB N 1 a b)]) ∧ Hid (Dg k w' N P) ∧ Hid (Below w.heap.size w w') := by
  obtain ⟨ha0, ea0⟩ : ∃ x, isC N a 0 = x := ⟨_, rfl⟩
  obtain ⟨hb0, eb0⟩ : ∃ x, isC N b 0 = x := ⟨_, rfl⟩
  have HE : Hid (oneO N 1 a b = if ha0 then some b else if hb0 then some a else none) := hid (by unfold oneO addO subO; simp only [ea0, eb0]; simp)
  have HS := hid s
  have HC := hid (Below.refl w.heap.size w)
  have Ha0 := hid ea0
  have Hb0 := hid eb0
  clear s ea0 eb0
  cases ha0 <;> cases hb0
  all_goals
    go_enter Try.func26, Try.ntmps26
    go_wp2_with (first
      | (go_at_call 47; with_reducible (refine (is_step (w0 := w) (by assumption) (by assumption) a 0 Ha0.out).mono ?_); rintro e w2 ⟨rfl, s2, c2⟩)
      | (go_at_call 47; with_reducible (refine (is_step (w0 := w) (by assumption) (by assumption) b 0 Hb0.out).mono ?_); rintro e w2 ⟨rfl, s2, c2⟩)
      | fail)
    go_ret2
    exact ⟨ret_ib (by unfold oneI; rw [HE.out]; rfl) (by unfold oneB; rw [HE.out]; rfl), by assumption, by assumption⟩

theorem one_7 {k : K} {w : World} {N : List Nd} {P : Nat → Prop} (s : Dg k w N P) (a b : Int) : Calls Try.prog 26 #[.pointer (some ⟨k.DB, 0, none⟩), .int .i64 7, .int .i64 a, .int .i64 b] w fun e w' =>
    e = .returned (.tuple #[.int .i64 (oneI N 7 a b), .bool (oneB N 7 a b)]) ∧ Hid (Dg k w' N P) ∧ Hid (Below w.heap.size w w') := by
  obtain ⟨ha0, ea0⟩ : ∃ x, isC N a 0 = x := ⟨_, rfl⟩
  obtain ⟨hb0, eb0⟩ : ∃ x, isC N b 0 = x := ⟨_, rfl⟩
  have HE : Hid (oneO N 7 a b = if ha0 then some b else if hb0 then some a else none) := hid (by unfold oneO addO subO; simp only [ea0, eb0]; simp)
  have HS := hid s
  have HC := hid (Below.refl w.heap.size w)
  have Ha0 := hid ea0
  have Hb0 := hid eb0
  clear s ea0 eb0
  cases ha0 <;> cases hb0
  all_goals
    go_enter Try.func26, Try.ntmps26
    go_wp2_with (first
      | (go_at_call 47; with_reducible (refine (is_step (w0 := w) (by assumption) (by assumption) a 0 Ha0.out).mono ?_); rintro e w2 ⟨rfl, s2, c2⟩)
      | (go_at_call 47; with_reducible (refine (is_step (w0 := w) (by assumption) (by assumption) b 0 Hb0.out).mono ?_); rintro e w2 ⟨rfl, s2, c2⟩)
      | fail)
    go_ret2
    exact ⟨ret_ib (by unfold oneI; rw [HE.out]; rfl) (by unfold oneB; rw [HE.out]; rfl), by assumption, by assumption⟩

theorem one_8 {k : K} {w : World} {N : List Nd} {P : Nat → Prop} (s : Dg k w N P) (a b : Int) : Calls Try.prog 26 #[.pointer (some ⟨k.DB, 0, none⟩), .int .i64 8, .int .i64 a, .int .i64 b] w fun e w' =>
    e = .returned (.tuple #[.int .i64 (oneI N 8 a b), .bool (oneB N 8 a b)]) ∧ Hid (Dg k w' N P) ∧ Hid (Below w.heap.size w w') := by
  obtain ⟨ha0, ea0⟩ : ∃ x, isC N a 0 = x := ⟨_, rfl⟩
  obtain ⟨hb0, eb0⟩ : ∃ x, isC N b 0 = x := ⟨_, rfl⟩
  have HE : Hid (oneO N 8 a b = if ha0 then some b else if hb0 then some a else none) := hid (by unfold oneO addO subO; simp only [ea0, eb0]; simp)
  have HS := hid s
  have HC := hid (Below.refl w.heap.size w)
  have Ha0 := hid ea0
  have Hb0 := hid eb0
  clear s ea0 eb0
  cases ha0 <;> cases hb0
  all_goals
    go_enter Try.func26, Try.ntmps26
    go_wp2_with (first
      | (go_at_call 47; with_reducible (refine (is_step (w0 := w) (by assumption) (by assumption) a 0 Ha0.out).mono ?_); rintro e w2 ⟨rfl, s2, c2⟩)
      | (go_at_call 47; with_reducible (refine (is_step (w0 := w) (by assumption) (by assumption) b 0 Hb0.out).mono ?_); rintro e w2 ⟨rfl, s2, c2⟩)
      | fail)
    go_ret2
    exact ⟨ret_ib (by unfold oneI; rw [HE.out]; rfl) (by unfold oneB; rw [HE.out]; rfl), by assumption, by assumption⟩

theorem one_2 {k : K} {w : World} {N : List Nd} {P : Nat → Prop} (s : Dg k w N P) (a b : Int) : Calls Try.prog 26 #[.pointer (some ⟨k.DB, 0, none⟩), .int .i64 2, .int .i64 a, .int .i64 b] w fun e w' =>
    e = .returned (.tuple #[.int .i64 (oneI N 2 a b), .bool (oneB N 2 a b)]) ∧ Hid (Dg k w' N P) ∧ Hid (Below w.heap.size w w') := by
  obtain ⟨hb0, eb0⟩ : ∃ x, isC N b 0 = x := ⟨_, rfl⟩
  have HE : Hid (oneO N 2 a b = if hb0 then some a else none) := hid (by unfold oneO subO; simp only [eb0]; simp)
  have HS := hid s
  have HC := hid (Below.refl w.heap.size w)
  have Hb0 := hid eb0
  clear s eb0
  cases hb0
  all_goals
    go_enter Try.func26, Try.ntmps26
    go_wp2_with (first
      | (go_at_call 47; with_reducible (refine (is_step (w0 := w) (by assumption) (by assumption) b 0 Hb0.out).mono ?_); rintro e w2 ⟨rfl, s2, c2⟩)
      | fail)
    go_ret2
    exact ⟨ret_ib (by unfold oneI; rw [HE.out]; rfl) (by unfold oneB; rw [HE.out]; rfl), by assumption, by assumption⟩

theorem one_9 {k : K} {w : World} {N : List Nd} {P : Nat → Prop} (s : Dg k w N P) (a b : Int) : Calls Try.prog 26 #[.pointer (some ⟨k.DB, 0, none⟩), .int .i64 9, .int .i64 a, .int .i64 b] w fun e w' =>
    e = .returned (.tuple #[.int .i64 (oneI N 9 a b), .bool (oneB N 9 a b)]) ∧ Hid (Dg k w' N P) ∧ Hid (Below w.heap.size w w') := by
  obtain ⟨hb0, eb0⟩ : ∃ x, isC N b 0 = x := ⟨_, rfl⟩
  have HE : Hid (oneO N 9 a b = if hb0 then some a else none) := hid (by unfold oneO subO; simp only [eb0]; simp)
  have HS := hid s
  have HC := hid (Below.refl w.heap.size w)
  have Hb0 := hid eb0
  clear s eb0
  cases hb0
  all_goals
    go_enter Try.func26, Try.ntmps26
    go_wp2_with (first
      | (go_at_call 47; with_reducible (refine (is_step (w0 := w) (by assumption) (by assumption) b 0 Hb0.out).mono ?_); rintro e w2 ⟨rfl, s2, c2⟩)
      | fail)
    go_ret2
    exact ⟨ret_ib (by unfold oneI; rw [HE.out]; rfl) (by unfold oneB; rw [HE.out]; rfl), by assumption, by assumption⟩

theorem one_10 {k : K} {w : World} {N : List Nd} {P : Nat → Prop} (s : Dg k w N P) (a b : Int) : Calls Try.prog 26 #[.pointer (some ⟨k.DB, 0, none⟩), .int .i64 10, .int .i64 a, .int .i64 b] w fun e w' =>
    e = .returned (.tuple #[.int .i64 (oneI N 10 a b), .bool (oneB N 10 a b)]) ∧ Hid (Dg k w' N P) ∧ Hid (Below w.heap.size w w') := by
  obtain ⟨hb0, eb0⟩ : ∃ x, isC N b 0 = x := ⟨_, rfl⟩
  have HE : Hid (oneO N 10 a b = if hb0 then some a else none) := hid (by unfold oneO subO; simp only [eb0]; simp)
  have HS := hid s
  have HC := hid (Below.refl w.heap.size w)
  have Hb0 := hid eb0
  clear s eb0
  cases hb0
  all_goals
    go_enter Try.func26, Try.ntmps26
    go_wp2_with (first
      | (go_at_call 47; with_reducible (refine (is_step (w0 := w) (by assumption) (by assumption) b 0 Hb0.out).mono ?_); rintro e w2 ⟨rfl, s2, c2⟩)
      | fail)
    go_ret2
    exact ⟨ret_ib (by unfold oneI; rw [HE.out]; rfl) (by unfold oneB; rw [HE.out]; rfl), by assumption, by assumption⟩

theorem one_11 {k : K} {w : World} {N : List Nd} {P : Nat → Prop} (s : Dg k w N P) (a b : Int) : Calls Try.prog 26 #[.pointer (some ⟨k.DB, 0, none⟩), .int .i64 11, .int .i64 a, .int .i64 b] w fun e w' =>
    e = .returned (.tuple #[.int .i64 (oneI N 11 a b), .bool (oneB N 11 a b)]) ∧ Hid (Dg k w' N P) ∧ Hid (Below w.heap.size w w') := by
  obtain ⟨hb0, eb0⟩ : ∃ x, isC N b 0 = x := ⟨_, rfl⟩
  have HE : Hid (oneO N 11 a b = if hb0 then some a else none) := hid (by unfold oneO subO; simp only [eb0]; simp)
  have HS := hid s
  have HC := hid (Below.refl w.heap.size w)
  have Hb0 := hid eb0
  clear s eb0
  cases hb0
  all_goals
    go_enter Try.func26, Try.ntmps26
    go_wp2_with (first
      | (go_at_call 47; with_reducible (refine (is_step (w0 := w) (by assumption) (by assumption) b 0 Hb0.out).mono ?_); rintro e w2 ⟨rfl, s2, c2⟩)
      | fail)
    go_ret2
    exact ⟨ret_ib (by unfold oneI; rw [HE.out]; rfl) (by unfold oneB; rw [HE.out]; rfl), by assumption, by assumption⟩

theorem one_any {k : K} {w : World} {N : List Nd} {P : Nat → Prop} (s : Dg k w N P) (op a b : Int) : Calls Try.prog 26 #[.pointer (some ⟨k.DB, 0, none⟩), .int .i64 op, .int .i64 a, .int .i64 b] w fun e w' =>
    e = .returned (.tuple #[.int .i64 (oneI N op a b), .bool (oneB N op a b)]) ∧ Hid (Dg k w' N P) ∧ Hid (Below w.heap.size w w') := by
  have hs : (op = 1 ∨ op = 2 ∨ op = 3 ∨ op = 6 ∨ op = 7 ∨ op = 8 ∨ op = 9 ∨ op = 10 ∨ op = 11) ∨ (op ≠ 1 ∧ op ≠ 2 ∧ op ≠ 3 ∧ op ≠ 6 ∧ op ≠ 7 ∧ op ≠ 8 ∧ op ≠ 9 ∧ op ≠ 10 ∧ op ≠ 11) := by omega
  rcases hs with hs | ⟨n1, n2, n3, n6, n7, n8, n9, n10, n11⟩
  · rcases hs with rfl | rfl | rfl | rfl | rfl | rfl | rfl | rfl | rfl
    · exact one_1 s a b
    · exact one_2 s a b
    · exact one_3 s a b
    · exact one_6 s a b
    · exact one_7 s a b
    · exact one_8 s a b
    · exact one_9 s a b
    · exact one_10 s a b
    · exact one_11 s a b
  · have HE : Hid (oneO N op a b = none) := hid (by simp [oneO, n1, n2, n3, n6, n7, n8, n9, n10, n11])
    have m1 : (op == 1) = false := by simpa using n1
    have m2 : (op == 2) = false := by simpa using n2
    have m3 : (op == 3) = false := by simpa using n3
    have m6 : (op == 6) = false := by simpa using n6
    have m7 : (op == 7) = false := by simpa using n7
    have m8 : (op == 8) = false := by simpa using n8
    have m9 : (op == 9) = false := by simpa using n9
    have m10 : (op == 10) = false := by simpa using n10
    have m11 : (op == 11) = false := by simpa using n11
    clear n1 n2 n3 n6 n7 n8 n9 n10 n11
    go_enter Try.func26, Try.ntmps26
    go_wp2
    go_ret2
    exact ⟨ret_ib (by unfold oneI; rw [HE.out]; rfl) (by unfold oneB; rw [HE.out]; rfl), hid s, hid (Below.refl _ _)⟩

end Go.Proofs.Ytamiifgdpdfjnaa
