/-
  The calls that only look at an order: is, Len, Has, Activity, ahead; sum.
-/
import Derived.Test.YtbddhjohlpblaaaMem
namespace Go.Proofs.Ytbddhjohlpblaaa
open Go.RowKit
set_option linter.unusedVariables false

def ac (A : List Int) : Int → Int := fun v => fn A v.toNat

def isF (n : Nat) (v : Int) : Bool := decide (0 ≤ v ∧ v < n)

theorem isF_yes {n : Nat} {v : Int} (h : isF n v = true) : ∃ u : Nat, v = u ∧ u < n := by
  simp only [isF, decide_eq_true_eq] at h
  exact ⟨v.toNat, by omega, by omega⟩
theorem isF_nat {n u : Nat} (h : u < n) : isF n (u : Int) = true := by simp [isF, h]

theorem is_none (v : Int) (w : World) : Calls Try.prog 23 #[.pointer none, .int .i64 v] w fun e w' => e = .returned (.bool false) ∧ w' = w := by
  go_enter Try.func23, Try.ntmps23
  go_wp2
  go_ret
  exact ⟨rfl, rfl⟩

theorem is_any {k : K} {w : World} {A hs P : List Int} {wv : Value} (s : Raw k w A hs P wv) (v : Int) : Calls Try.prog 23 #[.pointer (some ⟨k.OB, 0, none⟩), .int .i64 v] w fun e w' => e = .returned (.bool (isF k.n v)) ∧ w' = w := by
  have c0 := s.c0
  by_cases h0 : 0 ≤ v
  · by_cases h1 : v < k.n
    · have HV : Hid (isF k.n v = true) := hid (by simp [isF]; omega)
      go_enter Try.func23, Try.ntmps23
      go_wp2
      go_ret
      exact ⟨by rw [HV.out]; simp, rfl⟩
    · have HV : Hid (isF k.n v = false) := hid (by simp [isF]; omega)
      go_enter Try.func23, Try.ntmps23
      go_wp2
      go_ret
      exact ⟨by rw [HV.out]; simp, rfl⟩
  · have HV : Hid (isF k.n v = false) := hid (by simp [isF]; omega)
    go_enter Try.func23, Try.ntmps23
    go_wp2
    go_ret
    exact ⟨by rw [HV.out]; rfl, rfl⟩

theorem len_none (w : World) : Calls Try.prog 11 #[.pointer none] w fun e w' => e = .returned (.int .i64 0) ∧ w' = w := by
  go_enter Try.func11, Try.ntmps11
  go_wp2
  go_ret
  exact ⟨rfl, rfl⟩

theorem len_any {k : K} {w : World} {A hs P : List Int} {wv : Value} (s : Raw k w A hs P wv) : Calls Try.prog 11 #[.pointer (some ⟨k.OB, 0, none⟩)] w fun e w' => e = .returned (.int .i64 hs.length) ∧ w' = w := by
  obtain ⟨ao, cap, rfl⟩ := s.shape
  have c1 := s.c1
  go_enter Try.func11, Try.ntmps11
  go_wp2
  go_ret
  exact ⟨rfl, rfl⟩

theorem has_none (v : Int) (w : World) : Calls Try.prog 13 #[.pointer none, .int .i64 v] w fun e w' => e = .returned (.bool false) ∧ w' = w := by
  go_enter Try.func13, Try.ntmps13
  go_wp2_with (go_at_call 23; with_reducible (refine (is_none _ _).mono ?_); rintro e w ⟨rfl, rfl⟩)
  go_ret
  exact ⟨rfl, rfl⟩

theorem has_no {k : K} {w : World} {A hs P : List Int} {wv : Value} (s : Raw k w A hs P wv) (v : Int) (h : isF k.n v = false) : Calls Try.prog 13 #[.pointer (some ⟨k.OB, 0, none⟩), .int .i64 v] w fun e w' => e = .returned (.bool false) ∧ w' = w := by
  have HS := hid s
  clear s
  go_enter Try.func13, Try.ntmps13
  go_wp2_with (go_at_call 23; with_reducible (refine (is_any HS.out _).mono ?_); rintro e w ⟨rfl, rfl⟩)
  go_ret
  exact ⟨rfl, rfl⟩

theorem has_yes {k : K} {w : World} {A hs P : List Int} {wv : Value} (s : Raw k w A hs P wv) (v : Nat) (h : v < k.n) : Calls Try.prog 13 #[.pointer (some ⟨k.OB, 0, none⟩), .int .i64 v] w fun e w' => e = .returned (.bool (decide (0 < fn P v))) ∧ w' = w := by
  have HS := hid s
  have c2 := s.c2
  have cp := s.cp h
  have hi := isF_nat h
  have h' : (v : Int) < k.n := by omega
  clear s
  go_enter Try.func13, Try.ntmps13
  go_wp2_with (go_at_call 23; with_reducible (refine (is_any HS.out _).mono ?_); rintro e w ⟨rfl, rfl⟩)
  go_ret
  exact ⟨rfl, rfl⟩

theorem act_none (v : Int) (w : World) : Calls Try.prog 14 #[.pointer none, .int .i64 v] w fun e w' => e = .returned (.int .i64 0) ∧ w' = w := by
  go_enter Try.func14, Try.ntmps14
  go_wp2_with (go_at_call 23; with_reducible (refine (is_none _ _).mono ?_); rintro e w ⟨rfl, rfl⟩)
  go_ret
  exact ⟨rfl, rfl⟩

theorem act_no {k : K} {w : World} {A hs P : List Int} {wv : Value} (s : Raw k w A hs P wv) (v : Int) (h : isF k.n v = false) : Calls Try.prog 14 #[.pointer (some ⟨k.OB, 0, none⟩), .int .i64 v] w fun e w' => e = .returned (.int .i64 0) ∧ w' = w := by
  have HS := hid s
  clear s
  go_enter Try.func14, Try.ntmps14
  go_wp2_with (go_at_call 23; with_reducible (refine (is_any HS.out _).mono ?_); rintro e w ⟨rfl, rfl⟩)
  go_ret
  exact ⟨rfl, rfl⟩

theorem act_yes {k : K} {w : World} {A hs P : List Int} {wv : Value} (s : Raw k w A hs P wv) (v : Nat) (h : v < k.n) : Calls Try.prog 14 #[.pointer (some ⟨k.OB, 0, none⟩), .int .i64 v] w fun e w' => e = .returned (.int .i64 (fn A v)) ∧ w' = w := by
  have HS := hid s
  have c0 := s.c0
  have ca := s.ca h
  have hi := isF_nat h
  have h' : (v : Int) < k.n := by omega
  clear s
  go_enter Try.func14, Try.ntmps14
  go_wp2_with (go_at_call 23; with_reducible (refine (is_any HS.out _).mono ?_); rintro e w ⟨rfl, rfl⟩)
  go_ret
  exact ⟨rfl, rfl⟩

theorem drewN_two (w : World) (a b : Nat) : ∃ m, (w.drewN a).drewN b = w.drewN m := ⟨a + b, by simp⟩

theorem ahead_any {k : K} {w : World} {A hs P : List Int} {wv : Value} (s : Raw k w A hs P wv) (v u : Nat) (hv : v < k.n) (hu : u < k.n) :
    Calls Try.prog 26 #[.pointer (some ⟨k.OB, 0, none⟩), .int .i64 v, .int .i64 u] w fun e w' => e = .returned (.bool (ahd (ac A) v u)) ∧ ∃ m, w' = w.drewN m := by
  have c0 := s.c0
  have c1 := s.ca hv
  have c2 := s.ca hu
  have hv' : (v : Int) < k.n := by omega
  have hu' : (u : Int) < k.n := by omega
  clear s
  by_cases he : fn A v = fn A u
  · have HV : Hid (ahd (ac A) v u = decide (v < u)) := hid (by simp only [ahd, ac, Int.toNat_natCast, he]; simp)
    rw [he] at c1
    go_enter Try.func26, Try.ntmps26
    go_wp2
    go_quiet (fail)
    go_wp2
    go_ret
    exact ⟨by rw [HV.out]; rfl, _, rfl⟩
  · have HV : Hid (ahd (ac A) v u = decide (fn A u < fn A v)) := hid (by simp only [ahd, ac, Int.toNat_natCast, he]; simp)
    have he' : (fn A v != fn A u) = true := by simpa using he
    go_enter Try.func26, Try.ntmps26
    go_wp2
    go_quiet (fail)
    go_wp2
    go_quiet (fail)
    go_wp2
    go_ret
    exact ⟨by rw [HV.out]; rfl, drewN_two _ _ _⟩

def sumF (a b : Int) : Int := if 1099511627776 - a < b then 1099511627776 else if b < -a then 0 else a + b

theorem sumF_in {a b : Int} (h0 : 0 ≤ a) (h1 : a ≤ 1099511627776) : 0 ≤ sumF a b ∧ sumF a b ≤ 1099511627776 := by
  unfold sumF
  split
  · omega
  · split <;> omega

theorem sum_any (a b : Int) (h0 : 0 ≤ a) (h1 : a ≤ 1099511627776) (w : World) : Calls Try.prog 28 #[.int .i64 a, .int .i64 b] w fun e w' => e = .returned (.int .i64 (sumF a b)) ∧ w' = w := by
  by_cases hb : 1099511627776 - a < b
  · have HV : Hid (sumF a b = 1099511627776) := hid (by simp [sumF, hb])
    go_enter Try.func28, Try.ntmps28
    go_wp2
    go_ret
    exact ⟨by rw [HV.out]; rfl, rfl⟩
  · by_cases hb2 : b < -a
    · have HV : Hid (sumF a b = 0) := hid (by simp [sumF, hb, hb2])
      go_enter Try.func28, Try.ntmps28
      go_wp2
      go_ret
      exact ⟨by rw [HV.out]; rfl, rfl⟩
    · have HV : Hid (sumF a b = a + b) := hid (by simp [sumF, hb, hb2])
      go_enter Try.func28, Try.ntmps28
      go_wp2
      go_ret
      exact ⟨by rw [HV.out]; rfl, rfl⟩

end Go.Proofs.Ytbddhjohlpblaaa
