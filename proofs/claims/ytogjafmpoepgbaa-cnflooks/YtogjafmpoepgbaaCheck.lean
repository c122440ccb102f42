/-
  Check, of the program and of the document.
-/
import Derived.Test.YtogjafmpoepgbaaGrid
namespace Go.Proofs.Ytogjafmpoepgbaa
open Go.RowKit
set_option linter.unusedVariables false

theorem chk_low {vars : Int} (xss : List (List Int)) (h : vars < 0 ∨ 1048576 < vars) : chkF vars xss = 10 := by simp only [chkF]; rw [if_pos h]
theorem chk_many {vars : Int} {xss : List (List Int)} (h : ¬ vars < 0) (h2 : ¬ 1048576 < vars) (h3 : 1048576 < xss.length) : chkF vars xss = 8 := by simp only [chkF]; rw [if_neg (by omega), if_pos h3]
theorem chk_bad {vars : Int} {xss : List (List Int)} (h : ¬ vars < 0) (h2 : ¬ 1048576 < vars) (h3 : ¬ 1048576 < xss.length) (h4 : badG vars xss = true) : chkF vars xss = 10 := by simp only [chkF]; rw [if_neg (by omega), if_neg h3, if_pos h4]
theorem chk_good {vars : Int} {xss : List (List Int)} (h : ¬ vars < 0) (h2 : ¬ 1048576 < vars) (h3 : ¬ 1048576 < xss.length) (h4 : badG vars xss = false) : chkF vars xss = 0 := by simp only [chkF]; rw [if_neg (by omega), if_neg h3, h4]; rfl

theorem bad_one {vars y : Int} {ys : List Int} {xss : List (List Int)} {k j : Nat} (hk : xss[k]? = some ys) (hj : ys[j]? = some y) (h : badV vars y = true) : badG vars xss = true :=
  gany_hit hk (gany_hit hj h)

set_option maxHeartbeats 4000000 in
theorem check_any (vars : Int) (ao : Option Addr) (n cap : Nat) (xss : List (List Int)) (w : World) (h : Grid w ao n cap xss) :
    Calls Try.prog 8 #[.int .i64 vars, .slice ao n cap] w fun e w' => e = .returned (.int .i64 (chkF vars xss)) ∧ Below w.heap.size w w' := by
  have HR : Hid (Grid w ao n cap xss) := h
  have HN : Hid (xss.length = n) := h.1
  have hm := h.max
  clear h
  by_cases h0 : vars < 0
  · have HV : Hid (chkF vars xss = 10) := chk_low xss (.inl h0)
    go_enter Try.func8, Try.ntmps8
    go_wp2
    go_step3
    go_wp2
    rw [Exit.noGoto_ret]
    go_ret
    exact ⟨by rw [HV.out]; rfl, Below.refl _ _⟩
  by_cases h1 : 1048576 < vars
  · have HV : Hid (chkF vars xss = 10) := chk_low xss (.inr h1)
    go_enter Try.func8, Try.ntmps8
    go_wp2
    go_step3
    go_wp2
    rw [Exit.noGoto_ret]
    go_ret
    exact ⟨by rw [HV.out]; rfl, Below.refl _ _⟩
  by_cases h2 : 1048576 < n
  · have HV : Hid (chkF vars xss = 8) := chk_many h0 h1 (by rw [HN.out]; exact h2)
    have h2' : (1048576 : Int) < n := by omega
    go_enter Try.func8, Try.ntmps8
    go_wp2
    go_step3
    go_wp2
    rw [Exit.noGoto_ret]
    go_ret
    exact ⟨by rw [HV.out]; rfl, Below.refl _ _⟩
  have H3 : Hid (¬ 1048576 < xss.length) := by show ¬ _; rw [HN.out]; exact h2
  have h2' : ¬ (1048576 : Int) < n := by omega
  go_enter Try.func8, Try.ntmps8
  go_wp2
  go_step3
  go_wp2
  go_step3
  go_wp2
  go_loopw [5, 22] (fun e i wr => ∃ k : Nat, k ≤ n ∧ e = .int .i64 0 ∧ i = .int .i64 k ∧ Hid ((xss.take k).any (badC vars) = false) ∧ Below w.heap.size w wr) (fun _ i _ => n - (intOf i).toNat)
  case atStart => exact ⟨0, Nat.zero_le _, rfl, rfl, rfl, Below.refl _ _⟩
  case round =>
    obtain ⟨k, hk, rfl, rfl, hno, hb⟩ := hrel
    by_cases hlt : k < n
    · obtain ⟨b, off, a1, m1, c1, ys, rfl, hc, hy, hr⟩ := HR.out.at hlt
      have hc1 := (hb.cell (cell_lt hc)).trans hc
      have hm2 := hr.out.max
      clear hc
      go_wp2
      go_loopw [5, 28] (fun e i wr => ∃ j : Nat, j ≤ m1 ∧ e = .int .i64 0 ∧ i = .int .i64 j ∧ Hid ((ys.take j).any (badV vars) = false) ∧ Below w.heap.size w wr) (fun _ i _ => m1 - (intOf i).toNat)
      case atStart => exact ⟨0, Nat.zero_le _, rfl, rfl, rfl, hb⟩
      case round =>
        clear hc1
        obtain ⟨j, hj, rfl, rfl, hnj, hbj⟩ := hrel
        by_cases hjt : j < m1
        · obtain ⟨b2, off2, y, rfl, hc2, hz, _, hu⟩ := (hr.out.keep hbj).at hjt
          by_cases v0 : varF y < 0
          · have HV : Hid (chkF vars xss = 10) := chk_bad (by omega) (by omega) H3.out (bad_one hy.out hz.out (by simp [badV, v0]))
            go_wp2_with (go_at_call 17; with_reducible (refine (var_any _ _ hu).mono ?_); rintro e w1 ⟨rfl, hb1⟩)
            rw [Exit.noGoto_ret]
            go_ret
            exact ⟨by rw [HV.out]; rfl, Below.next hbj hb1⟩
          by_cases v1 : vars ≤ varF y
          · have HV : Hid (chkF vars xss = 10) := chk_bad (by omega) (by omega) H3.out (bad_one hy.out hz.out (by simp [badV, v1]))
            go_wp2_with (go_at_call 17; with_reducible (refine (var_any _ _ hu).mono ?_); rintro e w1 ⟨rfl, hb1⟩)
            rw [Exit.noGoto_ret]
            go_ret
            exact ⟨by rw [HV.out]; rfl, Below.next hbj hb1⟩
          have HV : Hid ((ys.take (j + 1)).any (badV vars) = false) := gany_step hnj.out hz.out (by simp [badV, v0, v1])
          go_wp2_with (go_at_call 17; with_reducible (refine (var_any _ _ hu).mono ?_); rintro e w1 ⟨rfl, hb1⟩)
          go_roundw
          case rel => exact ⟨j + 1, by omega, rfl, by go_num, HV, Below.next hbj hb1⟩
          case measure => simp [intOf]; omega
        · have HV : Hid ((xss.take (k + 1)).any (badC vars) = false) := gany_step hno.out hy.out (gany_end hnj.out (by rw [hr.out.1]; omega))
          go_wp2
          go_roundw
          case rel => exact ⟨k + 1, by omega, rfl, by go_num, HV, hbj⟩
          case measure => simp [intOf]; omega
    · have HV : Hid (chkF vars xss = 0) := chk_good (by omega) (by omega) H3.out (gany_end hno.out (by rw [HN.out]; omega))
      go_wp2
      rw [Exit.noGoto_ret]
      go_ret
      exact ⟨by rw [HV.out]; rfl, hb⟩

theorem bad_lit (vars y : Int) : badV vars y = (decide (y < 0) || decide (vars ≤ y / 2)) ∨ vars < 0 := by
  by_cases h : vars < 0
  · exact .inr h
  · left
    by_cases hy : y < 0
    · have : varF y = -1 := by simp [varF, hy]
      simp [badV, this, hy]
    · have e : varF y = y / 2 := by simp [varF, hy]
      have : ¬ y / 2 < 0 := by omega
      simp only [badV, hy, e, this, decide_false, Bool.false_or]

set_option maxHeartbeats 4000000 in
theorem rcheck_any (vars : Int) (ao : Option Addr) (n cap : Nat) (xss : List (List Int)) (w : World) (h : Grid w ao n cap xss) :
    Calls Try.prog 9 #[.int .i64 vars, .slice ao n cap] w fun e w' => e = .returned (.int .i64 (chkF vars xss)) ∧ w' = w := by
  have HR : Hid (Grid w ao n cap xss) := h
  have HN : Hid (xss.length = n) := h.1
  have hm := h.max
  clear h
  by_cases h0 : vars < 0
  · have HV : Hid (chkF vars xss = 10) := chk_low xss (.inl h0)
    go_enter Try.func9, Try.ntmps9
    go_wp2
    go_ret
    exact ⟨by rw [HV.out]; rfl, rfl⟩
  by_cases h1 : 1048576 < vars
  · have HV : Hid (chkF vars xss = 10) := chk_low xss (.inr h1)
    go_enter Try.func9, Try.ntmps9
    go_wp2
    go_ret
    exact ⟨by rw [HV.out]; rfl, rfl⟩
  by_cases h2 : 1048576 < n
  · have HV : Hid (chkF vars xss = 8) := chk_many h0 h1 (by rw [HN.out]; exact h2)
    have h2' : (1048576 : Int) < n := by omega
    go_enter Try.func9, Try.ntmps9
    go_wp2
    go_ret
    exact ⟨by rw [HV.out]; rfl, rfl⟩
  have H3 : Hid (¬ 1048576 < xss.length) := by show ¬ _; rw [HN.out]; exact h2
  have h2' : ¬ (1048576 : Int) < n := by omega
  have HL : Hid (∀ y, badV vars y = (decide (y < 0) || decide (vars ≤ y / 2))) := fun y => (bad_lit vars y).resolve_right h0
  go_enter Try.func9, Try.ntmps9
  go_wp2
  go_loop [5] (fun i => ∃ k : Nat, k ≤ n ∧ i = .int .i64 k ∧ Hid ((xss.take k).any (badC vars) = false)) (fun i => n - (intOf i).toNat)
  case atStart => exact ⟨0, Nat.zero_le _, rfl, rfl⟩
  case round =>
    obtain ⟨k, hk, rfl, hno⟩ := hrel
    by_cases hlt : k < n
    · obtain ⟨b, off, a1, m1, c1, ys, rfl, hc, hy, hr⟩ := HR.out.at hlt
      have hm2 := hr.out.max
      go_wp2
      go_loop [6] (fun i => ∃ j : Nat, j ≤ m1 ∧ i = .int .i64 j ∧ Hid ((ys.take j).any (badV vars) = false)) (fun i => m1 - (intOf i).toNat)
      case atStart => exact ⟨0, Nat.zero_le _, rfl, rfl⟩
      case round =>
        obtain ⟨j, hj, rfl, hnj⟩ := hrel
        by_cases hjt : j < m1
        · obtain ⟨b2, off2, y, rfl, hc2, hz, _, hu⟩ := hr.out.at hjt
          by_cases v0 : y < 0
          · have HV : Hid (chkF vars xss = 10) := chk_bad (by omega) (by omega) H3.out (bad_one hy.out hz.out (by rw [HL.out]; simp [v0]))
            go_wp2
            go_ret
            exact ⟨by rw [HV.out]; rfl, rfl⟩
          by_cases v1 : vars ≤ y / 2
          · have HV : Hid (chkF vars xss = 10) := chk_bad (by omega) (by omega) H3.out (bad_one hy.out hz.out (by rw [HL.out]; simp [v1]))
            go_wp2
            go_ret
            exact ⟨by rw [HV.out]; rfl, rfl⟩
          have HV : Hid ((ys.take (j + 1)).any (badV vars) = false) := gany_step hnj.out hz.out (by rw [HL.out]; simp [v0, v1])
          go_wp2
          go_round
          case rel => exact ⟨j + 1, by omega, by go_num, HV⟩
          case measure => simp [intOf]; omega
        · have HV : Hid ((xss.take (k + 1)).any (badC vars) = false) := gany_step hno.out hy.out (gany_end hnj.out (by rw [hr.out.1]; omega))
          go_wp2
          go_round
          case rel => exact ⟨k + 1, by omega, by go_num, HV⟩
          case measure => simp [intOf]; omega
    · have HV : Hid (chkF vars xss = 0) := chk_good (by omega) (by omega) H3.out (gany_end hno.out (by rw [HN.out]; omega))
      go_wp2
      go_ret
      exact ⟨by rw [HV.out]; rfl, rfl⟩

/-! ### Why not all lists can be gone over -/
theorem may_not {vars : Int} {xss : List (List Int)} (h : ¬ chkF vars xss = 0) : mayF vars xss = chkF vars xss := by simp only [mayF]; rw [if_neg h]
theorem may_many {vars : Int} {xss : List (List Int)} (h : chkF vars xss = 0) (h2 : 16 < vars) : mayF vars xss = 8 := by simp only [mayF]; rw [if_pos h, if_pos h2]
theorem may_good {vars : Int} {xss : List (List Int)} (h : chkF vars xss = 0) (h2 : ¬ 16 < vars) : mayF vars xss = 0 := by simp only [mayF]; rw [if_pos h, if_neg h2]

theorem brute_any (vars : Int) (ao : Option Addr) (n cap : Nat) (xss : List (List Int)) (w : World) (h : Grid w ao n cap xss) :
    Calls Try.prog 22 #[.int .i64 vars, .slice ao n cap] w fun e w' => e = .returned (.int .i64 (mayF vars xss)) ∧ Below w.heap.size w w' := by
  have HR : Hid (Grid w ao n cap xss) := h
  clear h
  by_cases h0 : chkF vars xss = 0
  · by_cases h1 : 16 < vars
    · have HV : Hid (mayF vars xss = 8) := may_many h0 h1
      go_enter Try.func22, Try.ntmps22
      go_wp2_with (go_at_call 8; with_reducible (refine (check_any _ _ _ _ xss _ HR.out).mono ?_); rintro e w1 ⟨rfl, hb1⟩)
      go_ret
      exact ⟨by rw [HV.out]; rfl, hb1⟩
    · have HV : Hid (mayF vars xss = 0) := may_good h0 h1
      go_enter Try.func22, Try.ntmps22
      go_wp2_with (go_at_call 8; with_reducible (refine (check_any _ _ _ _ xss _ HR.out).mono ?_); rintro e w1 ⟨rfl, hb1⟩)
      go_ret
      exact ⟨by rw [HV.out]; rfl, hb1⟩
  · have HV : Hid (mayF vars xss = chkF vars xss) := may_not h0
    have h0' : (chkF vars xss == 0) = false := by simpa using h0
    go_enter Try.func22, Try.ntmps22
    go_wp2_with (go_at_call 8; with_reducible (refine (check_any _ _ _ _ xss _ HR.out).mono ?_); rintro e w1 ⟨rfl, hb1⟩)
    go_ret
    exact ⟨by rw [HV.out]; rfl, hb1⟩

theorem rmay_any (vars : Int) (ao : Option Addr) (n cap : Nat) (xss : List (List Int)) (w : World) (h : Grid w ao n cap xss) :
    Calls Try.prog 24 #[.int .i64 vars, .slice ao n cap] w fun e w' => e = .returned (.int .i64 (mayF vars xss)) ∧ w' = w := by
  have HR : Hid (Grid w ao n cap xss) := h
  clear h
  by_cases h0 : chkF vars xss = 0
  · by_cases h1 : 16 < vars
    · have HV : Hid (mayF vars xss = 8) := may_many h0 h1
      go_enter Try.func24, Try.ntmps24
      go_wp2_with (go_at_call 9; with_reducible (refine (rcheck_any _ _ _ _ xss _ HR.out).mono ?_); rintro e w1 ⟨rfl, rfl⟩)
      go_ret
      exact ⟨by rw [HV.out]; rfl, rfl⟩
    · have HV : Hid (mayF vars xss = 0) := may_good h0 h1
      go_enter Try.func24, Try.ntmps24
      go_wp2_with (go_at_call 9; with_reducible (refine (rcheck_any _ _ _ _ xss _ HR.out).mono ?_); rintro e w1 ⟨rfl, rfl⟩)
      go_ret
      exact ⟨by rw [HV.out]; rfl, rfl⟩
  · have HV : Hid (mayF vars xss = chkF vars xss) := may_not h0
    have h0' : (chkF vars xss == 0) = false := by simpa using h0
    go_enter Try.func24, Try.ntmps24
    go_wp2_with (go_at_call 9; with_reducible (refine (rcheck_any _ _ _ _ xss _ HR.out).mono ?_); rintro e w1 ⟨rfl, rfl⟩)
    go_ret
    exact ⟨by rw [HV.out]; rfl, rfl⟩

end Go.Proofs.Ytogjafmpoepgbaa
