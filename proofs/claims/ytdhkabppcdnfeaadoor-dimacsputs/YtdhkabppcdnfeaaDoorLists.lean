/-
  Lists of clauses in memory; Few, Check, and whether two lists are the same.
-/
import Derived.Test.YtdhkabppcdnfeaaDoorLits
import Derived.LoopTactic
namespace Go.Proofs.YtdhkabppcdnfeaaDoor
open Go.RowKit
set_option linter.unusedVariables false

def badV (vars x : Int) : Bool := decide (varF x < 0) || decide (vars ≤ varF x)
def badC (vars : Int) (xs : List Int) : Bool := xs.any (badV vars)
def badG (vars : Int) (xss : List (List Int)) : Bool := xss.any (badC vars)
def chkF (vars : Int) (xss : List (List Int)) : Int := if vars < 0 ∨ 1048576 < vars then 10 else if 1048576 < xss.length then 8 else if badG vars xss = true then 10 else 0

theorem gany_step {α : Type} {xs : List α} {p : α → Bool} {k : Nat} {y : α} (h : (xs.take k).any p = false) (hy : xs[k]? = some y) (hp : p y = false) : (xs.take (k + 1)).any p = false := by
  rw [List.take_add_one, List.any_append, h, hy]; simp [hp]

theorem gany_hit {α : Type} {xs : List α} {p : α → Bool} {k : Nat} {y : α} (hy : xs[k]? = some y) (hp : p y = true) : xs.any p = true :=
  List.any_eq_true.2 ⟨y, List.mem_of_getElem? hy, hp⟩

theorem gany_end {α : Type} {xs : List α} {p : α → Bool} {k : Nat} (h : (xs.take k).any p = false) (hk : xs.length ≤ k) : xs.any p = false := by
  rwa [List.take_of_length_le hk] at h

/-- The first n cells behind the address are the lists xss. -/
def Grid (w : World) (ao : Option Addr) (n cap : Nat) (xss : List (List Int)) : Prop :=
  xss.length = n ∧ n ≤ cap ∧ cap ≤ maxLen ∧ (ao = none → cap = 0) ∧ (0 < n → ∃ b off, ao = some ⟨b, off, none⟩ ∧ ∀ j, j < n → ∃ a m c, w.cell? ⟨b, off + j, none⟩ = some (.slice a m c) ∧ Row w a m c (xss.getD j []))

theorem Grid.max {w : World} {ao : Option Addr} {n cap : Nat} {xss : List (List Int)} (h : Grid w ao n cap xss) : n ≤ 9223372036854775807 := by
  have := h.2.1; have h2 := h.2.2.1; unfold maxLen at h2; omega

theorem Grid.at {w : World} {ao : Option Addr} {n cap : Nat} {xss : List (List Int)} (h : Grid w ao n cap xss) {k : Nat} (hk : k < n) :
    ∃ b off a m c ys, ao = some ⟨b, off, none⟩ ∧ w.cell? ⟨b, off + k, none⟩ = some (.slice a m c) ∧ Hid (xss[k]? = some ys) ∧ Hid (Row w a m c ys) := by
  obtain ⟨b, off, e, hc⟩ := h.2.2.2.2 (by omega)
  obtain ⟨a, m, c, h1, h2⟩ := hc k hk
  have hl : k < xss.length := by rw [h.1]; exact hk
  exact ⟨b, off, a, m, c, xss.getD k [], e, h1, by show _ = _; simp [hl], h2⟩

theorem Grid.keep {w w' : World} {ao : Option Addr} {n cap : Nat} {xss : List (List Int)} (h : Grid w ao n cap xss) (b : Below w.heap.size w w') : Grid w' ao n cap xss := by
  refine ⟨h.1, h.2.1, h.2.2.1, h.2.2.2.1, fun h0 => ?_⟩
  obtain ⟨k, off, e, hc⟩ := h.2.2.2.2 h0
  refine ⟨k, off, e, fun j hj => ?_⟩
  obtain ⟨a, m, c, h1, h2⟩ := hc j hj
  exact ⟨a, m, c, by rw [b.cell (cell_lt h1)]; exact h1, h2.keep b⟩

def longF (xs : List Int) : Bool := decide (40 < xs.length)

def fewF (xss : List (List Int)) (most : Int) : Int := if most < xss.length then 0 else if xss.any longF = true then 0 else 1

theorem few_any (ao : Option Addr) (n cap : Nat) (xss : List (List Int)) (most : Int) (w : World) (h : Grid w ao n cap xss) :
    Calls Tryd.prog 6 #[.slice ao n cap, .int .i64 most] w fun e w' => e = .returned (.int .i64 (fewF xss most)) ∧ w' = w := by
  have HR : Hid (Grid w ao n cap xss) := h
  have hm := h.max
  have hl := h.1
  clear h
  by_cases hb : most < n
  · have HV : Hid (fewF xss most = 0) := by show _ = _; simp only [fewF]; rw [if_pos (by omega)]
    clear hl
    go_enter Tryd.func6, Tryd.ntmps6
    go_wp2
    go_ret
    exact ⟨by rw [HV.out]; rfl, rfl⟩
  · have HV : Hid (fewF xss most = if xss.any longF = true then 0 else 1) := by show _ = _; simp only [fewF]; rw [if_neg (by omega)]
    clear hl
    go_enter Tryd.func6, Tryd.ntmps6
    go_wp2
    go_loop [5] (fun i => ∃ k : Nat, k ≤ n ∧ i = .int .i64 k ∧ Hid ((xss.take k).any longF = false)) (fun i => n - (intOf i).toNat)
    case atStart => exact ⟨0, Nat.zero_le _, rfl, rfl⟩
    case round =>
      obtain ⟨k, hk, rfl, hno⟩ := hrel
      by_cases hlt : k < n
      · obtain ⟨b, off, a, m, c, ys, rfl, hc, hy, hr⟩ := HR.out.at hlt
        have hm2 := hr.out.max
        by_cases he : 40 < m
        · have HW : Hid (fewF xss most = 0) := by
            show _ = _; rw [HV.out, if_pos (gany_hit hy.out (by simp only [longF, decide_eq_true_eq]; rw [hr.out.1]; exact he))]
          have he' : (40 : Int) < m := by omega
          go_wp2
          go_ret
          exact ⟨by rw [HW.out]; rfl, rfl⟩
        · have HW : Hid ((xss.take (k + 1)).any longF = false) := gany_step hno.out hy.out (by simp only [longF, decide_eq_false_iff_not]; rw [hr.out.1]; exact he)
          have he' : ¬ (40 : Int) < m := by omega
          go_wp2
          go_round
          case rel => exact ⟨k + 1, by omega, by go_num, HW⟩
          case measure => simp [intOf]; omega
      · have HW : Hid (fewF xss most = 1) := by
          have := gany_end hno.out (by rw [HR.out.1]; omega)
          show _ = _; rw [HV.out, this]; rfl
        go_wp2
        go_ret
        exact ⟨by rw [HW.out]; rfl, rfl⟩

theorem chk_low {vars : Int} (xss : List (List Int)) (h : vars < 0 ∨ 1048576 < vars) : chkF vars xss = 10 := by simp only [chkF]; rw [if_pos h]

theorem chk_many {vars : Int} {xss : List (List Int)} (h : ¬ vars < 0) (h2 : ¬ 1048576 < vars) (h3 : 1048576 < xss.length) : chkF vars xss = 8 := by simp only [chkF]; rw [if_neg (by omega), if_pos h3]

theorem chk_bad {vars : Int} {xss : List (List Int)} (h : ¬ vars < 0) (h2 : ¬ 1048576 < vars) (h3 : ¬ 1048576 < xss.length) (h4 : badG vars xss = true) : chkF vars xss = 10 := by simp only [chkF]; rw [if_neg (by omega), if_neg h3, if_pos h4]

theorem chk_good {vars : Int} {xss : List (List Int)} (h : ¬ vars < 0) (h2 : ¬ 1048576 < vars) (h3 : ¬ 1048576 < xss.length) (h4 : badG vars xss = false) : chkF vars xss = 0 := by simp only [chkF]; rw [if_neg (by omega), if_neg h3, h4]; rfl

theorem bad_one {vars y : Int} {ys : List Int} {xss : List (List Int)} {k j : Nat} (hk : xss[k]? = some ys) (hj : ys[j]? = some y) (h : badV vars y = true) : badG vars xss = true :=
  gany_hit hk (gany_hit hj h)

set_option maxHeartbeats 4000000 in
theorem check_any (vars : Int) (ao : Option Addr) (n cap : Nat) (xss : List (List Int)) (w : World) (h : Grid w ao n cap xss) :
    Calls Tryd.prog 13 #[.int .i64 vars, .slice ao n cap] w fun e w' => e = .returned (.int .i64 (chkF vars xss)) ∧ Below w.heap.size w w' := by
  have HR : Hid (Grid w ao n cap xss) := h
  have HN : Hid (xss.length = n) := h.1
  have hm := h.max
  clear h
  by_cases h0 : vars < 0
  · have HV : Hid (chkF vars xss = 10) := chk_low xss (.inl h0)
    go_enter Tryd.func13, Tryd.ntmps13
    go_wp2
    go_step3
    go_wp2
    rw [Exit.noGoto_ret]
    go_ret
    exact ⟨by rw [HV.out]; rfl, Below.refl _ _⟩
  by_cases h1 : 1048576 < vars
  · have HV : Hid (chkF vars xss = 10) := chk_low xss (.inr h1)
    go_enter Tryd.func13, Tryd.ntmps13
    go_wp2
    go_step3
    go_wp2
    rw [Exit.noGoto_ret]
    go_ret
    exact ⟨by rw [HV.out]; rfl, Below.refl _ _⟩
  by_cases h2 : 1048576 < n
  · have HV : Hid (chkF vars xss = 8) := chk_many h0 h1 (by rw [HN.out]; exact h2)
    have h2' : (1048576 : Int) < n := by omega
    go_enter Tryd.func13, Tryd.ntmps13
    go_wp2
    go_step3
    go_wp2
    rw [Exit.noGoto_ret]
    go_ret
    exact ⟨by rw [HV.out]; rfl, Below.refl _ _⟩
  have H3 : Hid (¬ 1048576 < xss.length) := by show ¬ _; rw [HN.out]; exact h2
  have h2' : ¬ (1048576 : Int) < n := by omega
  go_enter Tryd.func13, Tryd.ntmps13
  go_wp2
  go_step3
  go_wp2
  go_step3
  go_wp2
  go_loopw [5, 22] (fun e i wr => ∃ k : Nat, k ≤ n ∧ e = .int .i64 0 ∧ i = .int .i64 k ∧ Hid ((xss.take k).any (badC vars) = false) ∧ Below w.heap.size w wr) (fun _ i _ => n - (intOf i).toNat)
  case atStart => exact ⟨0, Nat.zero_le _, rfl, rfl, rfl, Below.refl _ _⟩
  case round =>
    obtain ⟨k, hk, rfl, rfl, hno, hb⟩ := hrel
    by_cases hlt : k < n
    · obtain ⟨b, off, a1, m1, c1, ys, rfl, hc, hy, hr⟩ := HR.out.at hlt
      have hc1 := (hb.cell (cell_lt hc)).trans hc
      have hm2 := hr.out.max
      clear hc
      go_wp2
      go_loopw [5, 28] (fun e i wr => ∃ j : Nat, j ≤ m1 ∧ e = .int .i64 0 ∧ i = .int .i64 j ∧ Hid ((ys.take j).any (badV vars) = false) ∧ Below w.heap.size w wr) (fun _ i _ => m1 - (intOf i).toNat)
      case atStart => exact ⟨0, Nat.zero_le _, rfl, rfl, rfl, hb⟩
      case round =>
        clear hc1
        obtain ⟨j, hj, rfl, rfl, hnj, hbj⟩ := hrel
        by_cases hjt : j < m1
        · obtain ⟨b2, off2, y, rfl, hc2, hz, _, hu⟩ := (hr.out.keep hbj).at hjt
          by_cases v0 : varF y < 0
          · have HV : Hid (chkF vars xss = 10) := chk_bad (by omega) (by omega) H3.out (bad_one hy.out hz.out (by simp [badV, v0]))
            go_wp2_with (go_at_call 24; with_reducible (refine (var_any _ _ hu).mono ?_); rintro e w1 ⟨rfl, hb1⟩)
            rw [Exit.noGoto_ret]
            go_ret
            exact ⟨by rw [HV.out]; rfl, Below.next hbj hb1⟩
          by_cases v1 : vars ≤ varF y
          · have HV : Hid (chkF vars xss = 10) := chk_bad (by omega) (by omega) H3.out (bad_one hy.out hz.out (by simp [badV, v1]))
            go_wp2_with (go_at_call 24; with_reducible (refine (var_any _ _ hu).mono ?_); rintro e w1 ⟨rfl, hb1⟩)
            rw [Exit.noGoto_ret]
            go_ret
            exact ⟨by rw [HV.out]; rfl, Below.next hbj hb1⟩
          have HV : Hid ((ys.take (j + 1)).any (badV vars) = false) := gany_step hnj.out hz.out (by simp [badV, v0, v1])
          go_wp2_with (go_at_call 24; with_reducible (refine (var_any _ _ hu).mono ?_); rintro e w1 ⟨rfl, hb1⟩)
          go_roundw
          case rel => exact ⟨j + 1, by omega, rfl, by go_num, HV, Below.next hbj hb1⟩
          case measure => simp [intOf]; omega
        · have HV : Hid ((xss.take (k + 1)).any (badC vars) = false) := gany_step hno.out hy.out (gany_end hnj.out (by rw [hr.out.1]; omega))
          go_wp2
          go_roundw
          case rel => exact ⟨k + 1, by omega, rfl, by go_num, HV, hbj⟩
          case measure => simp [intOf]; omega
    · have HV : Hid (chkF vars xss = 0) := chk_good (by omega) (by omega) H3.out (gany_end hno.out (by rw [HN.out]; omega))
      go_wp2
      rw [Exit.noGoto_ret]
      go_ret
      exact ⟨by rw [HV.out]; rfl, hb⟩

theorem bad_lit (vars y : Int) : badV vars y = (decide (y < 0) || decide (vars ≤ y / 2)) ∨ vars < 0 := by
  by_cases h : vars < 0
  · exact .inr h
  · left
    by_cases hy : y < 0
    · have : varF y = -1 := by simp [varF, hy]
      simp [badV, this, hy]
    · have e : varF y = y / 2 := by simp [varF, hy]
      have : ¬ y / 2 < 0 := by omega
      simp only [badV, hy, e, this, decide_false, Bool.false_or]

set_option maxHeartbeats 4000000 in
theorem rcheck_any (vars : Int) (ao : Option Addr) (n cap : Nat) (xss : List (List Int)) (w : World) (h : Grid w ao n cap xss) :
    Calls Tryd.prog 16 #[.int .i64 vars, .slice ao n cap] w fun e w' => e = .returned (.int .i64 (chkF vars xss)) ∧ w' = w := by
  have HR : Hid (Grid w ao n cap xss) := h
  have HN : Hid (xss.length = n) := h.1
  have hm := h.max
  clear h
  by_cases h0 : vars < 0
  · have HV : Hid (chkF vars xss = 10) := chk_low xss (.inl h0)
    go_enter Tryd.func16, Tryd.ntmps16
    go_wp2
    go_ret
    exact ⟨by rw [HV.out]; rfl, rfl⟩
  by_cases h1 : 1048576 < vars
  · have HV : Hid (chkF vars xss = 10) := chk_low xss (.inr h1)
    go_enter Tryd.func16, Tryd.ntmps16
    go_wp2
    go_ret
    exact ⟨by rw [HV.out]; rfl, rfl⟩
  by_cases h2 : 1048576 < n
  · have HV : Hid (chkF vars xss = 8) := chk_many h0 h1 (by rw [HN.out]; exact h2)
    have h2' : (1048576 : Int) < n := by omega
    go_enter Tryd.func16, Tryd.ntmps16
    go_wp2
    go_ret
    exact ⟨by rw [HV.out]; rfl, rfl⟩
  have H3 : Hid (¬ 1048576 < xss.length) := by show ¬ _; rw [HN.out]; exact h2
  have h2' : ¬ (1048576 : Int) < n := by omega
  have HL : Hid (∀ y, badV vars y = (decide (y < 0) || decide (vars ≤ y / 2))) := fun y => (bad_lit vars y).resolve_right h0
  go_enter Tryd.func16, Tryd.ntmps16
  go_wp2
  go_loop [5] (fun i => ∃ k : Nat, k ≤ n ∧ i = .int .i64 k ∧ Hid ((xss.take k).any (badC vars) = false)) (fun i => n - (intOf i).toNat)
  case atStart => exact ⟨0, Nat.zero_le _, rfl, rfl⟩
  case round =>
    obtain ⟨k, hk, rfl, hno⟩ := hrel
    by_cases hlt : k < n
    · obtain ⟨b, off, a1, m1, c1, ys, rfl, hc, hy, hr⟩ := HR.out.at hlt
      have hm2 := hr.out.max
      go_wp2
      go_loop [6] (fun i => ∃ j : Nat, j ≤ m1 ∧ i = .int .i64 j ∧ Hid ((ys.take j).any (badV vars) = false)) (fun i => m1 - (intOf i).toNat)
      case atStart => exact ⟨0, Nat.zero_le _, rfl, rfl⟩
      case round =>
        obtain ⟨j, hj, rfl, hnj⟩ := hrel
        by_cases hjt : j < m1
        · obtain ⟨b2, off2, y, rfl, hc2, hz, _, hu⟩ := hr.out.at hjt
          by_cases v0 : y < 0
          · have HV : Hid (chkF vars xss = 10) := chk_bad (by omega) (by omega) H3.out (bad_one hy.out hz.out (by rw [HL.out]; simp [v0]))
            go_wp2
            go_ret
            exact ⟨by rw [HV.out]; rfl, rfl⟩
          by_cases v1 : vars ≤ y / 2
          · have HV : Hid (chkF vars xss = 10) := chk_bad (by omega) (by omega) H3.out (bad_one hy.out hz.out (by rw [HL.out]; simp [v1]))
            go_wp2
            go_ret
            exact ⟨by rw [HV.out]; rfl, rfl⟩
          have HV : Hid ((ys.take (j + 1)).any (badV vars) = false) := gany_step hnj.out hz.out (by rw [HL.out]; simp [v0, v1])
          go_wp2
          go_round
          case rel => exact ⟨j + 1, by omega, by go_num, HV⟩
          case measure => simp [intOf]; omega
        · have HV : Hid ((xss.take (k + 1)).any (badC vars) = false) := gany_step hno.out hy.out (gany_end hnj.out (by rw [hr.out.1]; omega))
          go_wp2
          go_round
          case rel => exact ⟨k + 1, by omega, by go_num, HV⟩
          case measure => simp [intOf]; omega
    · have HV : Hid (chkF vars xss = 0) := chk_good (by omega) (by omega) H3.out (gany_end hno.out (by rw [HN.out]; omega))
      go_wp2
      go_ret
      exact ⟨by rw [HV.out]; rfl, rfl⟩

def sameF (xs ys : List Int) : Bool := decide (xs = ys)

theorem same_step {xs ys : List Int} {k : Nat} {y : Int} (h : xs.take k = ys.take k) (hx : xs[k]? = some y) (hy : ys[k]? = some y) : xs.take (k + 1) = ys.take (k + 1) := by
  rw [List.take_add_one, List.take_add_one, h, hx, hy]

set_option maxHeartbeats 1000000 in
theorem same_any (ao bo : Option Addr) (n m cap cbp : Nat) (xs ys : List Int) (w : World) (h : Row w ao n cap xs) (g : Row w bo m cbp ys) :
    Calls Tryd.prog 23 #[.slice ao n cap, .slice bo m cbp] w fun e w' => e = .returned (.bool (sameF xs ys)) ∧ Below w.heap.size w w' := by
  have HR : Hid (Row w ao n cap xs) := h
  have GR : Hid (Row w bo m cbp ys) := g
  have hm := h.max
  have gm := g.max
  by_cases hne : n = m
  · subst hne
    clear h g
    go_enter Tryd.func23, Tryd.ntmps23
    go_wp2
    go_loopw [5] (fun i wr => ∃ k : Nat, k ≤ n ∧ i = .int .i64 k ∧ Hid (xs.take k = ys.take k) ∧ Below w.heap.size w wr) (fun i _ => n - (intOf i).toNat)
    case atStart => exact ⟨0, Nat.zero_le _, rfl, rfl, Below.refl _ _⟩
    case round =>
      obtain ⟨k, hk, rfl, hno, hb⟩ := hrel
      by_cases hlt : k < n
      · obtain ⟨b, off, y, rfl, hc, hy, _, _⟩ := (HR.out.keep hb).at hlt
        obtain ⟨c, ogg, z, rfl, gc, hz, _, _⟩ := (GR.out.keep hb).at hlt
        by_cases he : y = z
        · subst he
          have HV : Hid (xs.take (k + 1) = ys.take (k + 1)) := same_step hno.out hy.out hz.out
          go_wp2
          go_region
          all_goals go_wp2
          all_goals go_roundw
          all_goals first | exact ⟨k + 1, by omega, by go_num, HV, by first | exact hb | exact hb.drew | exact hb.drew.drew⟩ | (simp [intOf]; omega)
        · have HV : Hid (sameF xs ys = false) := by
            show sameF xs ys = false
            simp only [sameF, decide_eq_false_iff_not]
            rintro rfl
            have := hy.out.symm.trans hz.out
            simp at this; exact he this
          have he' : (y == z) = false := by simpa using he
          go_wp2
          go_region
          all_goals go_wp2
          all_goals go_ret
          all_goals exact ⟨by rw [HV.out]; rfl, by first | exact hb | exact hb.drew | exact hb.drew.drew⟩
      · have HV : Hid (sameF xs ys = true) := by
          have e := hno.out
          rw [List.take_of_length_le (by rw [HR.out.1]; omega), List.take_of_length_le (by rw [GR.out.1]; omega)] at e
          show sameF xs ys = true
          simp [sameF, e]
        go_wp2
        go_ret
        exact ⟨by rw [HV.out]; rfl, hb⟩
  · have HV : Hid (sameF xs ys = false) := by
      show sameF xs ys = false
      simp only [sameF, decide_eq_false_iff_not]
      rintro rfl
      exact hne (h.1.symm.trans g.1)
    clear h g
    have hne' : ((n : Int) == (m : Int)) = false := by simp; omega
    go_enter Tryd.func23, Tryd.ntmps23
    go_wp2
    go_ret
    exact ⟨by rw [HV.out]; rfl, Below.refl _ _⟩

end Go.Proofs.YtdhkabppcdnfeaaDoor
