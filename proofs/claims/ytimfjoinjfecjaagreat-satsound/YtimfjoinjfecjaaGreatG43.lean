/-
  The walk of SatSound.
  The walk of SatWhole.
  What a walk is told of lists that came in.
-/
import Derived.Test.YtimfjoinjfecjaaGreatG42
import Derived.ChangeOld
import Derived.OpenShut
import Derived.Deep.Matrix
import Derived.Deep.Grids

namespace Go.Proofs.YtimfjoinjfecjaaGreat
open Go.RowKit Go.Maps
set_option linter.unusedVariables false

/-- Clauses that may be, as their literals are. -/
theorem chk_parts {vars : Int} {l : List (List Int)} (h : U.chkF vars l = 0) : ∃ n : Nat, vars = n ∧ ∀ c ∈ l, ∀ y ∈ c, 0 ≤ y ∧ y < 2 * (n : Int) := by
  have h1 : ¬ (vars < 0 ∨ 1048576 < vars) := fun q => by rw [U.chk_low l q] at h; omega
  have h2 : ¬ 1048576 < l.length := fun q => by rw [U.chk_many (by omega) (by omega) q] at h; omega
  have h3 : U.badG vars l = false := by
    cases q : U.badG vars l
    · rfl
    · rw [U.chk_bad (by omega) (by omega) h2 q] at h; omega
  obtain ⟨n, rfl⟩ : ∃ n : Nat, vars = n := ⟨vars.toNat, by omega⟩
  refine ⟨n, rfl, fun c hc y hy => ?_⟩
  have h4 : U.badC n c = false := by
    have := List.any_eq_false.1 (show l.any (U.badC n) = false from h3) c hc
    simpa using this
  obtain ⟨a1, a2, a3, a4⟩ := U.good_lit h4 hy
  omega

theorem model_holds {n : Nat} {l : List (List Int)} {tr : List Bool} (hl : tr.length = n) (h : ∀ c ∈ l, ∃ x ∈ c, tr[vl x]? = some (!decide (x % 2 = 1)) ∧ 0 ≤ x) : ∀ c ∈ l, U.holdsF c n (fun i => tr.getD i false) = true := by
  intro c hc
  obtain ⟨x, hx, h1, h0⟩ := h c hc
  refine List.any_eq_true.2 ⟨x, hx, ?_⟩
  have hi := (List.getElem?_eq_some_iff.1 h1).1
  have e1 : (x / 2).toNat = vl x := by unfold vl; omega
  have e2 : x / 2 < (n : Int) := by unfold vl at hi; omega
  unfold U.holF U.truF U.negF
  rw [if_neg (by omega), e1]
  simp only [List.getD_eq_getElem?_getD, h1, Option.getD_some, e2, decide_true, Bool.true_and, h0, true_and]
  cases decide (x % 2 = 1) <;> rfl

theorem holds_neg {n : Nat} {l : List (List Int)} {B : Nat → Bool} (h : ∀ c ∈ l, U.holdsF c n B = true) : U.fstN l n B < 0 := by
  have e := U.fstN_neg l n B
  have : l.any (U.missF n B) = false := by
    rw [List.any_eq_false]
    intro c hc
    unfold U.missF
    rw [h c hc]; decide
  rw [this] at e
  simpa using e

theorem few_parts {z : List (List Int)} {m : Nat} (h : ¬ U.fewF z (m : Nat) = 0) : z.length ≤ m ∧ ∀ c ∈ z, c.length ≤ 40 := ⟨U.few_len h, U.few_short h⟩

theorem sound_K {n bud L : Nat} (hn : n ≤ 60) (hb : bud ≤ 300) (hL : L ≤ 60) : L + (bud * (3 * n + 9) + (n + 1)) * (n * (L + bud) + 2) ≤ 250000000000 := by
  have a1 : bud * (3 * n + 9) ≤ 300 * 189 := Nat.mul_le_mul hb (by omega)
  have a2 : n * (L + bud) ≤ 60 * 360 := Nat.mul_le_mul hn (by omega)
  have a3 : (bud * (3 * n + 9) + (n + 1)) * (n * (L + bud) + 2) ≤ (300 * 189 + 61) * (60 * 360 + 2) := Nat.mul_le_mul (by omega) (by omega)
  omega

section
variable {w : World} {a : Option Addr} {len cap : Nat} {z : List (List Int)}

theorem sol_300 {n bud : Nat} (hg : U.Grid w a len cap z) (hc : U.chkF n z = 0) (hf : ¬ U.fewF z 60 = 0) (hn : n ≤ 60) (hb : bud ≤ 300) :
    Calls Tryz.prog 9 #[.int .i64 n, .slice a len cap, .int .i64 bud] w fun e w' => ∃ r, e = .returned (.tuple #[r, .int .i64 0]) ∧ SolEnd true n z bud w r w' := by
  obtain ⟨f1, f2⟩ := few_parts (m := 60) hf
  obtain ⟨m, hm, hx⟩ := chk_parts hc
  have hmn : n = m := by omega
  subst hmn
  have hl := hg.1
  exact solve_good a len cap hg hc (fun c hc => ⟨by have := f2 c hc; omega, hx c hc⟩) (by omega) (by omega) (by omega) (sound_K hn hb f1) (fun c w0 _ _ _ => anew_plain (.inr (by omega)) (by omega))

theorem SolEnd.out {al : Bool} {n bud : Nat} {r : Value} {w' : World} (h : SolEnd al n z bud w r w') :
  (∃ (tb cf : Nat) (tr : List Bool), r = .agg #[.int .i64 1, .slice (some ⟨tb, 0, none⟩) n n, .int .i64 cf, .slice none 0 0] ∧ Hid (Below w.heap.size w w') ∧ Hid (w'.heap[tb]? = some (.cells (tr.map Value.bool).toArray 4 (0, 0))) ∧ Hid (tr.length = n ∧ cf ≤ bud ∧ ∀ c ∈ z, ∃ x ∈ c, tr[vl x]? = some (!decide (x % 2 = 1)) ∧ 0 ≤ x)) ∨
  (∃ (a : Option Addr) (k cp cf : Nat) (P : List (List Int)), r = .agg #[.int .i64 2, .slice none 0 0, .int .i64 cf, .slice a k cp] ∧ Hid (Below w.heap.size w w') ∧ Hid (U.Grid w' a k cp (P ++ [[]])) ∧ Hid (cf = P.length ∧ cf ≤ bud ∧ Fin al n z P ∧ U.Stp (z ++ P) [])) ∨
  (∃ P : List (List Int), r = .agg #[.int .i64 0, .slice none 0 0, .int .i64 bud, .slice none 0 0] ∧ Hid (Below w.heap.size w w') ∧ Hid (P.length = bud ∧ Fin al n z P)) := h

theorem BEnd.yes {p : Prop} {e : Ending} {w w' : World} (h : BEnd w p e w') (hp : p) : e = .returned (.bool true) ∧ Hid (Below w.heap.size w w') := by
  obtain ⟨b, rfl, h1, h2⟩ := h
  rw [h1.out.2 hp]
  exact ⟨rfl, h2⟩

theorem prf_short {al : Bool} {n : Nat} {P : List (List Int)} (f : Fin al n z P) (hn : n ≤ 60) : ∀ c ∈ P ++ [[]], c.length ≤ 100 := by
  intro c hc
  rcases List.mem_append.1 hc with hc | hc
  · obtain ⟨i, hi⟩ := List.mem_iff_getElem?.1 hc
    have := (f.ok i c hi).ln
    omega
  · rw [List.mem_singleton] at hc; subst hc; simp

set_option maxRecDepth 20000 in
set_option maxHeartbeats 8000000 in
theorem sound_walk (vars : Int) (bd : Int) (hg : U.Grid w a len cap z) (wv : -9223372036854775808 ≤ vars ∧ vars ≤ 9223372036854775807) (wb : -9223372036854775808 ≤ bd ∧ bd ≤ 9223372036854775807) :
    Calls Tryz.prog 3 #[.int .i64 vars, .slice a len cap, .int .i64 bd] w fun e w' => e = .returned (.bool true) ∧ Below w.heap.size w w' := by
  have HG := hid hg
  by_cases hf : U.fewF z 60 = 0
  · have HF := hid hf
    clear hg hf
    go_enter Tryz.func3, Tryz.ntmps3
    go_wp2_with (first
      | (go_at_call 7; with_reducible (refine (U.few_any _ _ _ _ _ _ HG.out).mono ?_); rw [HF.out]; rintro e w1 ⟨rfl, rfl⟩)
      | (go_at_call 8; with_reducible (refine (awake_is _).mono ?_); rintro e w2 ⟨rfl, b2⟩))
    go_ret
    exact ⟨rfl, b2.out⟩
  · obtain ⟨fz, hfz⟩ : ∃ fz, U.fewF z 60 = fz := ⟨_, rfl⟩
    have HFN := hid hf
    rw [hfz] at hf
    have hf0 : (fz == 0) = false := by rw [beq_eq_false_iff_ne]; exact hf
    have HF := hid hfz
    clear hg hfz
    by_cases hv : 60 < vars
    · go_enter Tryz.func3, Tryz.ntmps3
      go_wp2_with (first
        | (go_at_call 7; with_reducible (refine (U.few_any _ _ _ _ _ _ HG.out).mono ?_); rw [HF.out]; rintro e w1 ⟨rfl, rfl⟩)
        | (go_at_call 8; with_reducible (refine (awake_is _).mono ?_); rintro e w2 ⟨rfl, b2⟩))
      go_ret
      exact ⟨rfl, b2.out⟩
    · by_cases hb : 300 < bd
      · go_enter Tryz.func3, Tryz.ntmps3
        go_wp2_with (first
          | (go_at_call 7; with_reducible (refine (U.few_any _ _ _ _ _ _ HG.out).mono ?_); rw [HF.out]; rintro e w1 ⟨rfl, rfl⟩)
          | (go_at_call 8; with_reducible (refine (awake_is _).mono ?_); rintro e w2 ⟨rfl, b2⟩))
        go_ret
        exact ⟨rfl, b2.out⟩
      · obtain ⟨ck, hck⟩ : ∃ ck, U.chkF vars z = ck := ⟨_, rfl⟩
        by_cases hc : ck = 0
        · subst hc
          have HC := hid hck
          by_cases hbn : bd < 0
          · clear hck
            have hbn' : ¬ (0 : Int) ≤ bd := by omega
            go_enter Tryz.func3, Tryz.ntmps3
            go_wp2_with (first
              | (go_at_call 7; with_reducible (refine (U.few_any _ _ _ _ _ _ HG.out).mono ?_); rw [HF.out]; rintro e w1 ⟨rfl, rfl⟩)
              | (go_at_call 9; with_reducible (refine (solve_neg _ _ _ _ _ HG.out HC.out hbn).mono ?_); rintro e w2 ⟨rfl, b2⟩; have HG2 := hid (HG.out.keep (Below.next b2.out (alloc_below w2 (.cells #[.int .i64 0, .slice none 0 0, .int .i64 0, .slice none 0 0] 27)))))
              | (go_at_call 10; with_reducible (refine (U.rcheck_any _ _ _ _ _ _ HG2.out).mono ?_); rw [HC.out]; rintro e w3 ⟨rfl, rfl⟩)
              | (go_at_call 8; with_reducible (refine (awake_is _).mono ?_); rintro e w4 ⟨rfl, b4⟩))
            go_ret
            exact ⟨rfl, Below.next (Below.next b2.out (alloc_below _ _)) b4.out⟩
          · obtain ⟨n, rfl, hx⟩ := chk_parts hck
            obtain ⟨bud, rfl⟩ : ∃ bud : Nat, bd = bud := ⟨bd.toNat, by omega⟩
            have hn60 : n ≤ 60 := by omega
            have hb300 : bud ≤ 300 := by omega
            have HFP := hid (few_parts (m := 60) HFN.out)
            clear hck hx
            go_enter Tryz.func3, Tryz.ntmps3
            go_wp2_with (first
              | (go_at_call 7; with_reducible (refine (U.few_any _ _ _ _ _ _ HG.out).mono ?_); rw [HF.out]; rintro e w1 ⟨rfl, rfl⟩)
              | (go_at_call 9; with_reducible (refine (sol_300 HG.out HC.out HFN.out hn60 hb300).mono ?_); rintro e w2 ⟨r, rfl, hS⟩; have hS2 := SolEnd.out hS; clear hS; rcases hS2 with ⟨tb, cf, tr, rfl, b2, t2, m2⟩ | ⟨pa, k, cp, cf, P, rfl, b2, g2, m2⟩ | ⟨P, rfl, b2, m2⟩))
            · have HG2 := hid (HG.out.keep (Below.next b2.out (alloc_below w2 (.cells #[.int .i64 1, .slice (some ⟨tb, 0, none⟩) n n, .int .i64 cf, .slice none 0 0] 27))))
              have HB2 := hid (bools_blk (old_blk (alloc_below w2 (.cells #[.int .i64 1, .slice (some ⟨tb, 0, none⟩) n n, .int .i64 cf, .slice none 0 0] 27)) t2.out) m2.out.1 (by omega))
              obtain ⟨fh, hfh⟩ : ∃ fh, U.fstN z n (fun i => tr.getD i false) = fh := ⟨_, rfl⟩
              have hfn : fh < 0 := by rw [← hfh]; exact holds_neg (model_holds m2.out.1 m2.out.2.2)
              have HFH := hid hfh
              have c1 : ¬ (cf : Int) < 0 := by omega
              have c2 : ¬ (bud : Int) < cf := by have := m2.out.2.1; omega
              clear hfh
              go_wp2_with (first
                | (go_at_call 10; with_reducible (refine (U.rcheck_any _ _ _ _ _ _ HG2.out).mono ?_); rw [HC.out]; rintro e w3 ⟨rfl, rfl⟩)
                | (go_at_call 11; with_reducible (refine (U.rholdsG_any _ _ _ _ _ HG2.out _ _ _ _ HB2.out).mono ?_); rw [HFH.out]; rintro e w4 ⟨rfl, rfl⟩)
                | (go_at_call 8; with_reducible (refine (awake_is _).mono ?_); rintro e w5 ⟨rfl, b5⟩))
              go_ret
              exact ⟨rfl, Below.next (Below.next b2.out (alloc_below _ _)) b5.out⟩
            · have HG2 := hid (HG.out.keep (Below.next b2.out (alloc_below w2 (.cells #[.int .i64 2, .slice none 0 0, .int .i64 cf, .slice pa k cp] 27))))
              have HP2 := hid (g2.out.keep (alloc_below w2 (.cells #[.int .i64 2, .slice none 0 0, .int .i64 cf, .slice pa k cp] 27)))
              have c1 : ¬ (cf : Int) < 0 := by omega
              have c2 : ¬ (bud : Int) < cf := by have := m2.out.2.1; omega
              have hk : k ≤ 400 := by
                have q1 := g2.out.1
                have q2 := m2.out.1
                have q3 := m2.out.2.1
                simp at q1; omega
              have hln : len ≤ 100 := by have q1 := HG.out.1; have q2 := HFP.out.1; omega
              have HS1 : Hid (∀ c ∈ z, c.length ≤ 100) := hid (fun c hc => by have := HFP.out.2 c hc; omega)
              have HS2 := hid (prf_short m2.out.2.2.1 hn60)
              have HRF := hid (fin_ref m2.out.2.2.1 m2.out.2.2.2)
              go_wp2_with (first
                | (go_at_call 10; with_reducible (refine (U.rcheck_any _ _ _ _ _ _ HG2.out).mono ?_); rw [HC.out]; rintro e w3 ⟨rfl, rfl⟩)
                | (go_at_call 12; with_reducible (refine (prf_refutes _ _ _ _ _ HG2.out _ _ _ _ HP2.out hln hk HS1.out HS2.out).mono ?_); intro e w4 hB; have hB2 := BEnd.yes hB HRF.out; obtain ⟨rfl, b4⟩ := hB2)
                | (go_at_call 8; with_reducible (refine (awake_is _).mono ?_); rintro e w5 ⟨rfl, b5⟩))
              go_ret
              exact ⟨rfl, Below.next (Below.next (Below.next b2.out (alloc_below _ _)) b4.out) b5.out⟩
            · have HG2 := hid (HG.out.keep (Below.next b2.out (alloc_below w2 (.cells #[.int .i64 0, .slice none 0 0, .int .i64 bud, .slice none 0 0] 27))))
              have c1 : ¬ (bud : Int) < 0 := by omega
              have c2 : ¬ (bud : Int) < bud := by omega
              go_wp2_with (first
                | (go_at_call 10; with_reducible (refine (U.rcheck_any _ _ _ _ _ _ HG2.out).mono ?_); rw [HC.out]; rintro e w3 ⟨rfl, rfl⟩)
                | (go_at_call 8; with_reducible (refine (awake_is _).mono ?_); rintro e w5 ⟨rfl, b5⟩))
              go_ret
              exact ⟨rfl, Below.next (Below.next b2.out (alloc_below _ _)) b5.out⟩
        · have HC := hid hck
          have hc0 : (ck == 0) = false := by rw [beq_eq_false_iff_ne]; exact hc
          have HCN : Hid (¬ U.chkF vars z = 0) := hid (by rw [hck]; exact hc)
          clear hck
          go_enter Tryz.func3, Tryz.ntmps3
          go_wp2_with (first
            | (go_at_call 7; with_reducible (refine (U.few_any _ _ _ _ _ _ HG.out).mono ?_); rw [HF.out]; rintro e w1 ⟨rfl, rfl⟩)
            | (go_at_call 9; with_reducible (refine (solve_bad _ _ _ _ _ HG.out HCN.out).mono ?_); rw [HC.out]; rintro e w2 ⟨rfl, b2⟩; have HG2 := hid (HG.out.keep (Below.next b2.out (alloc_below w2 (.cells #[.int .i64 0, .slice none 0 0, .int .i64 0, .slice none 0 0] 27)))))
            | (go_at_call 10; with_reducible (refine (U.rcheck_any _ _ _ _ _ _ HG2.out).mono ?_); rw [HC.out]; rintro e w3 ⟨rfl, rfl⟩)
            | (go_at_call 8; with_reducible (refine (awake_is _).mono ?_); rintro e w4 ⟨rfl, b4⟩))
          go_ret
          exact ⟨rfl, Below.next (Below.next b2.out (alloc_below _ _)) b4.out⟩
end
end Go.Proofs.YtimfjoinjfecjaaGreat

namespace Go.Proofs.YtimfjoinjfecjaaGreat
open Go.RowKit Go.Maps
set_option linter.unusedVariables false

/-- Truths as a number. -/
def numB : List Bool → Nat
  | [] => 0
  | b :: bs => 2 * numB bs + b.toNat

theorem numB_lt : ∀ bs : List Bool, numB bs < 2 ^ bs.length := by
  intro bs
  induction bs with
  | nil => decide
  | cons b bs ih =>
    simp only [numB, List.length_cons, Nat.pow_succ]
    cases b <;> simp <;> omega

theorem numB_bit : ∀ (bs : List Bool) (v : Nat), (numB bs).testBit v = bs.getD v false := by
  intro bs
  induction bs with
  | nil => intro v; simp [numB]
  | cons b bs ih =>
    intro v
    cases v with
    | zero =>
      rw [Nat.testBit_zero]
      simp only [numB, List.getD_cons_zero]
      cases b <;> simp <;> omega
    | succ v =>
      rw [Nat.testBit_succ]
      have : numB (b :: bs) / 2 = numB bs := by
        simp only [numB]
        cases b <;> simp <;> omega
      rw [this, ih]
      simp

theorem cnt_pos {p : Nat → Bool} {m i : Nat} (hi : i < m) (h : p i = true) : 0 < U.cntF p m := by
  unfold U.cntF
  exact List.countP_pos_iff.2 ⟨i, List.mem_range.2 hi, h⟩
theorem cnt_none {p : Nat → Bool} {m : Nat} (h : ∀ i, i < m → p i = false) : U.cntF p m = 0 := by
  unfold U.cntF
  rw [List.countP_eq_zero]
  intro i hi
  rw [h i (List.mem_range.1 hi)]; decide

theorem ok_iff {n : Nat} {l : List (List Int)} {i : Nat} : U.okF n l i = true ↔ ∀ c ∈ l, U.holdsF c n (fun v => i.testBit v) = true := by
  unfold U.okF
  rw [Bool.not_eq_true', List.any_eq_false]
  constructor
  · intro h c hc
    have := h c hc
    unfold U.missF at this
    simpa using this
  · intro h c hc
    unfold U.missF
    rw [h c hc]; decide

theorem count_sat {n : Nat} {l : List (List Int)} {tr : List Bool} (hm : U.mayF n l = 0) (hl : tr.length = n) (h : ∀ c ∈ l, ∃ x ∈ c, tr[vl x]? = some (!decide (x % 2 = 1)) ∧ 0 ≤ x) : 0 < U.cntI n l := by
  rw [U.cnt_good hm]
  have h1 := numB_lt tr
  rw [hl] at h1
  have := cnt_pos (p := U.okF n l) h1 (ok_iff.2 fun c hc => by
    rw [U.holds_congr (B' := fun i => tr.getD i false) (fun v _ => numB_bit tr v)]
    exact model_holds hl h c hc)
  omega

theorem count_none {al : Bool} {n : Nat} {l P : List (List Int)} (hm : U.mayF n l = 0) (f : Fin al n l P) (hs : U.Stp (l ++ P) []) : U.cntI n l = 0 := by
  rw [U.cnt_good hm, cnt_none]
  · rfl
  · intro i _
    cases e : U.okF n l i
    · rfl
    · exact (fin_none f hs (ok_iff.1 e)).elim

theorem mul_two {A B C D L : Nat} (h1 : A ≤ C) (h2 : B ≤ D) (h3 : L + C * D ≤ 250000000000) : L + A * B ≤ 250000000000 := by
  have := Nat.mul_le_mul h1 h2
  omega
theorem whole_K {n L : Nat} (hn : n ≤ 8) (hL : L ≤ 60) : L + (7000 * (3 * n + 9) + (n + 1)) * (n * (L + 7000) + 2) ≤ 250000000000 := by
  have a1 : 7000 * (3 * n + 9) + (n + 1) ≤ 231009 := by omega
  have a2 : n * (L + 7000) ≤ 8 * 7060 := Nat.mul_le_mul hn (by omega)
  have a3 : n * (L + 7000) + 2 ≤ 56482 := Nat.add_le_add_right a2 2
  exact mul_two a1 a3 (by omega)

theorem pow3 {n : Nat} (h : n ≤ 8) : 3 ^ n < 7000 := by
  rcases (show n = 0 ∨ n = 1 ∨ n = 2 ∨ n = 3 ∨ n = 4 ∨ n = 5 ∨ n = 6 ∨ n = 7 ∨ n = 8 by omega) with rfl | rfl | rfl | rfl | rfl | rfl | rfl | rfl | rfl <;> simp

section
variable {w : World} {a : Option Addr} {len cap : Nat} {z : List (List Int)}

theorem sol_7000 {n : Nat} (hg : U.Grid w a len cap z) (hc : U.chkF n z = 0) (hf : ¬ U.fewF z 60 = 0) (hn : n ≤ 8) :
    Calls Tryz.prog 9 #[.int .i64 n, .slice a len cap, .int .i64 7000] w fun e w' => (∃ (tb cf : Nat), e = .returned (.tuple #[.agg #[.int .i64 1, .slice (some ⟨tb, 0, none⟩) n n, .int .i64 cf, .slice none 0 0], .int .i64 0]) ∧ Hid (Below w.heap.size w w') ∧ Hid (0 < U.cntI n z)) ∨
      (∃ (pa : Option Addr) (k cp cf : Nat), e = .returned (.tuple #[.agg #[.int .i64 2, .slice none 0 0, .int .i64 cf, .slice pa k cp], .int .i64 0]) ∧ Hid (Below w.heap.size w w') ∧ Hid (U.cntI n z = 0)) := by
  obtain ⟨f1, f2⟩ := few_parts (m := 60) hf
  obtain ⟨m, hm, hx⟩ := chk_parts hc
  have hmn : n = m := by omega
  subst hmn
  have hl := hg.1
  have hmay : U.mayF n z = 0 := U.may_good hc (by omega)
  refine (solve_good (al := true) (bud := 7000) a len cap hg hc (fun c hc => ⟨by have := f2 c hc; omega, hx c hc⟩) (by omega) (by omega) (by omega) (whole_K hn f1) (fun c w0 h1 _ _ => anew_plain (.inl (by rw [h1]; simp; omega)) (by omega))).mono fun e w' h => ?_
  obtain ⟨r, rfl, h⟩ := h
  rcases h with ⟨tb, cf, tr, rfl, hb, ht, hm⟩ | ⟨pa, k, cp, cf, P, rfl, hb, hgr, hp⟩ | ⟨P, rfl, hb, hp⟩
  · exact .inl ⟨tb, cf, rfl, hb, hid (count_sat hmay hm.out.1 hm.out.2.2)⟩
  · exact .inr ⟨pa, k, cp, cf, rfl, hb, hid (count_none hmay hp.out.2.2.1 hp.out.2.2.2)⟩
  · exfalso
    have h1 := fin_len hp.out.2
    have h2 := hp.out.1
    have h3 := pow3 hn
    omega

set_option maxRecDepth 20000 in
set_option maxHeartbeats 8000000 in
theorem whole_walk (vars : Int) (hg : U.Grid w a len cap z) (wv : -9223372036854775808 ≤ vars ∧ vars ≤ 9223372036854775807) :
    Calls Tryz.prog 4 #[.int .i64 vars, .slice a len cap] w fun e w' => e = .returned (.bool true) ∧ Below w.heap.size w w' := by
  have HG := hid hg
  by_cases hf : U.fewF z 60 = 0
  · have HF := hid hf
    clear hg hf
    go_enter Tryz.func4, Tryz.ntmps4
    go_wp2_with (first
      | (go_at_call 7; with_reducible (refine (U.few_any _ _ _ _ _ _ HG.out).mono ?_); rw [HF.out]; rintro e w1 ⟨rfl, rfl⟩)
      | (go_at_call 8; with_reducible (refine (awake_is _).mono ?_); rintro e w2 ⟨rfl, b2⟩))
    go_ret
    exact ⟨rfl, b2.out⟩
  · obtain ⟨fz, hfz⟩ : ∃ fz, U.fewF z 60 = fz := ⟨_, rfl⟩
    have HFN := hid hf
    rw [hfz] at hf
    have hf0 : (fz == 0) = false := by rw [beq_eq_false_iff_ne]; exact hf
    have HF := hid hfz
    clear hg hfz
    by_cases hv0 : vars < 0
    · go_enter Tryz.func4, Tryz.ntmps4
      go_wp2_with (first
        | (go_at_call 7; with_reducible (refine (U.few_any _ _ _ _ _ _ HG.out).mono ?_); rw [HF.out]; rintro e w1 ⟨rfl, rfl⟩)
        | (go_at_call 8; with_reducible (refine (awake_is _).mono ?_); rintro e w2 ⟨rfl, b2⟩))
      go_ret
      exact ⟨rfl, b2.out⟩
    · by_cases hv : 8 < vars
      · go_enter Tryz.func4, Tryz.ntmps4
        go_wp2_with (first
          | (go_at_call 7; with_reducible (refine (U.few_any _ _ _ _ _ _ HG.out).mono ?_); rw [HF.out]; rintro e w1 ⟨rfl, rfl⟩)
          | (go_at_call 8; with_reducible (refine (awake_is _).mono ?_); rintro e w2 ⟨rfl, b2⟩))
        go_ret
        exact ⟨rfl, b2.out⟩
      · obtain ⟨ck, hck⟩ : ∃ ck, U.chkF vars z = ck := ⟨_, rfl⟩
        have HC := hid hck
        by_cases hc : ck = 0
        · subst hc
          obtain ⟨n, rfl⟩ : ∃ n : Nat, vars = n := ⟨vars.toNat, by omega⟩
          have hn8 : n ≤ 8 := by omega
          have HM := hid (U.may_good hck (show ¬ 16 < (n : Int) by omega))
          obtain ⟨ci, hci⟩ : ∃ ci, U.cntI n z = ci := ⟨_, rfl⟩
          have HCI := hid hci
          clear hck hci
          go_enter Tryz.func4, Tryz.ntmps4
          go_wp2_with (first
            | (go_at_call 7; with_reducible (refine (U.few_any _ _ _ _ _ _ HG.out).mono ?_); rw [HF.out]; rintro e w1 ⟨rfl, rfl⟩)
            | (go_at_call 10; with_reducible (refine (U.rcheck_any _ _ _ _ _ _ HG.out).mono ?_); rw [HC.out]; rintro e w3 ⟨rfl, rfl⟩)
            | (go_at_call 9; with_reducible (refine (sol_7000 HG.out HC.out HFN.out hn8).mono ?_); rw [HCI.out]; intro e w2 hS; rcases hS with ⟨tb, cf, rfl, b2, m2⟩ | ⟨pa, k, cp, cf, rfl, b2, m2⟩))
          · have HG2 := hid (HG.out.keep (Below.next b2.out (alloc_below w2 (.cells #[.int .i64 1, .slice (some ⟨tb, 0, none⟩) n n, .int .i64 cf, .slice none 0 0] 27))))
            have hR := hid (new_same w2 (.cells #[.int .i64 1, .slice (some ⟨tb, 0, none⟩) n n, .int .i64 cf, .slice none 0 0] 27))
            have q1 := m2.out
            have q2 : (ci == 0) = false := by rw [beq_eq_false_iff_ne]; omega
            go_wp2_with (first
              | (go_at_call 13; with_reducible (refine (U.rcount_any _ _ _ _ _ _ HG2.out).mono ?_); rw [HCI.out, HM.out]; rintro e w4 ⟨rfl, b4⟩; have hr4 := old_blk b4 hR.out; have z0 := cell_of (o := 0) hr4)
              | (go_at_call 8; with_reducible (refine (awake_is _).mono ?_); rintro e w5 ⟨rfl, b5⟩))
            go_ret
            exact ⟨rfl, Below.next (Below.next (Below.next b2.out (alloc_below _ _)) b4) b5.out⟩
          · have HG2 := hid (HG.out.keep (Below.next b2.out (alloc_below w2 (.cells #[.int .i64 2, .slice none 0 0, .int .i64 cf, .slice pa k cp] 27))))
            have hR := hid (new_same w2 (.cells #[.int .i64 2, .slice none 0 0, .int .i64 cf, .slice pa k cp] 27))
            have q1 := m2.out
            subst q1
            go_wp2_with (first
              | (go_at_call 13; with_reducible (refine (U.rcount_any _ _ _ _ _ _ HG2.out).mono ?_); rw [HCI.out, HM.out]; rintro e w4 ⟨rfl, b4⟩; have hr4 := old_blk b4 hR.out; have z0 := cell_of (o := 0) hr4)
              | (go_at_call 8; with_reducible (refine (awake_is _).mono ?_); rintro e w5 ⟨rfl, b5⟩))
            go_ret
            exact ⟨rfl, Below.next (Below.next (Below.next b2.out (alloc_below _ _)) b4) b5.out⟩
        · have hc0 : (ck == 0) = false := by rw [beq_eq_false_iff_ne]; exact hc
          have hc1 : (ck != 0) = true := by rw [bne, hc0]; rfl
          clear hck
          go_enter Tryz.func4, Tryz.ntmps4
          go_wp2_with (first
            | (go_at_call 7; with_reducible (refine (U.few_any _ _ _ _ _ _ HG.out).mono ?_); rw [HF.out]; rintro e w1 ⟨rfl, rfl⟩)
            | (go_at_call 10; with_reducible (refine (U.rcheck_any _ _ _ _ _ _ HG.out).mono ?_); rw [HC.out]; rintro e w3 ⟨rfl, rfl⟩)
            | (go_at_call 8; with_reducible (refine (awake_is _).mono ?_); rintro e w4 ⟨rfl, b4⟩))
          go_ret
          exact ⟨rfl, b4.out⟩
end
end Go.Proofs.YtimfjoinjfecjaaGreat

namespace Go.Proofs.YtimfjoinjfecjaaGreat
open Go.RowKit Go.ChangeShapes Go.WideShapes Go.ChangeAt
set_option linter.unusedVariables false

theorem rowU_none (w : World) : U.Row w none 0 0 [] := ⟨rfl, Nat.le_refl _, by unfold maxLen; omega, fun _ => rfl, fun x hx => by simp at hx, fun h => by omega⟩

/-- Whatever list of clauses came in. -/
theorem grid_of {H : Type} {enc : TypeId × Value → H} {W : World} {base : Nat} {held : Bool} {fuel : Nat} {a : Option Addr} {len cap : Nat} {x : DataW H × List MemPlace}
    (h : DataW.trod enc Tryz.prog W base (fun _ => true) held fuel 22 (Value.slice a len cap).cells.toList = some x) : ∃ xss, U.Grid W a len cap xss := by
  rcases Go.Deep.open_int_rows (k := .i64) Tryz.underlying22 Tryz.underlying42 Tryz.underlying3 (by kernel_rfl) (by kernel_rfl) h with ⟨hcs, _⟩ | ⟨ad, l, c, A, L, C, Z, hcs, _, hl, hm, _, hrow⟩
  · simp [Value.cells] at hcs
    obtain ⟨rfl, rfl, rfl⟩ := hcs
    exact ⟨[], rfl, Nat.le_refl _, by unfold maxLen; omega, fun _ => rfl, fun h => by omega⟩
  · simp [Value.cells] at hcs
    obtain ⟨rfl, rfl, rfl⟩ := hcs
    refine ⟨(List.range len).map fun r => (Z r).take (L r), by simp, hl, hm, fun h => by simp at h, fun h0 => ?_⟩
    obtain ⟨b, off, spot⟩ := ad
    have hsp : spot = none := by
      have := (hrow 0 (by omega)).1
      simpa [Addr.add] using World.cell?_spot this
    subst hsp
    refine ⟨b, off, rfl, fun j hj => ?_⟩
    obtain ⟨h1, h2, h3, h4, h5, h6, h7⟩ := hrow j (by omega)
    refine ⟨A j, L j, C j, ?_, ?_⟩
    · by_cases hz : j = 0
      · subst hz; simpa [Addr.add] using h1
      · simpa [Addr.add, hz] using h1
    · have e : ((List.range len).map fun r => (Z r).take (L r)).getD j [] = (Z j).take (L j) := by simp [hj]
      rw [e]
      refine ⟨by simp; omega, h2, h3, h6, fun y hy => U.wf_i64 (h5 y (List.mem_of_mem_take hy)), fun hp => ?_⟩
      cases ha : A j with
      | none => have := h6 ha; omega
      | some a' =>
        obtain ⟨_, hc⟩ := h7 a' ha
        obtain ⟨b', off', spot'⟩ := a'
        have hsp' : spot' = none := by
          have := hc 0 (by omega)
          simpa [Addr.add] using World.cell?_spot this
        subst hsp'
        refine ⟨b', off', rfl, fun i hi => ?_⟩
        have hi2 := hc i (by omega)
        have e2 : ((Z j).take (L j)).getD i 0 = (Z j).getD i 0 := by simp [hi]
        rw [e2]
        by_cases hz : i = 0
        · subst hz; simpa [Addr.add] using hi2
        · simpa [Addr.add, hz] using hi2

/-- Whatever list of numbers came in. -/
theorem row_of {H : Type} {enc : TypeId × Value → H} {W : World} {base : Nat} {held : Bool} {fuel : Nat} {a : Option Addr} {len cap : Nat} {x : DataW H × List MemPlace}
    (h : DataW.trod enc Tryz.prog W base (fun _ => true) held fuel 42 (Value.slice a len cap).cells.toList = some x) : ∃ xs, U.Row W a len cap xs := by
  rcases open_ints Tryz.underlying42 Tryz.underlying3 (by kernel_rfl) h with ⟨hcs, _⟩ | ⟨x, l, c, zs, hcs, _, hl, hm, hz, _, hc, hw⟩
  · simp [Value.cells] at hcs
    obtain ⟨rfl, rfl, rfl⟩ := hcs
    exact ⟨[], rowU_none W⟩
  · simp [Value.cells] at hcs
    obtain ⟨rfl, rfl, rfl⟩ := hcs
    have hz2 : zs.length = cap := by simpa using hz
    obtain ⟨b, off, spot⟩ := x
    refine ⟨zs.take len, by rw [List.length_take]; omega, hl, hm, fun e => by simp at e, fun x hx => U.wf_i64 (hw x (List.mem_of_mem_take hx)), fun h0 => ?_⟩
    have hspot : spot = none := by simpa [Addr.add] using World.cell?_spot (hc 0 (by omega))
    subst hspot
    refine ⟨b, off, rfl, fun j hj => ?_⟩
    have := hc j (by omega)
    have e : (zs.take len).getD j 0 = zs.getD j 0 := by simp [hj]
    rw [e]
    by_cases h0 : j = 0
    · subst h0; simpa [Addr.add] using this
    · simpa [Addr.add, h0] using this


end Go.Proofs.YtimfjoinjfecjaaGreat
