/-
  How long the texts are.
-/
import Derived.Test.YtdhkabppcdnfeaaDoorRput
namespace Go.Proofs.YtdhkabppcdnfeaaDoor
open Go.RowKit
open Go.Lib (decDigits itoa)
set_option linter.unusedVariables false

theorem Grid.fits {w : World} {ao : Option Addr} {n cap : Nat} {xss : List (List Int)} (h : Grid w ao n cap xss) : ∀ c ∈ xss, Fit c := by
  intro c hc
  obtain ⟨j, hj, e⟩ := List.mem_iff_getElem.1 hc
  have hjn : j < n := by rw [← h.1]; exact hj
  obtain ⟨b, off, a, m, cp, ys, _, _, hy, hr⟩ := h.at hjn
  have e2 : xss[j]? = some c := by rw [List.getElem?_eq_getElem hj, e]
  have : ys = c := by have := hy.out.symm.trans e2; simpa using this
  rw [← this]
  exact hr.out.2.2.2.2.1

theorem lits_bound {c : List Int} (h : Fit c) : (c.flatMap litT).length ≤ 22 * c.length := by
  induction c with
  | nil => simp
  | cons x c ih =>
    have hx := h x (by simp)
    have := Go.Lib.itoa_length_le (numF x) (num_fit hx.1 hx.2).1 (num_fit hx.1 hx.2).2
    have := ih (fun y hy => h y (by simp [hy]))
    simp only [List.flatMap_cons, litT, List.length_append, List.length_cons, List.length_nil] at *
    omega

theorem lines_bound {l : List (List Int)} {M : Nat} (h : ∀ c ∈ l, Fit c) (hm : ∀ c ∈ l, c.length ≤ M) : (l.flatMap clT).length ≤ l.length * (22 * M + 2) := by
  induction l with
  | nil => simp
  | cons c l ih =>
    have h1 := lits_bound (h c (by simp))
    have h2 := hm c (by simp)
    have h3 := ih (fun y hy => h y (by simp [hy])) (fun y hy => hm y (by simp [hy]))
    have h4 : (clT c).length ≤ 22 * M + 2 := by
      simp only [clT, List.length_append, List.length_cons, List.length_nil]; omega
    rw [List.flatMap_cons, List.length_append, List.length_cons, Nat.succ_mul]
    omega

theorem text_bound {v : Nat} {l : List (List Int)} {N M : Nat} (h : ∀ c ∈ l, Fit c) (hm : ∀ c ∈ l, c.length ≤ M) (hn : l.length ≤ N) (hN : N ≤ 1048576) (hv : v ≤ 1048576) : (textT v l).length ≤ 60 + N * (22 * M + 2) := by
  have h1 := lines_bound h hm
  have h2 : l.length * (22 * M + 2) ≤ N * (22 * M + 2) := Nat.mul_le_mul_right _ hn
  have h3 := dec_le (n := v) (by omega)
  have h4 := dec_le (n := l.length) (by omega)
  simp only [textT, headT, kindT, List.length_append, List.length_cons, List.length_nil]
  omega

theorem text_few {v : Nat} {l : List (List Int)} (hf : ¬ fewF l 100 = 0) (h : ∀ c ∈ l, Fit c) (hv : v ≤ 1048576) : (textT v l).length ≤ 100000 := by
  have hl : l.length ≤ 100 := by
    by_cases hl : (100 : Int) < l.length
    · exact absurd (by simp only [fewF]; rw [if_pos hl]) hf
    · omega
  have hm : ∀ c ∈ l, c.length ≤ 40 := by
    intro c hc
    by_cases hl2 : 40 < c.length
    · refine absurd ?_ hf
      simp only [fewF]
      split
      · rfl
      · rw [if_pos (List.any_eq_true.2 ⟨c, hc, by simpa [longF] using hl2⟩)]
    · omega
  have := text_bound (N := 100) (M := 40) h hm hl (by omega) hv
  omega

theorem bad_iff (v : Nat) (x : Int) : badV v x = false ↔ 0 ≤ x ∧ x < 2 * v := by
  rcases bad_lit v x with e | e
  · rw [e, Bool.or_eq_false_iff]
    simp
    omega
  · omega

theorem good_of_chk {v : Nat} {l : List (List Int)} (h : chkF v l = 0) : Good v l := by
  obtain ⟨_, h1, h2, h3⟩ := chk_split h
  refine ⟨by omega, h2, fun c hc x hx => ?_⟩
  unfold badG at h3
  rw [List.any_eq_false] at h3
  have h4 := h3 c hc
  simp only [Bool.not_eq_true] at h4
  unfold badC at h4
  rw [List.any_eq_false] at h4
  have h5 := h4 x hx
  simp only [Bool.not_eq_true] at h5
  exact (bad_iff v x).1 h5

theorem chk_of_good {v : Nat} {l : List (List Int)} (h : Good v l) : chkF v l = 0 := by
  have hb : badG v l = false := by
    unfold badG
    rw [List.any_eq_false]
    intro c hc
    simp only [Bool.not_eq_true]
    unfold badC
    rw [List.any_eq_false]
    intro x hx
    simp only [Bool.not_eq_true]
    exact (bad_iff v x).2 (h.2.2 c hc x hx)
  exact chk_good (by omega) (by have := h.1; omega) (by have := h.2.1; omega) hb

end Go.Proofs.YtdhkabppcdnfeaaDoor
