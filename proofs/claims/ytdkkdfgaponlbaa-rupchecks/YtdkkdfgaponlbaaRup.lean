/-
  Proofs of clauses, as plain facts of lists of numbers. No program stands here.
-/
import Derived.Test.YtdkkdfgaponlbaaUnit
namespace Go.Proofs.Ytdkkdfgaponlbaa
set_option linter.unusedVariables false

/-- A clause follows at once. -/
def Stp (L : List (List Int)) (c : List Int) : Prop := Bad L (c.map notF)

/-- The clause at that place of a proof does. -/
def Ok (L P : List (List Int)) (i : Nat) : Prop := Stp (L ++ P.take i) (P.getD i [])

/-- r is the place of the first that does not; -1: all do. -/
def IsFst (L P : List (List Int)) (r : Int) : Prop := (r = -1 ∧ ∀ j, j < P.length → Ok L P j) ∨ ∃ i : Nat, i < P.length ∧ r = i ∧ (∀ j, j < i → Ok L P j) ∧ ¬ Ok L P i

def nulF (xs : List Int) : Bool := decide (xs.length = 0)

/-- A proof that nothing holds. -/
def IsRef (L P : List (List Int)) : Prop := P.any nulF = true ∧ ∀ j, j < P.length → Ok L P j

theorem fst_same {L P : List (List Int)} {r s : Int} (h : IsFst L P r) (g : IsFst L P s) : r = s := by
  rcases h with ⟨rfl, h⟩ | ⟨i, hi, rfl, h1, h2⟩ <;> rcases g with ⟨rfl, g⟩ | ⟨j, hj, rfl, g1, g2⟩
  · rfl
  · exact absurd (h j hj) g2
  · exact absurd (g i hi) h2
  · by_cases e : i < j
    · exact absurd (g1 i e) h2
    · by_cases e2 : j < i
      · exact absurd (h1 j e2) g2
      · have : i = j := by omega
        rw [this]

theorem fst_neg {L P : List (List Int)} {r : Int} (h : IsFst L P r) : (r < 0 ↔ ∀ j, j < P.length → Ok L P j) ∧ (r = -1 ↔ ∀ j, j < P.length → Ok L P j) := by
  rcases h with ⟨rfl, h⟩ | ⟨i, hi, rfl, h1, h2⟩
  · exact ⟨⟨fun _ => h, fun _ => by omega⟩, ⟨fun _ => h, fun _ => rfl⟩⟩
  · exact ⟨⟨fun h => by omega, fun h => absurd (h i hi) h2⟩, ⟨fun h => by omega, fun h => absurd (h i hi) h2⟩⟩

theorem fst_hit {L P : List (List Int)} {i : Nat} (hi : i < P.length) (h : ∀ j, j < i → Ok L P j) (g : ¬ Ok L P i) : IsFst L P i := .inr ⟨i, hi, rfl, h, g⟩
theorem fst_end {L P : List (List Int)} {i : Nat} (hi : P.length ≤ i) (h : ∀ j, j < i → Ok L P j) : IsFst L P (-1) := .inl ⟨rfl, fun j hj => h j (by omega)⟩
theorem ok_step {L P : List (List Int)} {i : Nat} (h : ∀ j, j < i → Ok L P j) (g : Ok L P i) : ∀ j, j < i + 1 → Ok L P j := fun j hj => by
  by_cases e : j = i
  · subst e; exact g
  · exact h j (by omega)

/-! ### What has a step holds -/
theorem bad_holds0 {L : List (List Int)} {S : List Int} {len : Nat} {B : Nat → Bool} (hL : ∀ c ∈ L, holdsF c len B = true) (hS : ∀ x ∈ S, 0 ≤ x → holF x len B = true) : ¬ Bad L S := fun h =>
  bad_holds (S := S.filter fun x => decide (0 ≤ x)) hL (fun x hx => by simp at hx; exact hS x hx.1 hx.2)
    (bad_mono (fun c hc => hc) (fun x hx h0 => .base (by simp; exact ⟨hx, h0⟩) h0) h)

theorem hol_not2 {x : Int} {len : Nat} {B : Nat → Bool} (h0 : 0 ≤ x) (h : holF x len B = false) : holF (notF x) len B = true := by
  have e : ¬ x < 0 := by omega
  have e2 : ¬ notF x < 0 := by have := not_pos h0; omega
  have hv : notF x / 2 = x / 2 := by simp only [notF]; rw [if_neg e]; split <;> omega
  have hn : negF (notF x) = !negF x := by
    have hp := not_pos h0
    rw [Bool.eq_iff_iff]
    simp only [negF, Bool.not_eq_true', decide_eq_true_eq, decide_eq_false_iff_not]
    simp only [notF]; rw [if_neg e]
    split <;> omega
  simp only [holF] at h ⊢
  rw [if_neg e] at h
  rw [if_neg e2, hv, hn]
  generalize truF (x / 2) len B = t at h ⊢
  generalize negF x = n at h ⊢
  cases t <;> cases n <;> simp_all

theorem stp_holds {L : List (List Int)} {c : List Int} {len : Nat} {B : Nat → Bool} (hL : ∀ c ∈ L, holdsF c len B = true) (h : Stp L c) : holdsF c len B = true := by
  cases hh : holdsF c len B
  · refine absurd h (bad_holds0 hL fun x hx h0 => ?_)
    obtain ⟨y, hy, rfl⟩ := List.mem_map.1 hx
    have hf : holF y len B = false := by
      have := List.any_eq_false.1 (show c.any (fun x => holF x len B) = false from hh) y hy
      simpa using this
    by_cases y0 : 0 ≤ y
    · exact hol_not2 y0 hf
    · rw [not_neg (by omega)] at h0; omega
  · rfl

theorem take_more {P : List (List Int)} {n : Nat} (hn : n < P.length) : P.take (n + 1) = P.take n ++ [P.getD n []] := by
  rw [List.take_add_one]
  simp [hn]

theorem ok_holds {L P : List (List Int)} {len : Nat} {B : Nat → Bool} (hL : ∀ c ∈ L, holdsF c len B = true) (n : Nat) (hn : n ≤ P.length) (h : ∀ j, j < n → Ok L P j) : ∀ c ∈ P.take n, holdsF c len B = true := by
  induction n with
  | zero => intro c hc; simp at hc
  | succ n ih =>
    have ih := ih (by omega) (fun j hj => h j (by omega))
    intro c hc
    rw [take_more (by omega)] at hc
    rcases List.mem_append.1 hc with hc | hc
    · exact ih c hc
    · rw [List.mem_singleton] at hc
      subst hc
      refine stp_holds (fun d hd => ?_) (h n (by omega))
      rcases List.mem_append.1 hd with hd | hd
      · exact hL d hd
      · exact ih d hd

theorem fst_holds {L P : List (List Int)} {len : Nat} {B : Nat → Bool} {r : Int} (hL : ∀ c ∈ L, holdsF c len B = true) (h : IsFst L P r) {i : Nat} (hi : i < P.length) (hr : r < 0 ∨ (i : Int) < r) : holdsF (P.getD i []) len B = true := by
  have hall : ∀ j, j < i + 1 → Ok L P j := by
    rcases h with ⟨rfl, h⟩ | ⟨k, hk, rfl, h1, h2⟩
    · exact fun j hj => h j (by omega)
    · exact fun j hj => h1 j (by omega)
  refine ok_holds hL (i + 1) hi hall _ ?_
  rw [take_more hi]
  simp

theorem ref_holds {L P : List (List Int)} {len : Nat} {B : Nat → Bool} (hL : ∀ c ∈ L, holdsF c len B = true) : ¬ IsRef L P := by
  rintro ⟨h, hok⟩
  obtain ⟨c, hc, hn⟩ := List.any_eq_true.1 h
  have hc2 := ok_holds hL P.length (Nat.le_refl _) hok c (by rw [List.take_length]; exact hc)
  have e : c = [] := by
    simp only [nulF, decide_eq_true_eq] at hn
    exact List.eq_nil_of_length_eq_zero hn
  subst e
  simp [holdsF] at hc2

/-! ### The examples -/
theorem four_mem {c : List Int} (h : c ∈ ([[0, 2], [0, 3], [1, 2], [1, 3]] : List (List Int))) : c = [0, 2] ∨ c = [0, 3] ∨ c = [1, 2] ∨ c = [1, 3] := by simpa using h

theorem ex_a {L : List (List Int)} (h1 : [0, 2] ∈ L) (h2 : [0, 3] ∈ L) : Stp L [0] := by
  have d1 : Der L [1] 1 := .base (by simp) (by omega)
  have d2 : Der L [1] 2 := .unit (c := [0, 2]) h1 (by simp) (by omega) (fun y hy _ hne => by
    simp at hy; rcases hy with rfl | rfl
    · exact d1
    · exact absurd rfl hne)
  have d3 : Der L [1] 3 := .unit (c := [0, 3]) h2 (by simp) (by omega) (fun y hy _ hne => by
    simp at hy; rcases hy with rfl | rfl
    · exact d1
    · exact absurd rfl hne)
  exact .inl ⟨2, d2, d3⟩

theorem ex_b {L : List (List Int)} {S : List Int} (h0 : [0] ∈ L) (h1 : [1, 2] ∈ L) (h2 : [1, 3] ∈ L) : Bad L S := by
  have d0 : Der L S 0 := .unit (c := [0]) h0 (by simp) (by omega) (fun y hy _ hne => by simp at hy; exact absurd hy hne)
  have d2 : Der L S 2 := .unit (c := [1, 2]) h1 (by simp) (by omega) (fun y hy _ hne => by
    simp at hy; rcases hy with rfl | rfl
    · exact d0
    · exact absurd rfl hne)
  have d3 : Der L S 3 := .unit (c := [1, 3]) h2 (by simp) (by omega) (fun y hy _ hne => by
    simp at hy; rcases hy with rfl | rfl
    · exact d0
    · exact absurd rfl hne)
  exact .inl ⟨2, d2, d3⟩

theorem ex_c : ¬ Stp [[0, 2], [0, 3], [1, 2], [1, 3]] [] := by
  refine (closed_all (Now := fun _ => False) (fun x hx => by simp at hx) (fun x hx => hx.elim) (fun x hx => hx.elim) fun c hc => .inr ?_).2
  rcases four_mem hc with rfl | rfl | rfl | rfl
  · exact ⟨0, by simp, 2, by simp, by omega, by omega, by omega, id, id⟩
  · exact ⟨0, by simp, 3, by simp, by omega, by omega, by omega, id, id⟩
  · exact ⟨1, by simp, 2, by simp, by omega, by omega, by omega, id, id⟩
  · exact ⟨1, by simp, 3, by simp, by omega, by omega, by omega, id, id⟩

theorem ex_d : ¬ Stp [[0, 2], [0, 3], [1, 2], [0]] [4] := by
  have d5 : Der [[0, 2], [0, 3], [1, 2], [0]] [5] 5 := .base (by simp) (by omega)
  have d0 : Der [[0, 2], [0, 3], [1, 2], [0]] [5] 0 := .unit (c := [0]) (by simp) (by simp) (by omega) (fun y hy _ hne => by simp at hy; exact absurd hy hne)
  have d2 : Der [[0, 2], [0, 3], [1, 2], [0]] [5] 2 := .unit (c := [1, 2]) (by simp) (by simp) (by omega) (fun y hy _ hne => by
    simp at hy; rcases hy with rfl | rfl
    · exact d0
    · exact absurd rfl hne)
  have key := (closed_all (L := [[0, 2], [0, 3], [1, 2], [0]]) (S := [5]) (Now := fun x => x ∈ ([5, 0, 2] : List Int)) (fun x hx _ => by simp at hx; subst hx; simp) (fun x hx => by
    simp at hx; rcases hx with rfl | rfl | rfl
    · exact d5
    · exact d0
    · exact d2) (by decide) (fun c hc => .inl (by
    simp at hc; rcases hc with rfl | rfl | rfl | rfl
    · exact ⟨0, by simp, by simp⟩
    · exact ⟨0, by simp, by simp⟩
    · exact ⟨2, by simp, by simp⟩
    · exact ⟨0, by simp, by simp⟩))).2
  exact key

/-- The chapter's example, and the others that are asked. -/
theorem ex1 : IsRef [[0, 2], [0, 3], [1, 2], [1, 3]] [[0], []] := by
  refine ⟨rfl, fun j hj => ?_⟩
  match j, hj with
  | 0, _ => exact ex_a (by simp) (by simp)
  | 1, _ => exact ex_b (by simp) (by simp) (by simp)

theorem ex2 : ¬ IsRef [[0, 2], [0, 3], [1, 2], [1, 3]] [[]] := fun h => ex_c (h.2 0 (by simp))
theorem ex3 : ¬ IsRef [[0, 2], [0, 3], [1, 2], [1, 3]] [[0]] := fun h => by have := h.1; simp [nulF] at this
theorem ex4 : IsFst [[0, 2], [0, 3], [1, 2], [1, 3]] [[0], [4]] (-1) := by
  refine .inl ⟨rfl, fun j hj => ?_⟩
  match j, hj with
  | 0, _ => exact ex_a (by simp) (by simp)
  | 1, _ => exact ex_b (by simp) (by simp) (by simp)

theorem ex5 : IsFst [[0, 2], [0, 3], [1, 2]] [[0], [4]] 1 := by
  refine .inr ⟨1, by simp, rfl, fun j hj => ?_, ex_d⟩
  obtain rfl : j = 0 := by omega
  exact ex_a (by simp) (by simp)

end Go.Proofs.Ytdkkdfgaponlbaa
