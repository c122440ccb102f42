/-
  Which clauses are kept: the plain side.
-/
import Derived.Test.YtodhganfjeojoaaRows
namespace Go.Proofs.Ytodhganfjeojoaa
set_option linter.unusedVariables false

/-- What is known of a clause: its size, its levels, how much it was met. -/
structure Dd where
  s : Int
  g : Int
  a : Int

def cmpI (a b : Int) : Int := if a < b then -1 else if b < a then 1 else 0
def orI (a b : Int) : Int := if a ≠ 0 then a else b
def cmpD (x y : Dd) : Int := orI (cmpI x.g y.g) (orI (cmpI y.a x.a) (cmpI x.s y.s))

theorem cmpI_neg {a b : Int} : cmpI a b < 0 ↔ a < b := by
  unfold cmpI
  by_cases h : a < b
  · rw [if_pos h]; simp [h]
  · rw [if_neg h]
    by_cases h2 : b < a
    · rw [if_pos h2]; simp; omega
    · rw [if_neg h2]; simp; omega
theorem cmpI_zero {a b : Int} : cmpI a b = 0 ↔ a = b := by
  unfold cmpI
  by_cases h : a < b
  · rw [if_pos h]; simp; omega
  · rw [if_neg h]
    by_cases h2 : b < a
    · rw [if_pos h2]; simp; omega
    · rw [if_neg h2]; simp; omega
theorem cmpI_in (a b : Int) : cmpI a b = -1 ∨ cmpI a b = 0 ∨ cmpI a b = 1 := by
  unfold cmpI
  by_cases h : a < b
  · rw [if_pos h]; simp
  · rw [if_neg h]
    by_cases h2 : b < a
    · rw [if_pos h2]; simp
    · rw [if_neg h2]; simp
theorem orI_neg {a b : Int} : orI a b < 0 ↔ a < 0 ∨ (a = 0 ∧ b < 0) := by
  unfold orI
  by_cases h : a = 0
  · rw [if_neg (by simpa using h)]; omega
  · rw [if_pos h]; omega
theorem orI_zero {a b : Int} : orI a b = 0 ↔ a = 0 ∧ b = 0 := by
  unfold orI
  by_cases h : a = 0
  · rw [if_neg (by simpa using h)]; omega
  · rw [if_pos h]; omega
theorem orI_in {a b : Int} (ha : a = -1 ∨ a = 0 ∨ a = 1) (hb : b = -1 ∨ b = 0 ∨ b = 1) : orI a b = -1 ∨ orI a b = 0 ∨ orI a b = 1 := by
  unfold orI
  by_cases h : a = 0
  · rw [if_neg (by simpa using h)]; omega
  · rw [if_pos h]; omega

def btr (x y : Dd) : Bool := decide (x.g < y.g ∨ (x.g = y.g ∧ (y.a < x.a ∨ (y.a = x.a ∧ x.s < y.s))))
def sure (d : Dd) : Bool := decide (d.g ≤ 2 ∨ d.s ≤ 2)

theorem cmpD_neg (x y : Dd) : cmpD x y < 0 ↔ btr x y = true := by
  unfold cmpD btr
  rw [orI_neg, orI_neg, cmpI_neg, cmpI_neg, cmpI_neg, cmpI_zero, cmpI_zero, decide_eq_true_eq]
theorem cmpD_zero (x y : Dd) : cmpD x y = 0 ↔ x.g = y.g ∧ y.a = x.a ∧ x.s = y.s := by
  unfold cmpD
  rw [orI_zero, orI_zero, cmpI_zero, cmpI_zero, cmpI_zero]
theorem cmpD_in (x y : Dd) : cmpD x y = -1 ∨ cmpD x y = 0 ∨ cmpD x y = 1 := orI_in (cmpI_in _ _) (orI_in (cmpI_in _ _) (cmpI_in _ _))

/-- Which of two places is ahead. -/
def ahd (D : Nat → Dd) (i k : Nat) : Bool := btr (D i) (D k) || (decide (i < k) && !btr (D k) (D i))
def ahdC (D : Nat → Dd) (i k : Nat) : Int := orI (cmpD (D i) (D k)) (cmpI (i : Int) (k : Int))

section
variable {D : Nat → Dd} {i j k n : Nat}

theorem ahd_iff : ahd D i k = true ↔ (D i).g < (D k).g ∨ ((D i).g = (D k).g ∧ ((D k).a < (D i).a ∨ ((D k).a = (D i).a ∧ ((D i).s < (D k).s ∨ ((D i).s = (D k).s ∧ i < k))))) := by
  unfold ahd btr
  simp only [Bool.or_eq_true, decide_eq_true_eq, Bool.and_eq_true, Bool.not_eq_true', decide_eq_false_iff_not]
  omega
theorem ahdC_neg : ahdC D i k < 0 ↔ ahd D i k = true := by
  unfold ahdC
  rw [orI_neg, cmpD_neg, cmpD_zero, cmpI_neg, ahd_iff]
  unfold btr
  simp only [decide_eq_true_eq]
  omega
theorem ahd_irr : ahd D i i = false := by
  rw [Bool.eq_false_iff, ne_eq, ahd_iff]; omega
theorem ahd_asym (h : ahd D i k = true) : ahd D k i = false := by
  rw [Bool.eq_false_iff, ne_eq, ahd_iff]; rw [ahd_iff] at h; omega
theorem ahd_trans (h : ahd D i j = true) (g : ahd D j k = true) : ahd D i k = true := by
  rw [ahd_iff] at h g ⊢; omega
theorem ahd_tot (h : i ≠ k) : ahd D i k = true ∨ ahd D k i = true := by
  rw [ahd_iff, ahd_iff]; omega
theorem ahd_btr (h : ahd D i k = true) : btr (D k) (D i) = false := by
  rw [ahd_iff] at h
  unfold btr
  rw [decide_eq_false_iff_not]; omega
end

/-- The places of the others. -/
def oth (n : Nat) (D : Nat → Dd) : List Nat := (List.range n).filter (fun i => !sure (D i))
def half (n : Nat) (D : Nat → Dd) : Nat := ((oth n D).length + 1) / 2
/-- How many of the first m places are others that are ahead of i. -/
def rnk (m : Nat) (D : Nat → Dd) (i : Nat) : Nat := ((oth m D).filter (fun k => ahd D k i)).length
def keepF (n : Nat) (D : Nat → Dd) (i : Nat) : Bool := sure (D i) || decide (rnk n D i < half n D)

section
variable {D : Nat → Dd} {i j k n : Nat} {es : List Nat}

theorem oth_zero : oth 0 D = [] := rfl
theorem oth_sure (h : sure (D n) = true) : oth (n + 1) D = oth n D := by
  unfold oth; rw [List.range_succ, List.filter_append]; simp [h]
theorem oth_more (h : sure (D n) = false) : oth (n + 1) D = oth n D ++ [n] := by
  unfold oth; rw [List.range_succ, List.filter_append]; simp [h]
theorem oth_mem : i ∈ oth n D ↔ i < n ∧ sure (D i) = false := by
  unfold oth; rw [List.mem_filter, List.mem_range]; simp
theorem oth_len : (oth n D).length ≤ n := by
  unfold oth
  have := List.length_filter_le (fun i => !sure (D i)) (List.range n)
  rwa [List.length_range] at this
theorem oth_nodup : (oth n D).Nodup := List.Pairwise.filter _ List.nodup_range
theorem half_le : half n D ≤ (oth n D).length := by unfold half; omega

theorem rnk_zero : rnk 0 D i = 0 := rfl
theorem rnk_yes (h : sure (D n) = false) (g : ahd D n i = true) : rnk (n + 1) D i = rnk n D i + 1 := by
  unfold rnk; rw [oth_more h, List.filter_append]; simp [g]
theorem rnk_sure (h : sure (D n) = true) : rnk (n + 1) D i = rnk n D i := by
  unfold rnk; rw [oth_sure h]
theorem rnk_no (h : sure (D n) = false) (g : ahd D n i = false) : rnk (n + 1) D i = rnk n D i := by
  unfold rnk; rw [oth_more h, List.filter_append]; simp [g]
theorem rnk_len : rnk n D i ≤ n := by
  unfold rnk
  exact Nat.le_trans (List.length_filter_le _ _) oth_len

/-- In a row that is in order, one is ahead by its place. -/
theorem rnk_at (hp : es.Perm (oth n D)) (ho : es.Pairwise (fun x y => ahd D x y = true)) (hj : es[j]? = some i) : rnk n D i = j := by
  have e : rnk n D i = (es.filter (fun k => ahd D k i)).length := by
    unfold rnk
    exact ((hp.filter _).length_eq).symm
  obtain ⟨hl, hi⟩ := List.getElem?_eq_some_iff.1 hj
  have hs : es = es.take j ++ es.drop j := (List.take_append_drop j es).symm
  have hd : es.drop j = i :: es.drop (j + 1) := by rw [List.drop_eq_getElem_cons hl, hi]
  rw [hs, List.pairwise_append] at ho
  obtain ⟨_, ho2, ho3⟩ := ho
  rw [hd] at ho2 ho3
  rw [e, hs, List.filter_append, List.length_append, hd]
  have f1 : (es.take j).filter (fun k => ahd D k i) = es.take j := List.filter_eq_self.2 fun x hx => ho3 x hx i (by simp)
  have f2 : (i :: es.drop (j + 1)).filter (fun k => ahd D k i) = [] := List.filter_eq_nil_iff.2 fun x hx => by
    rw [List.mem_cons] at hx
    rcases hx with rfl | hx
    · rw [ahd_irr]; simp
    · rw [ahd_asym ((List.pairwise_cons.1 ho2).1 x hx)]; simp
  rw [f1, f2, List.length_take]
  simp; omega

theorem keep_take (hp : es.Perm (oth n D)) (ho : es.Pairwise (fun x y => ahd D x y = true)) (hi : i < n) : keepF n D i = true ↔ (sure (D i) = true ∨ i ∈ es.take (half n D)) := by
  unfold keepF
  rw [Bool.or_eq_true, decide_eq_true_eq]
  cases hs : sure (D i) with
  | true => simp
  | false =>
    have hm : i ∈ es := hp.mem_iff.2 (oth_mem.2 ⟨hi, hs⟩)
    obtain ⟨j, hl, hj⟩ := List.getElem_of_mem hm
    have hj' : es[j]? = some i := by rw [List.getElem?_eq_getElem hl, hj]
    rw [rnk_at hp ho hj']
    simp only [Bool.false_eq_true, false_or]
    constructor
    · intro h
      have : (es.take (half n D))[j]? = some i := by rw [List.getElem?_take_of_lt h, hj']
      exact List.mem_of_getElem? this
    · intro h
      obtain ⟨k, hk⟩ := List.mem_iff_getElem?.1 h
      have hkl : k < half n D := by
        have := (List.getElem?_eq_some_iff.1 hk).1
        rw [List.length_take] at this; omega
      rw [List.getElem?_take_of_lt hkl] at hk
      have := rnk_at hp ho hk
      rw [rnk_at hp ho hj'] at this
      omega

/-- A row of the others that is in order. -/
theorem ordered (n : Nat) (D : Nat → Dd) : ∃ es : List Nat, es.Perm (oth n D) ∧ es.Pairwise (fun x y => ahd D x y = true) := by
  refine ⟨(oth n D).mergeSort (fun x y => !ahd D y x), List.mergeSort_perm _ _, ?_⟩
  have h := List.pairwise_mergeSort (le := fun x y => !ahd D y x) (fun a b c h1 h2 => ?_) (fun a b => ?_) (oth n D)
  · have hn : ((oth n D).mergeSort (fun x y => !ahd D y x)).Pairwise (fun x y => x ≠ y) := (List.mergeSort_perm _ _).symm.nodup oth_nodup
    refine (h.and hn).imp_of_mem fun {a b} _ _ hab => ?_
    rcases ahd_tot (D := D) hab.2 with h1 | h1
    · exact h1
    · have := hab.1; rw [h1] at this; simp at this
  · cases h3 : ahd D c a with
    | false => rfl
    | true =>
      have h1' : ahd D b a = false := by simpa using h1
      have h2' : ahd D c b = false := by simpa using h2
      by_cases hab : a = b
      · subst hab; rw [h2'] at h3; simp at h3
      · rcases ahd_tot (D := D) hab with g | g
        · rw [ahd_trans h3 g] at h2'; simp at h2'
        · rw [g] at h1'; simp at h1'
  · cases h3 : ahd D b a with
    | false => simp
    | true => rw [ahd_asym h3]; simp

/-- How many of the first m places are others that are kept. -/
def kpt (n m : Nat) (D : Nat → Dd) : Nat := ((oth m D).filter (fun i => keepF n D i)).length
theorem kpt_zero : kpt n 0 D = 0 := rfl
theorem kpt_sure {m : Nat} (h : sure (D m) = true) : kpt n (m + 1) D = kpt n m D := by
  unfold kpt; rw [oth_sure h]
theorem kpt_yes {m : Nat} (h : sure (D m) = false) (g : keepF n D m = true) : kpt n (m + 1) D = kpt n m D + 1 := by
  unfold kpt; rw [oth_more h, List.filter_append]; simp [g]
theorem kpt_no {m : Nat} (h : sure (D m) = false) (g : keepF n D m = false) : kpt n (m + 1) D = kpt n m D := by
  unfold kpt; rw [oth_more h, List.filter_append]; simp [g]

theorem kpt_half : kpt n n D = half n D := by
  obtain ⟨es, hp, ho⟩ := ordered n D
  have e : kpt n n D = (es.filter (fun i => keepF n D i)).length := by
    unfold kpt
    exact ((hp.filter _).length_eq).symm
  have hin : ∀ x ∈ es, x < n ∧ sure (D x) = false := fun x hx => oth_mem.1 (hp.mem_iff.1 hx)
  have hk : ∀ (j x : Nat), es[j]? = some x → (keepF n D x = true ↔ j < half n D) := fun j x hj => by
    unfold keepF
    rw [rnk_at hp ho hj, (hin x (List.mem_of_getElem? hj)).2]
    simp
  have hs : es = es.take (half n D) ++ es.drop (half n D) := (List.take_append_drop _ es).symm
  rw [e, hs, List.filter_append, List.length_append]
  have f1 : (es.take (half n D)).filter (fun i => keepF n D i) = es.take (half n D) := List.filter_eq_self.2 fun x hx => by
    obtain ⟨j, hj⟩ := List.mem_iff_getElem?.1 hx
    have hl := (List.getElem?_eq_some_iff.1 hj).1
    rw [List.length_take] at hl
    rw [List.getElem?_take_of_lt (by omega)] at hj
    exact (hk j x hj).2 (by omega)
  have f2 : (es.drop (half n D)).filter (fun i => keepF n D i) = [] := List.filter_eq_nil_iff.2 fun x hx => by
    obtain ⟨j, hj⟩ := List.mem_iff_getElem?.1 hx
    rw [List.getElem?_drop] at hj
    intro c
    have := (hk _ x hj).1 c
    omega
  rw [f1, f2, List.length_take, hp.length_eq]
  have := half_le (n := n) (D := D)
  simp; omega

/-- None that is gone is better than one that is kept. -/
theorem keep_best (hi : i < n) (hk : k < n) (si : sure (D i) = false) (sk : sure (D k) = false) (ki : keepF n D i = false) (kk : keepF n D k = true) : btr (D i) (D k) = false := by
  obtain ⟨es, hp, ho⟩ := ordered n D
  obtain ⟨a, la, ha⟩ := List.getElem_of_mem (hp.mem_iff.2 (oth_mem.2 ⟨hi, si⟩))
  obtain ⟨b, lb, hb⟩ := List.getElem_of_mem (hp.mem_iff.2 (oth_mem.2 ⟨hk, sk⟩))
  have ra := rnk_at hp ho (show es[a]? = some i by rw [List.getElem?_eq_getElem la, ha])
  have rb := rnk_at hp ho (show es[b]? = some k by rw [List.getElem?_eq_getElem lb, hb])
  unfold keepF at ki kk
  rw [si, ra] at ki
  rw [sk, rb] at kk
  simp at ki kk
  have := List.pairwise_iff_getElem.1 ho b a lb la (by omega)
  rw [ha, hb] at this
  exact ahd_btr this
end

end Go.Proofs.Ytodhganfjeojoaa
