/-
  Terms, each once: plain.
-/
import Derived.Test.YtefielnmlekhaaaDoorMem
namespace Go.Proofs.YtefielnmlekhaaaDoor
open Go.RowKit
set_option linter.unusedVariables false

theorem isN_lt {N : List Nd} {a : Int} (h : isN N a = true) : 0 ≤ a ∧ a < N.length := by
  obtain ⟨i, rfl, hi⟩ := isN_yes h; omega
theorem isN_more {N : List Nd} {a : Int} {m : Nd} (h : isN N a = true) : isN (N ++ [m]) a = true := by
  obtain ⟨i, rfl, hi⟩ := isN_yes h; exact isN_nat (by simp; omega)
theorem ndA_more {N : List Nd} {a : Int} {m : Nd} (h : isN N a = true) : ndA (N ++ [m]) a = ndA N a := by
  obtain ⟨i, rfl, hi⟩ := isN_yes h
  have h1 := ndA_nat hi
  have h2 := ndA_nat (N := N ++ [m]) (i := i) (by simp; omega)
  rw [List.getElem?_append_left hi, h1] at h2
  exact (Option.some.inj h2).symm
theorem wdF_more {N : List Nd} {a : Int} {m : Nd} (h : isN N a = true) : wdF (N ++ [m]) a = wdF N a := by unfold wdF; rw [ndA_more h]

theorem and_yes {a b : Bool} (h : (a && b) = true) : a = true ∧ b = true := by simpa using h

/-- What is asked for again is the same term. -/
theorem plan_again {N : List Nd} (g : Gd N) {d : Dd} {n : Nd} (h : planD N d = .inr n) : planD (N ++ [n]) d = .inr n := by
  obtain ⟨kd, dw, da, db, dc, dx⟩ := d
  unfold planD at h ⊢
  simp only [] at h ⊢
  by_cases h0 : kd = 0
  · rw [if_pos h0] at h ⊢; exact h
  rw [if_neg h0] at h ⊢
  by_cases h1 : kd = 1
  · rw [if_pos h1] at h ⊢
    unfold varP at h ⊢
    cases hf : fitsB dw
    · rw [hf] at h; simp at h
    rw [hf] at h
    simp only [if_true] at h ⊢
    cases h2 : (decide (da < 0) || decide (256 ≤ da))
    · rw [h2] at h
      simp only [Bool.false_eq_true, if_false] at h ⊢
      cases h3 : ((vwF N da != 0) && (vwF N da != dw))
      · rw [h3] at h
        simp only [Bool.false_eq_true, if_false] at h
        cases h
        have key : vwF (N ++ [⟨21, dw, da, 0, 0, 0⟩]) da = dw := by
          by_cases e : vwF N da = 0
          · have hn : ∀ m ∈ N, ¬ (m.op = 21 ∧ m.a = da) := by
              intro m hm hh
              have h5 := vwF_of g hm hh.1
              have h6 := g.wd m hm
              rw [hh.2, e] at h5
              omega
            rw [(vwF_none hn _).2]; simp
          · have e2 : vwF N da = dw := by
              have hh : (vwF N da != 0) = true := by simpa using e
              rw [hh] at h3
              simpa using h3
            obtain ⟨m, hm, m1, m2, _⟩ := vwF_mem e
            rw [vwF_found ⟨m, hm, m1, m2⟩, e2]
        rw [key]
        simp
      · rw [h3] at h; simp at h
    · rw [h2] at h; simp at h
  rw [if_neg h1] at h ⊢
  by_cases h2 : kd = 2
  · rw [if_pos h2] at h ⊢
    unfold unP at h ⊢
    cases k1 : ((da != 15) && (da != 16))
    · rw [k1] at h
      simp only [Bool.false_eq_true, if_false] at h ⊢
      cases k2 : isN N db
      · rw [k2] at h; simp at h
      · rw [k2] at h
        rw [isN_more k2, wdF_more k2]
        exact h
    · rw [k1] at h; simp at h
  rw [if_neg h2] at h ⊢
  by_cases h3 : kd = 3
  · rw [if_pos h3] at h ⊢
    unfold binP at h ⊢
    cases k1 : (decide (da < 1) || decide (14 < da))
    · rw [k1] at h
      simp only [Bool.false_eq_true, if_false] at h ⊢
      cases k2 : (isN N db && isN N dc)
      · rw [k2] at h; simp at h
      · rw [k2] at h
        obtain ⟨p, q⟩ := and_yes k2
        rw [isN_more p, isN_more q, wdF_more p, wdF_more q]
        exact h
    · rw [k1] at h; simp at h
  rw [if_neg h3] at h ⊢
  by_cases h4 : kd = 4
  · rw [if_pos h4] at h ⊢
    unfold iteP at h ⊢
    cases k2 : (isN N da && (isN N db && isN N dc))
    · rw [k2] at h; simp at h
    · rw [k2] at h
      obtain ⟨p, q⟩ := and_yes k2
      obtain ⟨q, r⟩ := and_yes q
      rw [isN_more p, isN_more q, isN_more r, wdF_more p, wdF_more q, wdF_more r]
      exact h
  rw [if_neg h4] at h ⊢
  by_cases h5 : kd = 5
  · rw [if_pos h5] at h ⊢
    unfold extP at h ⊢
    cases k2 : isN N da
    · rw [k2] at h; simp at h
    · rw [k2] at h
      rw [isN_more k2, wdF_more k2]
      exact h
  rw [if_neg h5] at h ⊢
  by_cases h6 : kd = 6
  · rw [if_pos h6] at h ⊢
    unfold catP at h ⊢
    cases k2 : (isN N da && isN N db)
    · rw [k2] at h; simp at h
    · rw [k2] at h
      obtain ⟨p, q⟩ := and_yes k2
      rw [isN_more p, isN_more q, wdF_more p, wdF_more q]
      exact h
  rw [if_neg h6] at h ⊢
  unfold widP at h ⊢
  cases k2 : isN N da
  · rw [k2] at h; simp at h
  · rw [k2] at h
    rw [isN_more k2, wdF_more k2]
    exact h

theorem again {N : List Nd} (g : Gd N) (M : Nat) (d : Dd) :
    resI M (resN M N (planD N d)) (planD (resN M N (planD N d)) d) = resI M N (planD N d) ∧ resE M (resN M N (planD N d)) (planD (resN M N (planD N d)) d) = resE M N (planD N d) ∧
      resN M (resN M N (planD N d)) (planD (resN M N (planD N d)) d) = resN M N (planD N d) := by
  cases hp : planD N d with
  | inl p => simp [resN, hp]
  | inr n =>
    simp only [resN]
    rcases mkN_cases M N n with ⟨h1, e1, e2, e3⟩ | ⟨h1, h2, e1, e2, e3⟩ | ⟨h1, h2, e1, e2, e3⟩
    · rw [e1, hp]; exact ⟨rfl, rfl, e1⟩
    · rw [e1, plan_again g hp]
      simp only [resI, resE]
      rcases mkN_cases M (N ++ [n]) n with ⟨_, f1, f2, f3⟩ | ⟨k1, _⟩ | ⟨k1, _⟩
      · rw [f1, f2, f3, e2, e3, fnd_snoc_new h1]; exact ⟨rfl, rfl, rfl⟩
      · exact absurd (by simp) k1
      · exact absurd (by simp) k1
    · rw [e1, hp]; exact ⟨rfl, rfl, e1⟩

/-- A term at the place q is made of ones ahead of it. -/
def At (n : Nd) (q : Int) : Prop := (n.op ≠ 21 → n.op ≠ 20 → n.a < q) ∧ (n.op ≠ 23 → 0 < n.b → n.b < q) ∧ (0 < n.c → n.c < q)
structure Rise (N : List Nd) : Prop where
  lay : ∀ (i : Nat) (n : Nd), N[i]? = some n → At n i
  one : N.Nodup

theorem Rise.nil : Rise [] := ⟨fun i n h => by simp at h, List.nodup_nil⟩

theorem plan_at {N : List Nd} {d : Dd} {n : Nd} (h : planD N d = .inr n) : At n N.length := by
  obtain ⟨kd, dw, da, db, dc, dx⟩ := d
  unfold planD at h
  simp only [] at h
  by_cases h0 : kd = 0
  · rw [if_pos h0] at h
    unfold constP at h
    cases hf : fitsB dw
    · rw [hf] at h; simp at h
    · rw [hf] at h; simp only [if_true] at h; cases h
      exact ⟨fun _ h => absurd rfl h, fun _ h => by simp at h, fun h => by simp at h⟩
  rw [if_neg h0] at h
  by_cases h1 : kd = 1
  · rw [if_pos h1] at h
    unfold varP at h
    cases hf : fitsB dw
    · rw [hf] at h; simp at h
    rw [hf] at h
    simp only [if_true] at h
    cases h2 : (decide (da < 0) || decide (256 ≤ da))
    · rw [h2] at h
      simp only [Bool.false_eq_true, if_false] at h
      cases h3 : ((vwF N da != 0) && (vwF N da != dw))
      · rw [h3] at h
        simp only [Bool.false_eq_true, if_false] at h
        cases h
        exact ⟨fun h => absurd rfl h, fun _ h => by simp at h, fun h => by simp at h⟩
      · rw [h3] at h; simp at h
    · rw [h2] at h; simp at h
  rw [if_neg h1] at h
  by_cases h2 : kd = 2
  · rw [if_pos h2] at h
    unfold unP at h
    cases k1 : ((da != 15) && (da != 16))
    · rw [k1] at h
      simp only [Bool.false_eq_true, if_false] at h
      cases k2 : isN N db
      · rw [k2] at h; simp at h
      · rw [k2] at h; simp only [if_true] at h; cases h
        exact ⟨fun _ _ => (isN_lt k2).2, fun _ h => by simp at h, fun h => by simp at h⟩
    · rw [k1] at h; simp at h
  rw [if_neg h2] at h
  by_cases h3 : kd = 3
  · rw [if_pos h3] at h
    unfold binP at h
    cases k1 : (decide (da < 1) || decide (14 < da))
    · rw [k1] at h
      simp only [Bool.false_eq_true, if_false] at h
      cases k2 : (isN N db && isN N dc)
      · rw [k2] at h; simp at h
      · rw [k2] at h
        obtain ⟨p, q⟩ := and_yes k2
        simp only [if_true] at h
        cases k3 : (wdF N db != wdF N dc)
        · rw [k3] at h; simp only [Bool.false_eq_true, if_false] at h; cases h
          exact ⟨fun _ _ => (isN_lt p).2, fun _ _ => (isN_lt q).2, fun h => by simp at h⟩
        · rw [k3] at h; simp at h
    · rw [k1] at h; simp at h
  rw [if_neg h3] at h
  by_cases h4 : kd = 4
  · rw [if_pos h4] at h
    unfold iteP at h
    cases k2 : (isN N da && (isN N db && isN N dc))
    · rw [k2] at h; simp at h
    · rw [k2] at h
      obtain ⟨p, q⟩ := and_yes k2
      obtain ⟨q, r⟩ := and_yes q
      simp only [if_true] at h
      cases k3 : ((wdF N da != 1) || (wdF N db != wdF N dc))
      · rw [k3] at h; simp only [Bool.false_eq_true, if_false] at h; cases h
        exact ⟨fun _ _ => (isN_lt p).2, fun _ _ => (isN_lt q).2, fun _ => (isN_lt r).2⟩
      · rw [k3] at h; simp at h
  rw [if_neg h4] at h
  by_cases h5 : kd = 5
  · rw [if_pos h5] at h
    unfold extP at h
    cases k2 : isN N da
    · rw [k2] at h; simp at h
    · rw [k2] at h
      simp only [if_true] at h
      cases k3 : (decide (dw < 1) || (decide (db < 0) || decide (wdF N da - dw < db)))
      · rw [k3] at h; simp only [Bool.false_eq_true, if_false] at h; cases h
        exact ⟨fun _ _ => (isN_lt k2).2, fun h => absurd rfl h, fun h => by simp at h⟩
      · rw [k3] at h; simp at h
  rw [if_neg h5] at h
  by_cases h6 : kd = 6
  · rw [if_pos h6] at h
    unfold catP at h
    cases k2 : (isN N da && isN N db)
    · rw [k2] at h; simp at h
    · rw [k2] at h
      obtain ⟨p, q⟩ := and_yes k2
      simp only [if_true] at h
      cases k3 : decide (64 < wdF N da + wdF N db)
      · rw [k3] at h; simp only [Bool.false_eq_true, if_false] at h; cases h
        exact ⟨fun _ _ => (isN_lt p).2, fun _ _ => (isN_lt q).2, fun h => by simp at h⟩
      · rw [k3] at h; simp at h
  rw [if_neg h6] at h
  unfold widP at h
  cases k2 : isN N da
  · rw [k2] at h; simp at h
  · rw [k2] at h
    simp only [if_true] at h
    cases k3 : (decide (dw < wdF N da) || decide (64 < dw))
    · rw [k3] at h
      simp only [Bool.false_eq_true, if_false] at h
      cases k4 : (dw == wdF N da)
      · rw [k4] at h
        simp only [Bool.false_eq_true, if_false] at h
        cases k5 : oddB db
        · rw [k5] at h; simp only [Bool.false_eq_true, if_false] at h; cases h
          exact ⟨fun _ _ => (isN_lt k2).2, fun _ h => by simp at h, fun h => by simp at h⟩
        · rw [k5] at h; simp only [if_true] at h; cases h
          exact ⟨fun _ _ => (isN_lt k2).2, fun _ h => by simp at h, fun h => by simp at h⟩
      · rw [k4] at h; simp at h
    · rw [k3] at h; simp at h

theorem Rise.made {N : List Nd} (r : Rise N) (M : Nat) (d : Dd) : Rise (resN M N (planD N d)) := by
  cases hp : planD N d with
  | inl p => exact r
  | inr n =>
    simp only [resN]
    rcases mkN_cases M N n with ⟨h1, e1, _⟩ | ⟨h1, h2, e1, _⟩ | ⟨h1, h2, e1, _⟩
    · rw [e1]; exact r
    · rw [e1]
      refine ⟨fun i m hm => ?_, ?_⟩
      · by_cases hi : i < N.length
        · rw [List.getElem?_append_left hi] at hm; exact r.lay i m hm
        · rw [List.getElem?_append_right (by omega)] at hm
          have hi2 : i = N.length := by
            by_cases e : i - N.length = 0
            · omega
            · rw [List.getElem?_eq_none (by simp; omega)] at hm; cases hm
          subst hi2
          simp at hm; subst hm
          exact plan_at hp
      · rw [List.nodup_append]
        refine ⟨r.one, by simp, fun a ha b hb => ?_⟩
        simp at hb; subst hb
        intro e; subst e; exact h1 ha
    · rw [e1]; exact r

theorem resN_more (M : Nat) (N : List Nd) (p : Plan) : (resN M N p).length ≤ N.length + 1 := by
  cases p with
  | inl p => simp [resN]
  | inr n =>
    simp only [resN]
    rcases mkN_cases M N n with ⟨h1, e1, _⟩ | ⟨h1, h2, e1, _⟩ | ⟨h1, h2, e1, _⟩ <;> rw [e1] <;> simp

theorem Rise.ne {N : List Nd} (r : Rise N) {i j : Nat} (hi : i < N.length) (hj : j < i) : ndA N j ≠ ndA N i := by
  have h1 := ndA_nat hi
  have h2 := ndA_nat (N := N) (i := j) (by omega)
  intro e
  rw [e] at h2
  obtain ⟨k1, e1⟩ := List.getElem?_eq_some_iff.1 h1
  obtain ⟨k2, e2⟩ := List.getElem?_eq_some_iff.1 h2
  exact List.pairwise_iff_getElem.1 r.one j i k2 k1 hj (by rw [e1, e2])

end Go.Proofs.YtefielnmlekhaaaDoor
