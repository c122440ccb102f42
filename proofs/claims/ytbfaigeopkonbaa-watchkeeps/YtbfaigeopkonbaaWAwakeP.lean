/-
  The chapter's own case, plainly.
-/
import Derived.Test.YtbfaigeopkonbaaWActp
namespace Go.Proofs.Ytbfaigeopkonbaa
open Go.RowKit Go.Maps
set_option linter.unusedVariables false

/-- The first two clauses. -/
structure A2 (g : G) : Prop where
  l0 : g.lt 0 = [1, 2]
  l1 : g.lt 1 = [3, 4]
  n0 : g.gn 0 = false
  n1 : g.gn 1 = false

def L0 : List E := [⟨0, 0, -1⟩]

theorem nf2 : U.notF 2 = 3 := by decide
theorem nf4 : U.notF 4 = 5 := by decide
theorem nf0 : U.notF 0 = 1 := by decide
theorem nf1 : U.notF 1 = 0 := by decide
theorem nf3 : U.notF 3 = 2 := by decide
theorem nf5 : U.notF 5 = 4 := by decide

section
variable {g g' : G} {L' : List E}

theorem aw_at (X : Ext L0 L' 0) : L'[0]? = some ⟨0, 0, -1⟩ := by
  obtain ⟨M, rfl, _⟩ := X; rfl

theorem aw_new (X : Ext L0 L' 0) {q : Nat} {e : E} (he : L'[q]? = some e) (hq : q ≠ 0) : 0 ≤ e.r := by
  obtain ⟨M, rfl, hM⟩ := X
  rw [List.getElem?_append_right (by simp [L0]; omega)] at he
  exact (hM e (List.mem_of_getElem? he)).2

theorem aw_lits (X : Ext L0 L' 0) (rs : Rs g L') (hnd : ND L') (a : A2 g) (hn : g.nx = 2) {q : Nat} {x : Int} (hx : (litsF L')[q]? = some x) : x = 0 ∨ x = 2 ∨ x = 4 := by
  have no5 : ∀ (r : Nat), (litsF L')[r]? ≠ some 5 := by
    intro r hr
    obtain ⟨e, he, h5⟩ := lits_at.1 hr
    by_cases h0 : r = 0
    · subst h0; rw [aw_at X] at he; cases he; simp at h5
    · obtain ⟨c, h1, h2, h3, h4, _⟩ := rs r e he (aw_new X he h0)
      rw [h5] at h4
      have hc : c = 0 ∨ c = 1 := by omega
      rcases hc with rfl | rfl
      · rw [a.l0] at h4; simp at h4
      · rw [a.l1] at h4; simp at h4
  obtain ⟨e, he, rfl⟩ := lits_at.1 hx
  by_cases h0 : q = 0
  · subst h0; rw [aw_at X] at he; cases he; exact .inl rfl
  · obtain ⟨c, h1, h2, h3, h4, h5⟩ := rs q e he (aw_new X he h0)
    have hc : c = 0 ∨ c = 1 := by omega
    rcases hc with rfl | rfl
    · rw [a.l0] at h4
      simp at h4
      rcases h4 with h4 | h4
      · exfalso
        have := nd_one hnd he (aw_at X) (by show e.l / 2 = 0 / 2; omega)
        exact h0 this
      · exact .inr (.inl h4)
    · rw [a.l1] at h4 h5
      simp at h4
      rcases h4 with h4 | h4
      · exfalso
        obtain ⟨r, _, hr⟩ := h5 4 (by simp) (by omega)
        rw [nf4] at hr
        exact no5 r hr
      · exact .inr (.inr h4)

theorem aw_one (X : Ext L0 L' 0) (rs : Rs g' L') (hnd : ND L') (a : A2 g) (hn : g.nx = 2) (s : Sm0 g g') {i : Int} {ok : Bool} (V : RunV g g' L' i ok) :
    (i = -1 ∧ ok = true) ∧ (∀ z, z ∈ litsF L' ↔ z = 0 ∨ z = 2 ∨ z = 4) ∧ reasonF L' 2 = 1 := by
  have a' : A2 g' := ⟨by rw [s.lt]; exact a.l0, by rw [s.lt]; exact a.l1, by rw [s.gn]; exact a.n0, by rw [s.gn]; exact a.n1⟩
  have hn' : g'.nx = 2 := by rw [s.nx]; exact hn
  have P : ∀ (q : Nat) (x : Int), (litsF L')[q]? = some x → x = 0 ∨ x = 2 ∨ x = 4 := fun q x h => aw_lits X rs hnd a' hn' h
  have m0 : (litsF L')[0]? = some 0 := lits_at.2 ⟨_, aw_at X, rfl⟩
  have v1 : valueF L' 1 = -1 := val_not hnd (by omega) (by rw [nf1]; exact m0)
  have neg : ∀ x : Int, valueF L' x = -1 → U.notF x = 0 ∨ U.notF x = 2 ∨ U.notF x = 4 := fun x h => by
    obtain ⟨_, _, q, hq⟩ := val_neg (L := L') (x := x) (by omega)
    exact P q _ hq
  have pos : ∀ x : Int, valueF L' x = 1 → (x = 0 ∨ x = 2 ∨ x = 4) ∧ ∃ q : Nat, (litsF L')[q]? = some x := fun x h => by
    obtain ⟨_, q, hq⟩ := val_one h
    exact ⟨P q _ hq, q, hq⟩
  rcases V with ⟨rfl, rfl, hc⟩ | ⟨c, rfl, rfl, hc, hg, hv⟩
  · have m2 : ∃ q : Nat, (litsF L')[q]? = some 2 := by
      rcases hc 0 (by omega) a'.n0 with ⟨x, hx, h⟩ | ⟨x, hx, y, hy, hne, h1, h2⟩
      · rw [a'.l0] at hx
        simp at hx
        rcases hx with rfl | rfl
        · omega
        · exact (pos 2 h).2
      · rw [a'.l0] at hx hy
        simp at hx hy
        rcases hx with rfl | rfl
        · omega
        · rcases hy with rfl | rfl
          · omega
          · exact absurd rfl hne
    obtain ⟨q2, hq2⟩ := m2
    have v3 : valueF L' 3 = -1 := val_not hnd (by omega) (by rw [nf3]; exact hq2)
    have m4 : ∃ q : Nat, (litsF L')[q]? = some 4 := by
      rcases hc 1 (by omega) a'.n1 with ⟨x, hx, h⟩ | ⟨x, hx, y, hy, hne, h1, h2⟩
      · rw [a'.l1] at hx
        simp at hx
        rcases hx with rfl | rfl
        · omega
        · exact (pos 4 h).2
      · rw [a'.l1] at hx hy
        simp at hx hy
        rcases hx with rfl | rfl
        · omega
        · rcases hy with rfl | rfl
          · omega
          · exact absurd rfl hne
    obtain ⟨q4, hq4⟩ := m4
    refine ⟨⟨rfl, rfl⟩, fun z => ⟨fun hz => ?_, fun hz => ?_⟩, ?_⟩
    · obtain ⟨q, hq⟩ := List.mem_iff_getElem?.1 hz
      exact P q z hq
    · rcases hz with rfl | rfl | rfl
      · exact List.mem_of_getElem? m0
      · exact List.mem_of_getElem? hq2
      · exact List.mem_of_getElem? hq4
    · obtain ⟨e, he, h4⟩ := lits_at.1 hq4
      have h0 : q4 ≠ 0 := by rintro rfl; rw [aw_at X] at he; cases he; simp at h4
      obtain ⟨c, c1, c2, c3, c5, _⟩ := rs q4 e he (aw_new X he h0)
      have hr := reason_at hnd he
      have hvr : ((vr e : Nat) : Int) = 2 := by unfold vr; omega
      rw [hvr] at hr
      rw [hr, c1]
      rw [h4] at c5
      have hcc : c = 0 ∨ c = 1 := by omega
      rcases hcc with rfl | rfl
      · rw [a'.l0] at c5; simp at c5
      · rfl
  · exfalso
    have hcc : c = 0 ∨ c = 1 := by omega
    rcases hcc with rfl | rfl
    · have := neg 2 (hv 2 (by rw [a.l0]; simp)); rw [nf2] at this; omega
    · have := neg 4 (hv 4 (by rw [a.l1]; simp)); rw [nf4] at this; omega

theorem aw_two {L : List E} {n : Nat} (hL : ∀ z, z ∈ litsF L ↔ z = 0 ∨ z = 2 ∨ z = 4) (hr : reasonF L 2 = 1) (hndL : ND L) (X : Ext L L' 0) (rs : Rs g' L') (hnd : ND L') (hv : ∀ e ∈ L', vr e < 3) (a : A2 g) (l2 : g.lt 2 = [5, 3]) (n2 : g.gn 2 = false) (hn : g.nx = 3) (s : Sm0 g g') {i : Int} {ok : Bool} (V : RunV g g' L' i ok) :
    (i = 2 ∧ ok = false) ∧ reasonF L' 2 = 1 ∧ ∀ e ∈ L', e.r ≠ (2 : Nat) := by
  have up : ∀ z, z ∈ litsF L → ∃ q : Nat, (litsF L')[q]? = some z := fun z hz => by
    obtain ⟨q, hq⟩ := List.mem_iff_getElem?.1 hz
    exact ⟨q, X.at hq⟩
  obtain ⟨q0, h0⟩ := up 0 ((hL 0).2 (by simp))
  obtain ⟨q2, h2⟩ := up 2 ((hL 2).2 (by simp))
  obtain ⟨q4, h4⟩ := up 4 ((hL 4).2 (by simp))
  have P : ∀ (q : Nat) (x : Int), (litsF L')[q]? = some x → x = 0 ∨ x = 2 ∨ x = 4 := fun q x h => by
    obtain ⟨e, he, rfl⟩ := lits_at.1 h
    have hv' := hv e (List.mem_of_getElem? he)
    unfold vr at hv'
    by_cases c1 : (e.l : Int) = 1
    · rw [c1] at h; exact (both_no hnd (x := 0) (by omega) h0 (by rw [nf0]; exact h)).elim
    · by_cases c3 : (e.l : Int) = 3
      · rw [c3] at h; exact (both_no hnd (x := 2) (by omega) h2 (by rw [nf2]; exact h)).elim
      · by_cases c5 : (e.l : Int) = 5
        · rw [c5] at h; exact (both_no hnd (x := 4) (by omega) h4 (by rw [nf4]; exact h)).elim
        · omega
  have neg : ∀ x : Int, valueF L' x = -1 → U.notF x = 0 ∨ U.notF x = 2 ∨ U.notF x = 4 := fun x h => by
    obtain ⟨_, _, q, hq⟩ := val_neg (L := L') (x := x) (by omega)
    exact P q _ hq
  have v3 : valueF L' 3 = -1 := val_not hnd (by omega) (by rw [nf3]; exact h2)
  have v5 : valueF L' 5 = -1 := val_not hnd (by omega) (by rw [nf5]; exact h4)
  refine ⟨?_, ?_, fun e he h => ?_⟩
  · rcases V with ⟨rfl, rfl, hc⟩ | ⟨c, rfl, rfl, hc, hg, hv⟩
    · exfalso
      have l2' : g'.lt 2 = [5, 3] := by rw [s.lt]; exact l2
      rcases hc 2 (by rw [s.nx]; omega) (by rw [s.gn]; exact n2) with ⟨x, hx, h⟩ | ⟨x, hx, y, hy, hne, h1, _⟩
      · rw [l2'] at hx
        simp at hx
        rcases hx with rfl | rfl <;> omega
      · rw [l2'] at hx
        simp at hx
        rcases hx with rfl | rfl <;> omega
    · refine ⟨?_, rfl⟩
      have hcc : c = 0 ∨ c = 1 ∨ c = 2 := by omega
      rcases hcc with rfl | rfl | rfl
      · exfalso; have := neg 2 (hv 2 (by rw [a.l0]; simp)); rw [nf2] at this; omega
      · exfalso; have := neg 4 (hv 4 (by rw [a.l1]; simp)); rw [nf4] at this; omega
      · rfl
  · obtain ⟨q, hq⟩ := List.mem_iff_getElem?.1 ((hL 4).2 (by simp))
    obtain ⟨e, he, e4⟩ := lits_at.1 hq
    have hvr : ((vr e : Nat) : Int) = 2 := by unfold vr; omega
    have r1 := reason_at hndL he
    rw [hvr, hr] at r1
    obtain ⟨M, rfl, _⟩ := X
    have he' : (L ++ M)[q]? = some e := by rw [List.getElem?_append_left ((List.getElem?_eq_some_iff.1 he).1)]; exact he
    have r2 := reason_at hnd he'
    rw [hvr] at r2
    rw [r2]; exact r1.symm
  · obtain ⟨q, hq⟩ := List.mem_iff_getElem?.1 he
    obtain ⟨c, c1, c2, c3, c4, _⟩ := rs q e hq (by rw [h]; omega)
    have hc2 : c = 2 := by omega
    subst hc2
    rw [s.lt, l2] at c4
    have := P q _ (lits_at.2 ⟨e, hq, rfl⟩)
    simp at c4
    omega
end

theorem A2.of {g g1 g2 : G} (hn : g.nx = 0) (d1 : AddD 3 g g1 [1, 2]) (d2 : AddD 3 g1 g2 [3, 4]) : A2 g2 ∧ g2.nx = 2 := by
  have h1 : g1.nx = 1 := by rw [d1.nx, hn]
  have h2 : g2.nx = 2 := by rw [d2.nx, h1]
  refine ⟨⟨?_, ?_, ?_, ?_⟩, h2⟩
  · rw [d2.lt, h1, up_ne _ _ (by omega), d1.lt, hn, up_same]
  · rw [d2.lt, h1, up_same]
  · rw [d2.gn, h1, up_ne _ _ (by omega), d1.gn, hn, up_same]
  · rw [d2.gn, h1, up_same]

theorem A2.next {g g1 : G} (a : A2 g) (hn : g.nx = 2) (d : AddD 3 g g1 [5, 3]) : A2 g1 ∧ g1.nx = 3 ∧ g1.lt 2 = [5, 3] ∧ g1.gn 2 = false := by
  refine ⟨⟨?_, ?_, ?_, ?_⟩, by rw [d.nx, hn], by rw [d.lt, hn, up_same], by rw [d.gn, hn, up_same]⟩
  · rw [d.lt, hn, up_ne _ _ (by omega)]; exact a.l0
  · rw [d.lt, hn, up_ne _ _ (by omega)]; exact a.l1
  · rw [d.gn, hn, up_ne _ _ (by omega)]; exact a.n0
  · rw [d.gn, hn, up_ne _ _ (by omega)]; exact a.n1

theorem A2.sm {g g' : G} (a : A2 g) (s : Sm0 g g') : A2 g' := ⟨by rw [s.lt]; exact a.l0, by rw [s.lt]; exact a.l1, by rw [s.gn]; exact a.n0, by rw [s.gn]; exact a.n1⟩

/-- Two are left. -/
theorem aw_gone {g g' : G} {n : Nat} (a : A2 g) (hn : g.nx = 3) (d : RemD n g g' 2) : liveN g' = 2 ∧ live g' 2 = false ∧ g'.nx = 3 ∧ g'.lt 1 = [3, 4] ∧ g'.gn 1 = false := by
  have h3 : g'.nx = 3 := by rw [d.nx, hn]
  have e0 : g'.gn 0 = false := by rw [d.gn, up_ne _ _ (by omega)]; exact a.n0
  have e1 : g'.gn 1 = false := by rw [d.gn, up_ne _ _ (by omega)]; exact a.n1
  have e2 : g'.gn 2 = true := by rw [d.gn, up_same]
  refine ⟨?_, ?_, h3, by rw [d.lt]; exact a.l1, e1⟩
  · unfold liveN
    rw [h3, show List.range 3 = [0, 1, 2] from rfl]
    simp [e0, e1, e2]
  · unfold live
    simp [h3, e2]

theorem row1 (w : World) (x : Int) (hx : 0 ≤ x ∧ x ≤ 1000) : U.Row (w.alloc (.cells #[.int .i64 x] 3)) (some ⟨w.heap.size, 0, none⟩) 1 1 [x] := U.row_one w x (by omega) (by omega)

theorem row2 (w : World) (x y : Int) (hx : 0 ≤ x ∧ x ≤ 1000) (hy : 0 ≤ y ∧ y ≤ 1000) : U.Row (w.alloc (.cells #[.int .i64 x, .int .i64 y] 3)) (some ⟨w.heap.size, 0, none⟩) 2 2 [x, y] := by
  refine ⟨rfl, Nat.le_refl _, by unfold maxLen; omega, (fun e => by cases e), fun z hz => ?_, fun _ => ⟨w.heap.size, 0, rfl, fun j hj => ?_⟩⟩
  · simp at hz; rcases hz with rfl | rfl <;> omega
  · rw [cell_of (new_same w _), Nat.zero_add]
    match j, hj with
    | 0, _ => rfl
    | 1, _ => rfl

theorem row3 (w : World) (x y z : Int) (hx : 0 ≤ x ∧ x ≤ 1000) (hy : 0 ≤ y ∧ y ≤ 1000) (hz : 0 ≤ z ∧ z ≤ 1000) : U.Row (w.alloc (.cells #[.int .i64 x, .int .i64 y, .int .i64 z] 3)) (some ⟨w.heap.size, 0, none⟩) 3 3 [x, y, z] := by
  refine ⟨rfl, Nat.le_refl _, by unfold maxLen; omega, (fun e => by cases e), fun q hq => ?_, fun _ => ⟨w.heap.size, 0, rfl, fun j hj => ?_⟩⟩
  · simp at hq; rcases hq with rfl | rfl | rfl <;> omega
  · rw [cell_of (new_same w _), Nat.zero_add]
    match j, hj with
    | 0, _ => rfl
    | 1, _ => rfl
    | 2, _ => rfl

end Go.Proofs.Ytbfaigeopkonbaa
