/-
  What is true while clauses are gone over: how many literals of each are not struck, and that each that has one at most has one that holds.
-/
import Derived.Test.YtdkkdfgaponlbaaSettle
namespace Go.Proofs.Ytdkkdfgaponlbaa
open Go.RowKit Go.Maps
set_option linter.unusedVariables false

structure Gd (L : List (List Int)) (S : List Int) (op H : List Int) (st : Nat → Int → Bool) : Prop where
  cnt : ∀ i c, L[i]? = some c → op[i]? = some ((cntU (st i) (dd c) : Nat) : Int)
  str : ∀ i y, st i y = true → notF y ∈ H
  set : ∀ i c, L[i]? = some c → cntU (st i) (dd c) ≤ 1 → ∃ y ∈ c, y ∈ H
  der : ∀ y ∈ H, Der L S y

def stD (st : Nat → Int → Bool) (x : Int) (done : List Nat) : Nat → Int → Bool := fun i y => st i y || (y == x && done.contains i)

theorem stD_nil (st : Nat → Int → Bool) (x : Int) : stD st x [] = st := by funext i y; simp [stD]

theorem stD_same {st : Nat → Int → Bool} {x : Int} {done : List Nat} {i : Nat} : stD st x (done ++ [i]) i = fun y => st i y || y == x := by
  funext y; simp [stD]

theorem stD_old {st : Nat → Int → Bool} {x : Int} {done : List Nat} {i : Nat} (h : i ∉ done) : stD st x done i = st i := by
  funext y; simp [stD, h]

theorem stD_other {st : Nat → Int → Bool} {x : Int} {done : List Nat} {i j : Nat} (h : j ≠ i) : stD st x (done ++ [i]) j = stD st x done j := by
  funext y; simp [stD, h]

theorem mem_addH {H : List Int} {x y : Int} : y ∈ addH H x ↔ y ∈ H ∨ y = x := by
  by_cases h : x ∈ H
  · rw [add_old h]
    constructor
    · exact .inl
    · rintro (h1 | rfl)
      · exact h1
      · exact h
  · rw [add_fresh h]; simp

theorem addH_pre (H : List Int) (x : Int) : ∃ T, addH H x = H ++ T := by
  by_cases h : x ∈ H
  · exact ⟨[], by rw [add_old h]; simp⟩
  · exact ⟨[x], add_fresh h⟩

/-- The one literal that may hold follows. -/
theorem settle_der {L : List (List Int)} {S H c : List Int} {st : Int → Bool} {y : Int} (hc : c ∈ L) (hs : ∀ z, st z = true → notF z ∈ H) (hd : ∀ z ∈ H, Der L S z) (h1 : cntU st (dd c) ≤ 1) (hy : y ∈ c) (y0 : 0 ≤ y) (hn : notF y ∉ H) : Der L S y := by
  have hsy : st y = false := by
    cases e : st y
    · rfl
    · exact absurd (hs y e) hn
  refine .unit hc hy y0 fun z hz z0 hne => hd _ (hs z ?_)
  exact cnt_one h1 y ((mem_dd c y).2 ⟨hy, y0⟩) z ((mem_dd c z).2 ⟨hz, z0⟩) hsy hne

theorem settle_bad {L : List (List Int)} {S H c : List Int} (hc : c ∈ L) (hd : ∀ z ∈ H, Der L S z) (h : ∀ y ∈ c, 0 ≤ y → notF y ∈ H) : Bad L S :=
  .inr ⟨c, hc, fun y hy y0 => hd _ (h y hy y0)⟩

section
variable {L : List (List Int)} {S op H c : List Int} {st : Nat → Int → Bool} {x : Int} {done : List Nat} {i : Nat}

theorem op_len (g : Gd L S op H st) (hi : L[i]? = some c) : i < op.length := by
  have := g.cnt i c hi
  exact (List.getElem?_eq_some_iff.1 this).1

/-- One clause more knows that x does not hold. -/
theorem strike_cnt (g : Gd L S op H (stD st x done)) (hi : L[i]? = some c) (hx : x ∈ dd c) (hst : st i x = false) (hnd : i ∉ done) :
    op[i]? = some ((cntU (stD st x (done ++ [i]) i) (dd c) + 1 : Nat) : Int) := by
  rw [g.cnt i c hi, stD_old hnd, stD_same, cnt_strike (nodup_dd c) hx hst]

theorem strike_new (g : Gd L S op H (stD st x done)) (hi : L[i]? = some c) (hx : x ∈ dd c) (hst : st i x = false) (hnd : i ∉ done) (hxH : notF x ∈ H) :
    (∀ j c', L[j]? = some c' → (op.set i (cntU (stD st x (done ++ [i]) i) (dd c) : Nat))[j]? = some ((cntU (stD st x (done ++ [i]) j) (dd c') : Nat) : Int)) ∧
    (∀ j y, stD st x (done ++ [i]) j y = true → notF y ∈ H) ∧
    (∀ j c', L[j]? = some c' → (j = i → cntU (stD st x (done ++ [i]) i) (dd c) ≠ 1) → cntU (stD st x (done ++ [i]) j) (dd c') ≤ 1 → ∃ y ∈ c', y ∈ H) := by
  have hlen := op_len g hi
  refine ⟨fun j c' hj => ?_, fun j y h => ?_, fun j c' hj hne h => ?_⟩
  · by_cases e : j = i
    · subst e
      rw [hi] at hj; cases hj
      simp [hlen]
    · rw [List.getElem?_set_ne (fun q => e q.symm), stD_other e]; exact g.cnt j c' hj
  · by_cases e : j = i
    · subst e
      rw [stD_same] at h
      simp only [Bool.or_eq_true, beq_iff_eq] at h
      rcases h with h | h
      · exact g.str j y (by simp [stD, h])
      · rw [h]; exact hxH
    · rw [stD_other e] at h; exact g.str j y h
  · by_cases e : j = i
    · subst e
      rw [hi] at hj; cases hj
      have h0 : cntU (stD st x (done ++ [j]) j) (dd c) = 0 := by have := hne rfl; omega
      refine g.set j c hi ?_
      rw [stD_old hnd, cnt_strike (nodup_dd c) hx hst]
      rw [stD_same] at h0; omega
    · rw [stD_other e] at h; exact g.set j c' hj h

theorem strike_other (g : Gd L S op H (stD st x done)) (hi : L[i]? = some c) (hx : x ∈ dd c) (hst : st i x = false) (hnd : i ∉ done) (hxH : notF x ∈ H) (h1 : cntU (stD st x (done ++ [i]) i) (dd c) ≠ 1) :
    Gd L S (op.set i (cntU (stD st x (done ++ [i]) i) (dd c) : Nat)) H (stD st x (done ++ [i])) := by
  obtain ⟨a, b, d⟩ := strike_new g hi hx hst hnd hxH
  exact ⟨a, b, fun j c' hj h => d j c' hj (fun _ => h1) h, g.der⟩

theorem strike_settled {y : Int} (g : Gd L S op H (stD st x done)) (hi : L[i]? = some c) (hx : x ∈ dd c) (hst : st i x = false) (hnd : i ∉ done) (hxH : notF x ∈ H) (h1 : cntU (stD st x (done ++ [i]) i) (dd c) = 1)
    (hy : y ∈ c) (y0 : 0 ≤ y) (hn : notF y ∉ H) : Gd L S (op.set i (cntU (stD st x (done ++ [i]) i) (dd c) : Nat)) (addH H y) (stD st x (done ++ [i])) := by
  obtain ⟨a, b, d⟩ := strike_new g hi hx hst hnd hxH
  refine ⟨a, fun j z h => mem_addH.2 (.inl (b j z h)), fun j c' hj h => ?_, fun z hz => ?_⟩
  · by_cases e : j = i
    · subst e
      rw [hi] at hj; cases hj
      exact ⟨y, hy, mem_addH.2 (.inr rfl)⟩
    · obtain ⟨z, hz, hz2⟩ := d j c' hj (fun q => absurd q e) h
      exact ⟨z, hz, mem_addH.2 (.inl hz2)⟩
  · rcases mem_addH.1 hz with hz | rfl
    · exact g.der z hz
    · exact settle_der (List.mem_of_getElem? hi) (b i) g.der (by omega) hy y0 hn
end

/-! ### The uses of a literal, one behind the other -/
def Chain (us : List (Int × Int)) : Nat → List Nat → Prop
  | p, [] => p = 0
  | p, c :: cs => ∃ q nx : Nat, p = q + 1 ∧ us[q]? = some ((c : Int), (nx : Int)) ∧ nx ≤ q ∧ Chain us nx cs

theorem Chain.more {us : List (Int × Int)} (v : List (Int × Int)) : ∀ {cs : List Nat} {p : Nat}, Chain us p cs → Chain (us ++ v) p cs := by
  intro cs
  induction cs with
  | nil => intro p h; exact h
  | cons c cs ih =>
    intro p h
    obtain ⟨q, nx, h1, h2, h3, h4⟩ := h
    refine ⟨q, nx, h1, ?_, h3, ih h4⟩
    rw [List.getElem?_append_left (List.getElem?_eq_some_iff.1 h2).1]; exact h2

theorem flat_use {us : List (Int × Int)} : ∀ {q : Nat} {u : Int × Int}, us[q]? = some u → (us.flatMap useV)[q * 2]? = some (.int .i64 u.1) ∧ (us.flatMap useV)[q * 2 + 1]? = some (.int .i64 u.2) := by
  induction us with
  | nil => intro q u h; simp at h
  | cons v us ih =>
    intro q u h
    rcases q with _ | q
    · simp at h; subst h
      simp [List.flatMap_cons, useV]
    · simp at h
      obtain ⟨h1, h2⟩ := ih h
      rw [List.flatMap_cons]
      have hl : (useV v).length = 2 := rfl
      rw [List.getElem?_append_right (by omega), List.getElem?_append_right (by omega), hl]
      rw [show (q + 1) * 2 - 2 = q * 2 by omega, show (q + 1) * 2 + 1 - 2 = q * 2 + 1 by omega]
      exact ⟨h1, h2⟩

/-- A use, read. -/
theorem St.useAt {k : K} {w : World} {F : Int → Fa} {M : Int → Option Nat} {ks op : List Int} {us : List (Int × Int)} {uv hv : Value} {H : List Int} (s : St k w F M ks op us uv H hv) {q : Nat} {u : Int × Int} (hq : us[q]? = some u) :
    ∃ g cap, uv = .slice (some ⟨g, 0, none⟩) us.length cap ∧ w.cell? ⟨g, q * 2, none⟩ = some (.int .i64 u.1) ∧ w.cell? ⟨g, q * 2 + 1, none⟩ = some (.int .i64 u.2) := by
  have hl : q < us.length := (List.getElem?_eq_some_iff.1 hq).1
  rcases s.us.2 with ⟨_, hn⟩ | ⟨g, cap, cur, rfl, hb, hg, hnc, hm, hcs, htk⟩
  · omega
  · obtain ⟨h1, h2⟩ := flat_use hq
    refine ⟨g, cap, rfl, ?_, ?_⟩
    · rw [cell_of hg, ← h1, ← htk, List.getElem?_take_of_lt (by omega)]; simp
    · rw [cell_of hg, ← h2, ← htk, List.getElem?_take_of_lt (by omega)]; simp

theorem P2.use {k : K} {fst : Int → Int} {us : List (Int × Int)} {op H : List Int} {w : World} (h : P2 k fst us op H w) {q : Nat} {u : Int × Int} (hq : us[q]? = some u) :
    ∃ g cap, w.cell? ⟨k.C, 2, none⟩ = some (.slice (some ⟨g, 0, none⟩) us.length cap) ∧ w.cell? ⟨g, q * 2, none⟩ = some (.int .i64 u.1) ∧ w.cell? ⟨g, q * 2 + 1, none⟩ = some (.int .i64 u.2) := by
  obtain ⟨F, M, ks, uv, hv, s, _⟩ := h
  obtain ⟨g, cap, rfl, h1, h2⟩ := s.useAt hq
  exact ⟨g, cap, s.c2, h1, h2⟩

theorem P2.op {k : K} {fst : Int → Int} {us : List (Int × Int)} {op H : List Int} {w : World} (h : P2 k fst us op H w) {i : Nat} {t : Int} (hi : op[i]? = some t) :
    w.cell? ⟨k.C, 1, none⟩ = some (.slice (some ⟨k.OB, 0, none⟩) k.n k.n) ∧ w.cell? ⟨k.OB, i, none⟩ = some (.int .i64 t) ∧ w.frozen? ⟨k.OB, i, none⟩ = false := by
  obtain ⟨F, M, ks, uv, hv, s, _⟩ := h
  exact ⟨s.c1, s.opc hi, s.opf i⟩

theorem P2.putop {k : K} {fst : Int → Int} {us : List (Int × Int)} {op H : List Int} {w : World} (h : P2 k fst us op H w) (i : Nat) (t : Int) : P2 k fst us (op.set i t) H (w.setCell ⟨k.OB, i, none⟩ (.int .i64 t)) := by
  obtain ⟨F, M, ks, uv, hv, s, r⟩ := h
  exact ⟨F, M, ks, uv, hv, s.putop i t, r⟩

theorem P2.held {k : K} {fst : Int → Int} {us : List (Int × Int)} {op H : List Int} {w : World} (h : P2 k fst us op H w) : ∃ ao cap, w.cell? ⟨k.C, 5, none⟩ = some (.slice ao H.length cap) ∧ Row w ao H.length cap H := by
  obtain ⟨F, M, ks, uv, hv, s, _, _, _, hk⟩ := h
  have hfit : Fit H := fun y hy => by have := s.ok.Kn y (hk y hy).1; omega
  obtain ⟨ao, c, rfl, r⟩ := Own.row (w := w) (B := k.OB + 1) (v := hv) (xs := H) ⟨s.he, hfit⟩
  exact ⟨ao, c, s.c5, r⟩

end Go.Proofs.Ytdkkdfgaponlbaa
