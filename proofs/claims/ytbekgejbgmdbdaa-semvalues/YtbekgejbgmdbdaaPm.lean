/-
  partsOf, at, meaning: what a term is made of, and what it means.
-/
import Derived.Test.YtbekgejbgmdbdaaHm
import Derived.Test.YtbekgejbgmdbdaaLs
import Derived.Test.YtbekgejbgmdbdaaBuild
import Derived.Test.YtbekgejbgmdbdaaWCalls
namespace Go.Proofs.Ytbekgejbgmdbdaa
open Go.RowKit Go.Maps
set_option linter.unusedVariables false
set_option maxRecDepth 20000

theorem row_nil (w : World) : Ls.Row w none 0 0 [] := ⟨rfl, Nat.le_refl _, by unfold maxLen; omega, fun _ => rfl, fun x hx => by simp at hx, fun h => by omega⟩
theorem row_new (w : World) (xs : List Int) (hf : Ls.Fit xs) (h0 : xs.length ≤ 1000) {g : Nat} (hg : g = w.heap.size) : Ls.Row (w.alloc (.cells ((xs.map (Value.int .i64)).toArray) 3)) (some ⟨g, 0, none⟩) xs.length xs.length xs := by
  subst hg
  refine ⟨rfl, Nat.le_refl _, by unfold maxLen; omega, fun h => by simp at h, hf, fun _ => ⟨_, _, rfl, fun j hj => ?_⟩⟩
  rw [cell_of (new_same _ _)]
  simp [hj]

theorem ks_in {n : Nd} (hf : Ft n) : Ls.Fit (ksF n) := by
  intro x hx
  obtain ⟨h0, h1, h2, h3, h4, h5⟩ := hf
  unfold ksF at hx
  split at hx
  · simp at hx
  · split at hx
    · simp at hx; rcases hx with rfl | rfl | rfl <;> omega
    · split at hx
      · simp at hx; subst hx; omega
      · simp at hx; rcases hx with rfl | rfl <;> omega

theorem ne_b {x y : Int} (h : x ≠ y) : (x == y) = false := by simp [h]

theorem parts_any (n : Nd) (hf : Ft n) (w : World) : Calls Try.prog 59 #[.agg #[.int .i64 n.op, .int .i64 n.wd, .int .i64 n.a, .int .i64 n.b, .int .i64 n.c, .int .u64 n.v]] w fun e w' =>
    ∃ ao c, e = .returned (.slice ao (ksF n).length c) ∧ Hid (Ls.Row w' ao (ksF n).length c (ksF n)) ∧ Hid (Below w.heap.size w w') ∧ Hid (∀ ad, ao = some ad → w.heap.size ≤ ad.block) := by
  have HF := hid (ks_in hf)
  clear hf
  obtain ⟨op, wd, a, b, c, v⟩ := n
  simp only []
  by_cases e20 : op = 20 ∨ op = 21
  · have HK : Hid (ksF ⟨op, wd, a, b, c, v⟩ = []) := hid (by simp [ksF, e20])
    rw [HK.out]
    rcases e20 with rfl | rfl
    all_goals
      go_enter Try.func59, Try.ntmps59
      go_wp2
      go_ret
      exact ⟨none, 0, rfl, hid (row_nil _), hid (by go_grown), hid (fun ad h => by cases h)⟩
  · by_cases e22 : op = 22
    · have HK : Hid (ksF ⟨op, wd, a, b, c, v⟩ = [a, b, c]) := hid (by simp [ksF, e22])
      rw [HK.out] at HF ⊢
      subst e22
      clear e20 HK
      go_enter Try.func59, Try.ntmps59
      go_wp2
      go_ret
      exact ⟨_, 3, rfl, hid (row_new _ [a, b, c] HF.out (by simp) (by simp)), hid (by go_grown), hid (fun ad h => by cases h; simp)⟩
    · by_cases e15 : op = 15 ∨ op = 16 ∨ op = 23 ∨ op = 25 ∨ op = 26
      · have HK : Hid (ksF ⟨op, wd, a, b, c, v⟩ = [a]) := hid (by simp [ksF, e20, e22, e15])
        rw [HK.out] at HF ⊢
        clear e20 e22 HK
        rcases e15 with rfl | rfl | rfl | rfl | rfl
        all_goals
          go_enter Try.func59, Try.ntmps59
          go_wp2
          go_ret
          exact ⟨_, 1, rfl, hid (row_new _ [a] HF.out (by simp) (by simp)), hid (by go_grown), hid (fun ad h => by cases h; simp)⟩
      · have HK : Hid (ksF ⟨op, wd, a, b, c, v⟩ = [a, b]) := hid (by simp [ksF, e20, e22, e15])
        rw [HK.out] at HF ⊢
        have q1 := ne_b (show op ≠ 20 by omega)
        have q2 := ne_b (show op ≠ 21 by omega)
        have q3 := ne_b (show op ≠ 22 by omega)
        have q4 := ne_b (show op ≠ 15 by omega)
        have q5 := ne_b (show op ≠ 16 by omega)
        have q6 := ne_b (show op ≠ 23 by omega)
        have q7 := ne_b (show op ≠ 25 by omega)
        have q8 := ne_b (show op ≠ 26 by omega)
        clear e20 e22 e15 HK
        go_enter Try.func59, Try.ntmps59
        go_wp2
        go_ret
        exact ⟨_, 2, rfl, hid (row_new _ [a, b] HF.out (by simp) (by simp)), hid (by go_grown), hid (fun ad h => by cases h; simp)⟩

/-! ### words that came in -/
def Us (w : World) (a : Option Addr) (len : Nat) (E : List Int) : Prop :=
  E.length = len ∧ (∀ x ∈ E, 0 ≤ x ∧ x < 18446744073709551616) ∧ (0 < len → ∃ b off, a = some ⟨b, off, none⟩ ∧ ∀ j, j < len → w.cell? ⟨b, off + j, none⟩ = some (.int .u64 (E.getD j 0)))

theorem Us.below {w w' : World} {a : Option Addr} {len : Nat} {E : List Int} (h : Us w a len E) (b : Below w.heap.size w w') : Us w' a len E := by
  refine ⟨h.1, h.2.1, fun h0 => ?_⟩
  obtain ⟨g, off, e, hc⟩ := h.2.2 h0
  exact ⟨g, off, e, fun j hj => (b.cell (cell_lt (hc j hj))).trans (hc j hj)⟩
theorem enF_bd {w : World} {a : Option Addr} {len : Nat} {E : List Int} (h : Us w a len E) (i : Int) : 0 ≤ enF E i ∧ enF E i < 18446744073709551616 := by
  unfold enF
  by_cases hi : i.toNat < E.length
  · have : E.getD i.toNat 0 ∈ E := by
      rw [List.getD_eq_getElem?_getD, List.getElem?_eq_getElem hi]; simp
    exact h.2.1 _ this
  · rw [List.getD_eq_getElem?_getD, List.getElem?_eq_none (by omega)]; simp
theorem Us.at {w : World} {a : Option Addr} {len : Nat} {E : List Int} (h : Us w a len E) {j : Nat} (hj : j < len) : ∃ b off, a = some ⟨b, off, none⟩ ∧ w.cell? ⟨b, off + j, none⟩ = some (.int .u64 (enF E j)) := by
  obtain ⟨g, off, e, hc⟩ := h.2.2 (by omega)
  refine ⟨g, off, e, ?_⟩
  rw [hc j hj]
  simp [enF]
theorem enF_out {w : World} {a : Option Addr} {len : Nat} {E : List Int} (h : Us w a len E) {j : Nat} (hj : ¬ j < len) : enF E j = 0 := by
  unfold enF
  rw [List.getD_eq_getElem?_getD, List.getElem?_eq_none (by rw [h.1]; simp; omega)]; rfl

theorem at_any {w : World} {a : Option Addr} {len cap : Nat} {E : List Int} (h : Us w a len E) {i : Int} (h0 : 0 ≤ i) {x : Int} (hx : enF E i = x) : Calls Try.prog 60 #[.slice a len cap, .int .i64 i] w fun e w' => e = .returned (.int .u64 x) ∧ w' = w := by
  obtain ⟨j, rfl⟩ := Int.eq_ofNat_of_zero_le h0
  by_cases hj : j < len
  · obtain ⟨b, off, rfl, hc⟩ := h.at hj
    have hj' : (j : Int) < len := by omega
    have hj2 : decide ((len : Int) ≤ (j : Int)) = false := by simp; omega
    rw [hx] at hc
    clear h hx
    go_enter Try.func60, Try.ntmps60
    go_wp2
    go_ret
    exact ⟨rfl, rfl⟩
  · have e := enF_out h hj
    rw [e] at hx
    subst hx
    have hj' : ¬ (j : Int) < len := by omega
    have hj2 : decide ((len : Int) ≤ (j : Int)) = true := by simp; omega
    clear h e
    go_enter Try.func60, Try.ntmps60
    go_wp2
    go_ret
    exact ⟨rfl, rfl⟩

end Go.Proofs.Ytbekgejbgmdbdaa
