/-
  Words, digits; what a term is made of; whether a text is too long.
-/
import Derived.Test.YtefielnmlekhaaaDoorEr
namespace Go.Proofs.YtefielnmlekhaaaDoor
open Go.RowKit
open Go.Lib (decDigits itoa byteCells)
set_option linter.unusedVariables false
set_option maxRecDepth 20000

theorem ne_b {x y : Int} (h : x ≠ y) : (x == y) = false := by simp [h]

/-! ### words -/
theorem word_nat {i : Nat} : wordF (i : Int) = wdsL.getD i [] := by
  unfold wordF; rw [if_neg (by omega), Int.toNat_natCast]

theorem word_any {x y : Addr} (op : Int) (w : World) (hE : Env w x y) : Calls Tryd.prog 9 #[.int .i64 op] w fun e w' => e = .returned (.string ⟨(wordF op).toArray⟩) ∧ w' = w := by
  by_cases h0 : op < 0
  · have HW : Hid (wordF op = []) := hid (by simp [wordF, h0])
    go_enter Tryd.func9, Tryd.ntmps9
    go_wp2
    go_ret
    exact ⟨by rw [HW.out]; rfl, rfl⟩
  · obtain ⟨i, rfl⟩ := Int.eq_ofNat_of_zero_le (show 0 ≤ op by omega)
    by_cases h1 : i < 27
    · have h1' : ¬ (27 : Int) ≤ i := by omega
      have HW := hid (word_nat (i := i))
      have hc := hE.wd i h1
      obtain ⟨s, hs⟩ : ∃ s, Hid (s = wdsL.getD i []) := ⟨_, rfl⟩
      rw [← hs.out] at hc HW
      clear hE h0
      go_enter Tryd.func9, Tryd.ntmps9
      go_wp2
      go_ret
      exact ⟨by rw [HW.out]; rfl, rfl⟩
    · have h1' : (27 : Int) ≤ i := by omega
      have HW : Hid (wordF (i : Int) = []) := hid (by rw [word_nat, List.getD_eq_getElem?_getD, List.getElem?_eq_none (by simp [wdsL]; omega)]; rfl)
      clear hE h0
      go_enter Tryd.func9, Tryd.ntmps9
      go_wp2
      go_ret
      exact ⟨by rw [HW.out]; rfl, rfl⟩

/-! ### how long a text is -/
/-- The text ts, if it is not too long; else the error. -/
def TermEnd (w0 : World) (y : Addr) (ts : List UInt8) (w : World) (e : Ending) (w' : World) : Prop :=
  (ts.length ≤ 4096 ∧ ∃ v', e = .returned (.tuple #[v', .nilIface]) ∧ Hid (Buf w0 w' v' ts) ∧ Hid (Kp w w')) ∨
  (4096 < ts.length ∧ e = .returned (.tuple #[.slice none 0 0, .iface 125 (.pointer (some y))]) ∧ Hid (Below w0.heap.size w0 w') ∧ Hid (Kp w w'))

theorem fits_any {w0 : World} {x y : Addr} (hE : Env w0 x y) (v : Value) (t : List UInt8) (w : World) (h : Buf w0 w v t) (hl : t.length ≤ 100000000) : Calls Tryd.prog 43 #[v] w fun e w' => TermEnd w0 y t w e w' := by
  have HB := hid h
  have hc := (hE.keep h.2).e1
  obtain ⟨ao, c, rfl⟩ := h.shape
  clear hE h
  by_cases hlt : 4096 < t.length
  · have hlt' : (4096 : Int) < t.length := by omega
    go_enter Tryd.func43, Tryd.ntmps43
    go_wp2
    go_quiet (fail)
    go_wp2
    go_ret2
    exact .inr ⟨hlt, rfl, hid (HB.out.2.trans ⟨rfl, rfl, rfl, Nat.le_refl _, fun _ _ => rfl⟩), hid (fun _ _ h _ _ => h)⟩
  · have hlt' : ¬ (4096 : Int) < t.length := by omega
    go_enter Tryd.func43, Tryd.ntmps43
    go_wp2
    go_ret2
    exact .inl ⟨by omega, _, rfl, HB, hid (Kp.refl _)⟩

/-! ### numbers in memory -/
def Nums (w : World) (ao : Option Addr) (xs : List Int) : Prop := (xs = [] ∧ ao = none) ∨ ∃ g, ao = some ⟨g, 0, none⟩ ∧ w.heap[g]? = some (.cells (xs.map (Value.int .i64)).toArray 3 (0, 0))
theorem Nums.kept {w w' : World} {ao : Option Addr} {xs : List Int} (h : Nums w ao xs) (k : Kp w w') : Nums w' ao xs := by
  rcases h with h | ⟨g, e, hc⟩
  · exact .inl h
  · exact .inr ⟨g, e, k.block hc (by decide)⟩
theorem Nums.at {w : World} {ao : Option Addr} {xs : List Int} (h : Nums w ao xs) {j : Nat} (hj : j < xs.length) : ∃ g x, ao = some ⟨g, 0, none⟩ ∧ xs[j]? = some x ∧ w.cell? ⟨g, j, none⟩ = some (.int .i64 x) := by
  rcases h with ⟨rfl, _⟩ | ⟨g, e, hc⟩
  · simp at hj
  · exact ⟨g, xs[j], e, by simp [hj], by rw [cell_of hc]; simp [hj]⟩
theorem nums_nil (w : World) : Nums w none [] := .inl ⟨rfl, rfl⟩
theorem nums_new (w : World) (xs : List Int) {g : Nat} (hg : g = w.heap.size) : Nums (w.alloc (.cells ((xs.map (Value.int .i64)).toArray) 3)) (some ⟨g, 0, none⟩) xs := by
  subst hg; exact .inr ⟨_, rfl, new_same _ _⟩

theorem numbers_any (n : Nd) (w : World) : Calls Tryd.prog 58 #[.agg #[.int .i64 n.op, .int .i64 n.wd, .int .i64 n.a, .int .i64 n.b, .int .i64 n.c, .int .u64 n.v]] w fun e w' =>
    ∃ ao, e = .returned (.slice ao (numsF n).length (numsF n).length) ∧ Hid (Nums w' ao (numsF n)) ∧ Hid (Below w.heap.size w w') := by
  obtain ⟨op, wd, a, b, c, v⟩ := n
  simp only []
  by_cases e23 : op = 23
  · have HK : Hid (numsF ⟨op, wd, a, b, c, v⟩ = [b, wd]) := hid (by simp [numsF, e23])
    rw [HK.out]
    subst e23
    go_enter Tryd.func58, Tryd.ntmps58
    go_wp2
    go_ret
    exact ⟨_, rfl, hid (nums_new _ [b, wd] (by simp)), hid (by go_grown)⟩
  · by_cases e25 : op = 25 ∨ op = 26
    · have HK : Hid (numsF ⟨op, wd, a, b, c, v⟩ = [wd]) := hid (by simp [numsF, e23, e25])
      rw [HK.out]
      rcases e25 with rfl | rfl
      all_goals
        go_enter Tryd.func58, Tryd.ntmps58
        go_wp2
        go_ret
        exact ⟨_, rfl, hid (nums_new _ [wd] (by simp)), hid (by go_grown)⟩
    · have HK : Hid (numsF ⟨op, wd, a, b, c, v⟩ = []) := hid (by simp [numsF, e23, e25])
      rw [HK.out]
      have q1 := ne_b (show op ≠ 23 by omega)
      have q2 := ne_b (show op ≠ 25 by omega)
      have q3 := ne_b (show op ≠ 26 by omega)
      clear e23 e25
      go_enter Tryd.func58, Tryd.ntmps58
      go_wp2
      go_ret
      exact ⟨none, rfl, hid (nums_nil _), hid (by go_grown)⟩

theorem parts_any (n : Nd) (h0 : n.op ≠ 20) (h1 : n.op ≠ 21) (w : World) : Calls Tryd.prog 59 #[.agg #[.int .i64 n.op, .int .i64 n.wd, .int .i64 n.a, .int .i64 n.b, .int .i64 n.c, .int .u64 n.v]] w fun e w' =>
    ∃ ao, e = .returned (.slice ao (ksF n).length (ksF n).length) ∧ Hid (Nums w' ao (ksF n)) ∧ Hid (Below w.heap.size w w') := by
  obtain ⟨op, wd, a, b, c, v⟩ := n
  simp only [] at h0 h1 ⊢
  by_cases e22 : op = 22
  · have HK : Hid (ksF ⟨op, wd, a, b, c, v⟩ = [a, b, c]) := hid (by simp [ksF, e22])
    rw [HK.out]
    subst e22
    clear h0 h1
    go_enter Tryd.func59, Tryd.ntmps59
    go_wp2
    go_ret
    exact ⟨_, rfl, hid (nums_new _ [a, b, c] (by simp)), hid (by go_grown)⟩
  · by_cases e15 : op = 15 ∨ op = 16 ∨ op = 23 ∨ op = 25 ∨ op = 26
    · have HK : Hid (ksF ⟨op, wd, a, b, c, v⟩ = [a]) := hid (by simp [ksF, h0, h1, e22, e15])
      rw [HK.out]
      clear h0 h1 e22 HK
      rcases e15 with rfl | rfl | rfl | rfl | rfl
      all_goals
        go_enter Tryd.func59, Tryd.ntmps59
        go_wp2
        go_ret
        exact ⟨_, rfl, hid (nums_new _ [a] (by simp)), hid (by go_grown)⟩
    · have HK : Hid (ksF ⟨op, wd, a, b, c, v⟩ = [a, b]) := hid (by simp [ksF, h0, h1, e22, e15])
      rw [HK.out]
      have q3 := ne_b (show op ≠ 22 by omega)
      have q4 := ne_b (show op ≠ 15 by omega)
      have q5 := ne_b (show op ≠ 16 by omega)
      have q6 := ne_b (show op ≠ 23 by omega)
      have q7 := ne_b (show op ≠ 25 by omega)
      have q8 := ne_b (show op ≠ 26 by omega)
      clear h0 h1 e22 e15 HK
      go_enter Tryd.func59, Tryd.ntmps59
      go_wp2
      go_ret
      exact ⟨_, rfl, hid (nums_new _ [a, b] (by simp)), hid (by go_grown)⟩

end Go.Proofs.YtefielnmlekhaaaDoor
