/-
  Lists that grow by append: Sorted, but.
-/
import Derived.Test.YtgnoejcekbfkoaaRising
import Derived.Laws.AppendOwnNone
import Derived.Laws.OwnMore
namespace Go.Proofs.Ytgnoejcekbfkoaa
open Go.RowKit
set_option linter.unusedVariables false

/-- The value is a slice of the call's own, at a row from block B on, and holds xs. -/
def Own (w : World) (B : Nat) (v : Value) (xs : List Int) : Prop := w.ownsRow B 3 1 v xs.length (xs.map (Value.int .i64)) ∧ Fit xs

theorem Own.nil (w : World) (B : Nat) : Own w B (.slice none 0 0) [] := ⟨World.ownsRow_nil _ _ _ _, fun x hx => by simp at hx⟩

theorem Own.row {w : World} {B : Nat} {v : Value} {xs : List Int} (h : Own w B v xs) : ∃ ao c, v = .slice ao xs.length c ∧ Row w ao xs.length c xs := by
  rcases h.1.2 with ⟨rfl, hn⟩ | ⟨g, cap, cur, rfl, hb, hg, hl, hm, hs, ht⟩
  · refine ⟨none, 0, by rw [hn], rfl, by omega, by unfold maxLen; omega, fun _ => rfl, h.2, fun h0 => by omega⟩
  · refine ⟨_, cap, rfl, rfl, hl, hm, fun e => by simp at e, h.2, fun _ => ⟨g, 0, rfl, fun j hj => ?_⟩⟩
    rw [Nat.zero_add, h.1.cellAt j (by omega)]
    simp [hj]

theorem Own.shape {w : World} {B : Nat} {v : Value} {xs : List Int} (h : Own w B v xs) : ∃ ao n c, v = .slice ao n c ∧ Hid (Row w ao n c xs) := by
  obtain ⟨ao, c, e, r⟩ := h.row
  exact ⟨ao, _, c, e, r⟩

theorem Row.take {w : World} {ao : Option Addr} {n c j : Nat} {xs : List Int} (h : Row w ao n c xs) (hj : j ≤ n) : Row w ao j c (xs.take j) := by
  refine ⟨by rw [List.length_take, h.1]; omega, by have := h.2.1; omega, h.2.2.1, h.2.2.2.1, fun x hx => h.2.2.2.2.1 x (List.mem_of_mem_take hx), fun h0 => ?_⟩
  obtain ⟨b, o, e, hc⟩ := h.2.2.2.2.2 (by omega)
  refine ⟨b, o, e, fun i hi => ?_⟩
  rw [hc i (by omega)]
  simp [hi]

theorem Row.drop {w : World} {ao bo : Option Addr} {n c j n' c' : Nat} {xs : List Int} (h : Row w ao n c xs) (hj : j ≤ n) (hn : n' = n - j) (hcc : c' = c - j) (h0 : bo = none → c' = 0) (hb : ∀ b o, ao = some ⟨b, o, none⟩ → 0 < n' → bo = some ⟨b, o + j, none⟩) :
    Row w bo n' c' (xs.drop j) := by
  subst hn hcc
  refine ⟨by rw [List.length_drop, h.1], by have := h.2.1; omega, by have := h.2.2.1; omega, h0, fun x hx => h.2.2.2.2.1 x (List.mem_of_mem_drop hx), fun hp => ?_⟩
  obtain ⟨b, o, e, hc⟩ := h.2.2.2.2.2 (by omega)
  refine ⟨b, o + j, hb b o e hp, fun i hi => ?_⟩
  rw [Nat.add_assoc, hc (j + i) (by omega)]
  simp [List.getElem?_drop]

theorem Own.alloc {w : World} {B : Nat} {v : Value} {xs : List Int} (h : Own w B v xs) (o : Obj) : Own (w.alloc o) B v xs := ⟨h.1.alloc o, h.2⟩

theorem fit_append {xs ys : List Int} (h : Fit xs) (g : Fit ys) : Fit (xs ++ ys) := fun x hx => (List.mem_append.1 hx).elim (h x) (g x)

theorem append_ints {w : World} {ops : Array Oper} {rest : List Oper} {o : Oper} {a : Act} {Q : Exit → Act → World → Prop} (hgd : o.guard = none) (s x : Operand)
    (ho : o.op = .call { callee := .builtin .append, args := #[s, x], argTypes := #[22, 22] }) (B : Nat) (v : Value) (xs ys : List Int) (hs : a.eval s = v) (own : Own w B v xs)
    (ao : Option Addr) (m c : Nat) (hx : a.eval x = .slice ao m c) (row : Row w ao m c ys) (hbd : xs.length + m ≤ 1000000) (hB : B ≤ w.heap.size)
    (h : ∀ v' w', Hid (Own w' B v' (xs ++ ys)) → Hid (Below B w w') → wpList Try.prog ops Q rest (a.put o.dst v') w') : wpList Try.prog ops Q (o :: rest) a w := by
  obtain ⟨i0, hi, hz0, hz1, hz2⟩ := info_parts Try.info3
  have hbel : ∀ {w'}, w.grownBy w' v.ownBlock → Below B w w' := fun hg => (Below.refl B w).grown hg hB fun k hk => (own.1.lt k hk).1
  by_cases h0 : m = 0
  · have e : ys = [] := List.eq_nil_of_length_eq_zero (row.1.trans h0)
    subst e h0
    cases ao with
    | none =>
      have ec := row.2.2.2.1 rfl
      subst ec
      refine wpList_append_own_none hgd s x 22 ho B 3 i0 1 Try.underlying22 hi v xs.length _ hs own.1 hx ?_
      exact h v w (show Own w B v (xs ++ []) by rw [List.append_nil]; exact own) (Below.refl _ _)
    | some ad =>
      refine wpList_append_own (P := Try.prog) (w := w) hgd s x 22 ho B 3 i0 (.int .i64 0) 1 8 Try.underlying22 hi hz0 hz1 hz2 rfl (by decide) v xs.length _ hs own.1 ad 0 c [] hx rfl (fun j u hj => by simp at hj) (fun u hu => by simp at hu) (by unfold maxLen; omega) (by omega) hB ?_
      intro v' w' h1 h2 _
      refine h v' w' (show Own w' B v' (xs ++ []) from ?_) (hbel h2)
      rw [List.append_nil]
      exact ⟨by simpa using h1, own.2⟩
  · obtain ⟨ad, rfl, hc⟩ := row_cells row (by omega)
    refine wpList_append_own (P := Try.prog) (w := w) hgd s x 22 ho B 3 i0 (.int .i64 0) 1 8 Try.underlying22 hi hz0 hz1 hz2 rfl (by decide) v xs.length _ hs own.1 ad m c (ys.map (Value.int .i64)) hx (by rw [List.length_map, row.1, Nat.mul_one]) hc (ints_one ys) (by unfold maxLen; omega) (by omega) hB ?_
    intro v' w' h1 h2 _
    refine h v' w' (show Own w' B v' (xs ++ ys) from ⟨?_, fit_append own.2 row.2.2.2.2.1⟩) (hbel h2)
    rw [List.length_append, row.1, List.map_append]
    exact h1

/-- A new block of one number. -/
theorem row_one (w : World) (y : Int) (h0 : -9223372036854775808 ≤ y) (h1 : y ≤ 9223372036854775807) : Row (w.alloc (.cells #[.int .i64 y] 3)) (some ⟨w.heap.size, 0, none⟩) 1 1 [y] := by
  refine ⟨rfl, Nat.le_refl _, by unfold maxLen; omega, fun h => by simp at h, fun x hx => by rw [List.mem_singleton] at hx; subst hx; exact ⟨h0, h1⟩, fun _ => ⟨_, _, rfl, fun j hj => ?_⟩⟩
  obtain rfl : j = 0 := by omega
  simp

theorem but_step {xs : List Int} {k : Nat} {y x : Int} (hy : xs[k]? = some y) (hn : y ≠ x) : butF (xs.take (k + 1)) x = butF (xs.take k) x ++ [y] := by
  rw [List.take_add_one, hy, butF, butF, List.filter_append]; simp [hn]
theorem but_skip {xs : List Int} {k : Nat} {x : Int} (hy : xs[k]? = some x) : butF (xs.take (k + 1)) x = butF (xs.take k) x := by
  rw [List.take_add_one, hy, butF, butF, List.filter_append]; simp
theorem but_len (xs : List Int) (k : Nat) (x : Int) : (butF (xs.take k) x).length ≤ xs.length := by
  refine Nat.le_trans (List.length_filter_le _ _) ?_; simp; omega

set_option maxHeartbeats 1000000 in
theorem but_any (ao : Option Addr) (n cap : Nat) (xs : List Int) (x : Int) (w : World) (h : Row w ao n cap xs) (hn : n ≤ 1000) :
    Calls Try.prog 34 #[.slice ao n cap, .int .i64 x] w fun e w' => ∃ v, e = .returned v ∧ Hid (Own w' w.heap.size v (butF xs x)) ∧ Below w.heap.size w w' := by
  have HR : Hid (Row w ao n cap xs) := h
  have hm := h.max
  clear h
  go_enter Try.func34, Try.ntmps34
  go_wp2
  go_loopw [5, 6] (fun v i wr => ∃ k : Nat, k ≤ n ∧ i = .int .i64 k ∧ Hid (Own wr w.heap.size v (butF (xs.take k) x)) ∧ Below w.heap.size w wr) (fun _ i _ => n - (intOf i).toNat)
  case atStart => exact ⟨0, Nat.zero_le _, rfl, Own.nil _ _, Below.refl _ _⟩
  case round =>
    obtain ⟨k, hk, rfl, hown, hb⟩ := hrel
    by_cases hlt : k < n
    · obtain ⟨b, off, y, rfl, hc, hy, y0, y1⟩ := (HR.out.keep hb).at hlt
      by_cases he : y = x
      · subst he
        have HE : Hid (butF (xs.take (k + 1)) y = butF (xs.take k) y) := but_skip hy.out
        go_wp2
        go_roundw
        case rel => exact ⟨k + 1, by omega, by go_num, by show Own _ _ _ _; rw [HE.out]; exact hown.out, hb⟩
        case measure => simp [intOf]; omega
      · have he' : (y == x) = false := by simpa using he
        have HE : Hid (butF (xs.take (k + 1)) x = butF (xs.take k) x ++ [y]) := but_step hy.out he
        have HL := but_len xs k x
        have HX := HR.out.1
        have hs := hb.size
        go_wp2_with (at_builtin; refine append_ints rfl (.tmp 19) (.tmp 24) rfl w.heap.size _ _ [y] rfl (hown.out.alloc _) _ 1 1 rfl (row_one wr y y0 y1) (by omega) (by simp; omega) ?_; intro v2 w2 hown2 hb2)
        go_roundw
        case rel => exact ⟨k + 1, by omega, by go_num, by show Own _ _ _ _; rw [HE.out]; exact hown2.out, (hb.alloc hb.size _).trans hb2.out⟩
        case measure => simp [intOf]; omega
    · have HV : Hid (xs.take k = xs) := List.take_of_length_le (by rw [HR.out.1]; omega)
      go_wp2
      go_ret
      exact ⟨_, rfl, by rw [← HV.out]; exact hown, hb⟩

end Go.Proofs.Ytgnoejcekbfkoaa
