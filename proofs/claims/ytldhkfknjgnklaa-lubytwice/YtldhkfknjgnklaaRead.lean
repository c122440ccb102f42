/-
  Lists of numbers in memory; lists that grow by append; Same.
-/
import Derived.Test.YtldhkfknjgnklaaWalks
import Derived.LoopTactic
import Derived.Laws.AppendOwnNone
import Derived.Laws.OwnMore
import Derived.Laws.CopyOwn
import Derived.OwnWalk
namespace Go.Proofs.Ytldhkfknjgnklaa
open Go.RowKit
set_option linter.unusedVariables false

theorem cell_lt {w : World} {p : Addr} {v : Value} (h : w.cell? p = some v) : p.block < w.heap.size := by
  by_cases hp : p.block < w.heap.size
  · exact hp
  · exfalso
    have e : w.heap[p.block]? = none := by simp; omega
    simp [World.cell?, e] at h

def Fit (xs : List Int) : Prop := ∀ x ∈ xs, -9223372036854775808 ≤ x ∧ x ≤ 9223372036854775807

/-- The first n cells behind the address are the numbers xs. -/
def Row (w : World) (ao : Option Addr) (n cap : Nat) (xs : List Int) : Prop :=
  xs.length = n ∧ n ≤ cap ∧ cap ≤ maxLen ∧ (ao = none → cap = 0) ∧ Fit xs ∧ (0 < n → ∃ b off, ao = some ⟨b, off, none⟩ ∧ ∀ j, j < n → w.cell? ⟨b, off + j, none⟩ = some (.int .i64 (xs.getD j 0)))

theorem Row.max {w : World} {ao : Option Addr} {n cap : Nat} {xs : List Int} (h : Row w ao n cap xs) : n ≤ 9223372036854775807 := by
  have := h.2.1; have h2 := h.2.2.1; unfold maxLen at h2; omega

theorem Row.at {w : World} {ao : Option Addr} {n cap : Nat} {xs : List Int} (h : Row w ao n cap xs) {k : Nat} (hk : k < n) :
    ∃ b off y, ao = some ⟨b, off, none⟩ ∧ w.cell? ⟨b, off + k, none⟩ = some (.int .i64 y) ∧ Hid (xs[k]? = some y) ∧ -9223372036854775808 ≤ y ∧ y ≤ 9223372036854775807 := by
  obtain ⟨b, off, e, hc⟩ := h.2.2.2.2.2 (by omega)
  have hl : k < xs.length := by rw [h.1]; exact hk
  have hy : xs[k]? = some (xs.getD k 0) := by simp [hl]
  exact ⟨b, off, xs.getD k 0, e, hc k hk, hy, h.2.2.2.2.1 _ (List.mem_of_getElem? hy)⟩

theorem Row.keep {w w' : World} {ao : Option Addr} {n cap : Nat} {xs : List Int} (h : Row w ao n cap xs) (b : Below w.heap.size w w') : Row w' ao n cap xs := by
  refine ⟨h.1, h.2.1, h.2.2.1, h.2.2.2.1, h.2.2.2.2.1, fun h0 => ?_⟩
  obtain ⟨k, off, e, hc⟩ := h.2.2.2.2.2 h0
  refine ⟨k, off, e, fun j hj => ?_⟩
  rw [b.cell (cell_lt (hc j hj))]
  exact hc j hj


def sameF (xs ys : List Int) : Bool := decide (xs = ys)

theorem same_step {xs ys : List Int} {k : Nat} {y : Int} (h : xs.take k = ys.take k) (hx : xs[k]? = some y) (hy : ys[k]? = some y) : xs.take (k + 1) = ys.take (k + 1) := by
  rw [List.take_add_one, List.take_add_one, h, hx, hy]

set_option maxHeartbeats 1000000 in
theorem same_any (ao bo : Option Addr) (n m cap cbp : Nat) (xs ys : List Int) (w : World) (h : Row w ao n cap xs) (g : Row w bo m cbp ys) :
    Calls Try.prog 9 #[.slice ao n cap, .slice bo m cbp] w fun e w' => e = .returned (.bool (sameF xs ys)) ∧ Below w.heap.size w w' := by
  have HR : Hid (Row w ao n cap xs) := h
  have GR : Hid (Row w bo m cbp ys) := g
  have hm := h.max
  have gm := g.max
  by_cases hne : n = m
  · subst hne
    clear h g
    go_enter Try.func9, Try.ntmps9
    go_wp2
    go_loopw [5] (fun i wr => ∃ k : Nat, k ≤ n ∧ i = .int .i64 k ∧ Hid (xs.take k = ys.take k) ∧ Below w.heap.size w wr) (fun i _ => n - (intOf i).toNat)
    case atStart => exact ⟨0, Nat.zero_le _, rfl, rfl, Below.refl _ _⟩
    case round =>
      obtain ⟨k, hk, rfl, hno, hb⟩ := hrel
      by_cases hlt : k < n
      · obtain ⟨b, off, y, rfl, hc, hy, _, _⟩ := (HR.out.keep hb).at hlt
        obtain ⟨c, ogg, z, rfl, gc, hz, _, _⟩ := (GR.out.keep hb).at hlt
        by_cases he : y = z
        · subst he
          have HV : Hid (xs.take (k + 1) = ys.take (k + 1)) := same_step hno.out hy.out hz.out
          go_wp2
          go_region
          all_goals go_wp2
          all_goals go_roundw
          all_goals first | exact ⟨k + 1, by omega, by go_num, HV, by first | exact hb | exact hb.drew | exact hb.drew.drew⟩ | (simp [intOf]; omega)
        · have HV : Hid (sameF xs ys = false) := by
            show sameF xs ys = false
            simp only [sameF, decide_eq_false_iff_not]
            rintro rfl
            have := hy.out.symm.trans hz.out
            simp at this; exact he this
          have he' : (y == z) = false := by simpa using he
          go_wp2
          go_region
          all_goals go_wp2
          all_goals go_ret
          all_goals exact ⟨by rw [HV.out]; rfl, by first | exact hb | exact hb.drew | exact hb.drew.drew⟩
      · have HV : Hid (sameF xs ys = true) := by
          have e := hno.out
          rw [List.take_of_length_le (by rw [HR.out.1]; omega), List.take_of_length_le (by rw [GR.out.1]; omega)] at e
          show sameF xs ys = true
          simp [sameF, e]
        go_wp2
        go_ret
        exact ⟨by rw [HV.out]; rfl, hb⟩
  · have HV : Hid (sameF xs ys = false) := by
      show sameF xs ys = false
      simp only [sameF, decide_eq_false_iff_not]
      rintro rfl
      exact hne (h.1.symm.trans g.1)
    clear h g
    have hne' : ((n : Int) == (m : Int)) = false := by simp; omega
    go_enter Try.func9, Try.ntmps9
    go_wp2
    go_ret
    exact ⟨by rw [HV.out]; rfl, Below.refl _ _⟩

theorem Try.info3 : (Try.prog.info? 3).map (fun i => (i.zero, i.size, i.bytes)) = some (some (.int .i64 0), 1, 8) := by kernel_rfl

theorem row_cells {w : World} {ao : Option Addr} {n cap : Nat} {xs : List Int} (h : Row w ao n cap xs) (h0 : 0 < n) :
    ∃ ad, ao = some ad ∧ ∀ j v, (xs.map (Value.int .i64))[j]? = some v → w.cell? (ad.add j) = some v := by
  obtain ⟨b, off, e, hc⟩ := h.2.2.2.2.2 h0
  refine ⟨_, e, fun j v hv => ?_⟩
  have hj : j < xs.length := by
    have := (List.getElem?_eq_some_iff.1 hv).1; simpa using this
  have := hc j (by rw [← h.1]; exact hj)
  rw [List.getElem?_map, List.getElem?_eq_getElem hj] at hv
  simp at hv
  rw [show xs.getD j 0 = xs[j] by simp [hj], hv] at this
  by_cases h0 : j = 0
  · subst h0; simpa [Addr.add] using this
  · simpa [Addr.add, h0] using this

theorem ints_one (xs : List Int) : ∀ v ∈ xs.map (Value.int .i64), v.oneCell' = true := by
  intro v hv
  obtain ⟨x, _, rfl⟩ := List.mem_map.1 hv
  rfl

/-- The value is a slice of the call's own, at a row from block B on, and holds xs. -/
def OwnI (w : World) (B : Nat) (v : Value) (xs : List Int) : Prop := w.ownsRow B 3 1 v xs.length (xs.map (Value.int .i64)) ∧ Fit xs

theorem OwnI.nil (w : World) (B : Nat) : OwnI w B (.slice none 0 0) [] := ⟨World.ownsRow_nil _ _ _ _, fun x hx => by simp at hx⟩

theorem OwnI.row {w : World} {B : Nat} {v : Value} {xs : List Int} (h : OwnI w B v xs) : ∃ ao c, v = .slice ao xs.length c ∧ Row w ao xs.length c xs := by
  rcases h.1.2 with ⟨rfl, hn⟩ | ⟨g, cap, cur, rfl, hb, hg, hl, hm, hs, ht⟩
  · refine ⟨none, 0, by rw [hn], rfl, by omega, by unfold maxLen; omega, fun _ => rfl, h.2, fun h0 => by omega⟩
  · refine ⟨_, cap, rfl, rfl, hl, hm, fun e => by simp at e, h.2, fun _ => ⟨g, 0, rfl, fun j hj => ?_⟩⟩
    rw [Nat.zero_add, h.1.cellAt j (by omega)]
    simp [hj]

theorem OwnI.shape {w : World} {B : Nat} {v : Value} {xs : List Int} (h : OwnI w B v xs) : ∃ ao n c, v = .slice ao n c ∧ Hid (Row w ao n c xs) := by
  obtain ⟨ao, c, e, r⟩ := h.row
  exact ⟨ao, _, c, e, r⟩

theorem Row.take {w : World} {ao : Option Addr} {n c j : Nat} {xs : List Int} (h : Row w ao n c xs) (hj : j ≤ n) : Row w ao j c (xs.take j) := by
  refine ⟨by rw [List.length_take, h.1]; omega, by have := h.2.1; omega, h.2.2.1, h.2.2.2.1, fun x hx => h.2.2.2.2.1 x (List.mem_of_mem_take hx), fun h0 => ?_⟩
  obtain ⟨b, o, e, hc⟩ := h.2.2.2.2.2 (by omega)
  refine ⟨b, o, e, fun i hi => ?_⟩
  rw [hc i (by omega)]
  simp [hi]

theorem Row.drop {w : World} {ao bo : Option Addr} {n c j n' c' : Nat} {xs : List Int} (h : Row w ao n c xs) (hj : j ≤ n) (hn : n' = n - j) (hcc : c' = c - j) (h0 : bo = none → c' = 0) (hb : ∀ b o, ao = some ⟨b, o, none⟩ → 0 < n' → bo = some ⟨b, o + j, none⟩) :
    Row w bo n' c' (xs.drop j) := by
  subst hn hcc
  refine ⟨by rw [List.length_drop, h.1], by have := h.2.1; omega, by have := h.2.2.1; omega, h0, fun x hx => h.2.2.2.2.1 x (List.mem_of_mem_drop hx), fun hp => ?_⟩
  obtain ⟨b, o, e, hc⟩ := h.2.2.2.2.2 (by omega)
  refine ⟨b, o + j, hb b o e hp, fun i hi => ?_⟩
  rw [Nat.add_assoc, hc (j + i) (by omega)]
  simp [List.getElem?_drop]

theorem OwnI.alloc {w : World} {B : Nat} {v : Value} {xs : List Int} (h : OwnI w B v xs) (o : Obj) : OwnI (w.alloc o) B v xs := ⟨h.1.alloc o, h.2⟩

theorem fit_append {xs ys : List Int} (h : Fit xs) (g : Fit ys) : Fit (xs ++ ys) := fun x hx => (List.mem_append.1 hx).elim (h x) (g x)

theorem append_ints {w : World} {ops : Array Oper} {rest : List Oper} {o : Oper} {a : Act} {Q : Exit → Act → World → Prop} (hgd : o.guard = none) (s x : Operand)
    (ho : o.op = .call { callee := .builtin .append, args := #[s, x], argTypes := #[26, 26] }) (B : Nat) (v : Value) (xs ys : List Int) (hs : a.eval s = v) (own : OwnI w B v xs)
    (ao : Option Addr) (m c : Nat) (hx : a.eval x = .slice ao m c) (row : Row w ao m c ys) (hbd : xs.length + m ≤ 1000000) (hB : B ≤ w.heap.size)
    (h : ∀ v' w', Hid (OwnI w' B v' (xs ++ ys)) → Hid (Below B w w') → wpList Try.prog ops Q rest (a.put o.dst v') w') : wpList Try.prog ops Q (o :: rest) a w := by
  obtain ⟨i0, hi, hz0, hz1, hz2⟩ := info_parts Try.info3
  have hbel : ∀ {w'}, w.grownBy w' v.ownBlock → Below B w w' := fun hg => (Below.refl B w).grown hg hB fun k hk => (own.1.lt k hk).1
  by_cases h0 : m = 0
  · have e : ys = [] := List.eq_nil_of_length_eq_zero (row.1.trans h0)
    subst e h0
    cases ao with
    | none =>
      have ec := row.2.2.2.1 rfl
      subst ec
      refine wpList_append_own_none hgd s x 26 ho B 3 i0 1 Try.underlying26 hi v xs.length _ hs own.1 hx ?_
      exact h v w (show OwnI w B v (xs ++ []) by rw [List.append_nil]; exact own) (Below.refl _ _)
    | some ad =>
      refine wpList_append_own (P := Try.prog) (w := w) hgd s x 26 ho B 3 i0 (.int .i64 0) 1 8 Try.underlying26 hi hz0 hz1 hz2 rfl (by decide) v xs.length _ hs own.1 ad 0 c [] hx rfl (fun j u hj => by simp at hj) (fun u hu => by simp at hu) (by unfold maxLen; omega) (by omega) hB ?_
      intro v' w' h1 h2 _
      refine h v' w' (show OwnI w' B v' (xs ++ []) from ?_) (hbel h2)
      rw [List.append_nil]
      exact ⟨by simpa using h1, own.2⟩
  · obtain ⟨ad, rfl, hc⟩ := row_cells row (by omega)
    refine wpList_append_own (P := Try.prog) (w := w) hgd s x 26 ho B 3 i0 (.int .i64 0) 1 8 Try.underlying26 hi hz0 hz1 hz2 rfl (by decide) v xs.length _ hs own.1 ad m c (ys.map (Value.int .i64)) hx (by rw [List.length_map, row.1, Nat.mul_one]) hc (ints_one ys) (by unfold maxLen; omega) (by omega) hB ?_
    intro v' w' h1 h2 _
    refine h v' w' (show OwnI w' B v' (xs ++ ys) from ⟨?_, fit_append own.2 row.2.2.2.2.1⟩) (hbel h2)
    rw [List.length_append, row.1, List.map_append]
    exact h1

/-- A new block of one number. -/
theorem row_one (w : World) (y : Int) (h0 : -9223372036854775808 ≤ y) (h1 : y ≤ 9223372036854775807) : Row (w.alloc (.cells #[.int .i64 y] 3)) (some ⟨w.heap.size, 0, none⟩) 1 1 [y] := by
  refine ⟨rfl, Nat.le_refl _, by unfold maxLen; omega, fun h => by simp at h, fun x hx => by rw [List.mem_singleton] at hx; subst hx; exact ⟨h0, h1⟩, fun _ => ⟨_, _, rfl, fun j hj => ?_⟩⟩
  obtain rfl : j = 0 := by omega
  simp

theorem Row.more {w w' : World} {ao : Option Addr} {n cap B : Nat} {xs : List Int} (h : Row w ao n cap xs) (b : Below B w w') (hB : w.heap.size ≤ B) : Row w' ao n cap xs := h.keep (b.mono hB)


end Go.Proofs.Ytldhkfknjgnklaa
