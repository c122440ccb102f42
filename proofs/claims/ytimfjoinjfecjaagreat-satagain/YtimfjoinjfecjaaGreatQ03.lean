/-
  Literals, lists of numbers, clauses: plain, in memory, and the helpers of the document.
-/
import Derived.Handy
import Derived.Below
import Derived.Test.YtimfjoinjfecjaaGreatProg
import Derived.WalkKit
import Derived.Deep.RegionWith
import Derived.LoopTactic
import Derived.Laws.AppendOwnNone
import Derived.Laws.OwnMore
import Derived.Laws.CopyOwn
import Derived.OwnWalk

namespace Go.Proofs.YtimfjoinjfecjaaGreat.U
open Go.RowKit

def varF (l : Int) : Int := if l < 0 then -1 else l / 2
def negF (l : Int) : Bool := decide (0 ≤ l ∧ l % 2 = 1)
def notF (l : Int) : Int := if l < 0 then l else if l % 2 = 1 then l - 1 else l + 1
def truF (v : Int) (len : Nat) (B : Nat → Bool) : Bool := decide (v < len) && B v.toNat
def holF (l : Int) (len : Nat) (B : Nat → Bool) : Bool := if l < 0 then false else truF (l / 2) len B != negF l

theorem wf_i64 {a : Int} (h : (Lit.int .i64 a).wf = true) : -9223372036854775808 ≤ a ∧ a ≤ 9223372036854775807 := by
  simp [Lit.wf, IntKind.min, IntKind.max, IntKind.signed, IntKind.bits] at h; omega

/-- A list of truths that came in: nil, or a row of cells in memory. -/
def IsBools (w : World) (a : Option Addr) (len cap : Nat) (B : Nat → Bool) : Prop :=
  (a = none ∧ len = 0 ∧ cap = 0) ∨
  ∃ x, a = some x ∧ len ≤ cap ∧ cap ≤ maxLen ∧ ∀ i, i < len → w.cell? (x.add i) = some (.bool (B i))

theorem cell_lt {w : World} {p : Addr} {v : Value} (h : w.cell? p = some v) : p.block < w.heap.size := by
  by_cases hp : p.block < w.heap.size
  · exact hp
  · exfalso
    have e : w.heap[p.block]? = none := by simp; omega
    simp [World.cell?, e] at h

theorem IsBools.keep {w w' : World} {a : Option Addr} {len cap : Nat} {B : Nat → Bool} (h : IsBools w a len cap B) (b : Below w.heap.size w w') : IsBools w' a len cap B := by
  rcases h with h | ⟨x, rfl, hl, hm, hc⟩
  · exact .inl h
  · refine .inr ⟨x, rfl, hl, hm, fun i hi => ?_⟩
    rw [b.cell (cell_lt (hc i hi))]
    exact hc i hi

theorem Below.next {w w1 w2 : World} (h : Below w.heap.size w w1) (k : Below w1.heap.size w1 w2) : Below w.heap.size w w2 :=
  h.trans (k.mono h.size)

end Go.Proofs.YtimfjoinjfecjaaGreat.U

namespace Go.Proofs.YtimfjoinjfecjaaGreat.U
open Go.RowKit
set_option linter.unusedVariables false

def hasF (l : List Int) (x : Int) : Bool := l.any (fun y => y == x)

def holdsF (l : List Int) (len : Nat) (B : Nat → Bool) : Bool := l.any (fun x => holF x len B)

theorem hasF_mem (l : List Int) (x : Int) : hasF l x = true ↔ x ∈ l := by simp [hasF]

end Go.Proofs.YtimfjoinjfecjaaGreat.U

namespace Go.Proofs.YtimfjoinjfecjaaGreat.U
open Go.RowKit
set_option linter.unusedVariables false

/-- none(): a new block holds the result. -/
theorem none_any (w : World) : Calls Tryz.prog 68 #[] w fun e w' => e = .returned (.agg #[.int .i64 (-1), .bool false]) ∧ w' = w.alloc (.cells #[.int .i64 (-1), .bool false] 74) := by
  go_enter Tryz.func68, Tryz.ntmps68
  go_wp2
  go_returns
  exact ⟨rfl, rfl⟩

theorem split_neg (l : Int) (w : World) (h : l < 0) : Calls Tryz.prog 41 #[.int .i64 l] w fun e w' => e = .returned (.agg #[.int .i64 (-1), .bool false]) ∧ Below w.heap.size w w' := by
  go_enter Tryz.func41, Tryz.ntmps41
  go_wp2_with (go_at_call 68; refine (none_any _).mono ?_; rintro e w' ⟨rfl, rfl⟩)
  go_returns
  exact ⟨rfl, by go_grown⟩

theorem split_pos (l : Int) (w : World) (h : ¬ l < 0) (hu : l ≤ 9223372036854775807) : Calls Tryz.prog 41 #[.int .i64 l] w fun e w' => e = .returned (.agg #[.int .i64 (l / 2), .bool (l % 2 == 1)]) ∧ Below w.heap.size w w' := by
  go_enter Tryz.func41, Tryz.ntmps41
  go_wp2
  go_returns
  exact ⟨rfl, by go_grown⟩

theorem join_pos (v : Int) (w : World) (h0 : 0 ≤ v) (h1 : v ≤ 4611686018427387903) : Calls Tryz.prog 99 #[.agg #[.int .i64 v, .bool false]] w fun e w' => e = .returned (.int .i64 (2 * v)) ∧ Below w.heap.size w w' := by
  go_enter Tryz.func99, Tryz.ntmps99
  go_wp2
  go_returns
  exact ⟨rfl, by go_grown⟩

theorem join_neg (v : Int) (w : World) (h0 : 0 ≤ v) (h1 : v ≤ 4611686018427387903) : Calls Tryz.prog 99 #[.agg #[.int .i64 v, .bool true]] w fun e w' => e = .returned (.int .i64 (2 * v + 1)) ∧ Below w.heap.size w w' := by
  go_enter Tryz.func99, Tryz.ntmps99
  go_wp2
  go_returns
  exact ⟨rfl, by go_grown⟩

theorem field0 (x y : Value) (w : World) : (Instr.field 74 (.agg #[x, y]) 0).run Tryz.prog w = .ok x w := by kernel_rfl

theorem field1 (x y : Value) (w : World) : (Instr.field 74 (.agg #[x, y]) 1).run Tryz.prog w = .ok y w := by kernel_rfl

theorem var_any (l : Int) (w : World) (hu : l ≤ 9223372036854775807) : Calls Tryz.prog 24 #[.int .i64 l] w fun e w' => e = .returned (.int .i64 (varF l)) ∧ Below w.heap.size w w' := by
  by_cases h : l < 0
  · have HV : Hid (varF l = -1) := by show varF l = -1; simp [varF, h]
    have f0 := field0
    go_enter Tryz.func24, Tryz.ntmps24
    go_wp2_with (go_at_call 41; refine (split_neg _ _ h).mono ?_; rintro e w' ⟨rfl, hb⟩)
    go_returns
    exact ⟨by rw [HV.out]; rfl, by assumption⟩
  · have HV : Hid (varF l = l / 2) := by show varF l = l / 2; simp [varF, h]
    have f0 := field0
    go_enter Tryz.func24, Tryz.ntmps24
    go_wp2_with (go_at_call 41; refine (split_pos _ _ h hu).mono ?_; rintro e w' ⟨rfl, hb⟩)
    go_returns
    exact ⟨by rw [HV.out]; rfl, by assumption⟩

set_option maxHeartbeats 1000000 in
theorem not_any (l : Int) (w : World) (hu : l ≤ 9223372036854775807) : Calls Tryz.prog 79 #[.int .i64 l] w fun e w' => e = .returned (.int .i64 (notF l)) ∧ Below w.heap.size w w' := by
  by_cases h : l < 0
  · have HV : Hid (notF l = l) := by show notF l = l; simp [notF, h]
    go_enter Tryz.func79, Tryz.ntmps79
    go_wp2_with (go_at_call 41; refine (split_neg _ _ h).mono ?_; rintro e w' ⟨rfl, hb⟩)
    go_region_with (go_at_call 68; refine (none_any _).mono ?_; rintro e w' ⟨rfl, rfl⟩)
    all_goals go_wp2
    all_goals go_returns
    all_goals exact ⟨by rw [HV.out]; rfl, Below.next hb (by go_grown)⟩
  · have hq : (l / 2 == -1) = false := by simp; omega
    by_cases h2 : (l % 2 == 1) = true
    · have HV : Hid (notF l = 2 * (l / 2)) := by show notF l = _; simp at h2; simp [notF, h, h2]; omega
      have q0 : 0 ≤ l / 2 := by omega
      have q1 : l / 2 ≤ 4611686018427387903 := by omega
      go_enter Tryz.func79, Tryz.ntmps79
      go_wp2_with (go_at_call 41; refine (split_pos _ _ h hu).mono ?_; rintro e w' ⟨rfl, hb⟩)
      go_region_with (go_at_call 68; refine (none_any _).mono ?_; rintro e w' ⟨rfl, rfl⟩)
      all_goals go_wp2_with (go_at_call 99; refine (join_pos _ _ q0 q1).mono ?_; rintro e w'' ⟨rfl, hb'⟩)
      all_goals go_returns
      all_goals exact ⟨by rw [HV.out]; rfl, Below.next hb (Below.next (by go_grown) hb')⟩
    · have h2 : (l % 2 == 1) = false := by simpa using h2
      have HV : Hid (notF l = 2 * (l / 2) + 1) := by show notF l = _; simp at h2; simp [notF, h, h2]; omega
      have q0 : 0 ≤ l / 2 := by omega
      have q1 : l / 2 ≤ 4611686018427387903 := by omega
      go_enter Tryz.func79, Tryz.ntmps79
      go_wp2_with (go_at_call 41; refine (split_pos _ _ h hu).mono ?_; rintro e w' ⟨rfl, hb⟩)
      go_region_with (go_at_call 68; refine (none_any _).mono ?_; rintro e w' ⟨rfl, rfl⟩)
      all_goals go_wp2_with (go_at_call 99; refine (join_neg _ _ q0 q1).mono ?_; rintro e w'' ⟨rfl, hb'⟩)
      all_goals go_returns
      all_goals exact ⟨by rw [HV.out]; rfl, Below.next hb (Below.next (by go_grown) hb')⟩



end Go.Proofs.YtimfjoinjfecjaaGreat.U

namespace Go.Proofs.YtimfjoinjfecjaaGreat.U
open Go.RowKit
set_option linter.unusedVariables false





end Go.Proofs.YtimfjoinjfecjaaGreat.U

namespace Go.Proofs.YtimfjoinjfecjaaGreat.U
open Go.RowKit
set_option linter.unusedVariables false

def Fit (xs : List Int) : Prop := ∀ x ∈ xs, -9223372036854775808 ≤ x ∧ x ≤ 9223372036854775807

/-- The first n cells behind the address are the numbers xs. -/
def Row (w : World) (ao : Option Addr) (n cap : Nat) (xs : List Int) : Prop :=
  xs.length = n ∧ n ≤ cap ∧ cap ≤ maxLen ∧ (ao = none → cap = 0) ∧ Fit xs ∧ (0 < n → ∃ b off, ao = some ⟨b, off, none⟩ ∧ ∀ j, j < n → w.cell? ⟨b, off + j, none⟩ = some (.int .i64 (xs.getD j 0)))

theorem Row.max {w : World} {ao : Option Addr} {n cap : Nat} {xs : List Int} (h : Row w ao n cap xs) : n ≤ 9223372036854775807 := by
  have := h.2.1; have h2 := h.2.2.1; unfold maxLen at h2; omega

theorem Row.at {w : World} {ao : Option Addr} {n cap : Nat} {xs : List Int} (h : Row w ao n cap xs) {k : Nat} (hk : k < n) :
    ∃ b off y, ao = some ⟨b, off, none⟩ ∧ w.cell? ⟨b, off + k, none⟩ = some (.int .i64 y) ∧ Hid (xs[k]? = some y) ∧ -9223372036854775808 ≤ y ∧ y ≤ 9223372036854775807 := by
  obtain ⟨b, off, e, hc⟩ := h.2.2.2.2.2 (by omega)
  have hl : k < xs.length := by rw [h.1]; exact hk
  have hy : xs[k]? = some (xs.getD k 0) := by simp [hl]
  exact ⟨b, off, xs.getD k 0, e, hc k hk, hy, h.2.2.2.2.1 _ (List.mem_of_getElem? hy)⟩

theorem Row.keep {w w' : World} {ao : Option Addr} {n cap : Nat} {xs : List Int} (h : Row w ao n cap xs) (b : Below w.heap.size w w') : Row w' ao n cap xs := by
  refine ⟨h.1, h.2.1, h.2.2.1, h.2.2.2.1, h.2.2.2.2.1, fun h0 => ?_⟩
  obtain ⟨k, off, e, hc⟩ := h.2.2.2.2.2 h0
  refine ⟨k, off, e, fun j hj => ?_⟩
  rw [b.cell (cell_lt (hc j hj))]
  exact hc j hj

def sameF (xs ys : List Int) : Bool := decide (xs = ys)









theorem same_step {xs ys : List Int} {k : Nat} {y : Int} (h : xs.take k = ys.take k) (hx : xs[k]? = some y) (hy : ys[k]? = some y) : xs.take (k + 1) = ys.take (k + 1) := by
  rw [List.take_add_one, List.take_add_one, h, hx, hy]

set_option maxHeartbeats 1000000 in
theorem same_any (ao bo : Option Addr) (n m cap cbp : Nat) (xs ys : List Int) (w : World) (h : Row w ao n cap xs) (g : Row w bo m cbp ys) :
    Calls Tryz.prog 23 #[.slice ao n cap, .slice bo m cbp] w fun e w' => e = .returned (.bool (sameF xs ys)) ∧ Below w.heap.size w w' := by
  have HR : Hid (Row w ao n cap xs) := h
  have GR : Hid (Row w bo m cbp ys) := g
  have hm := h.max
  have gm := g.max
  by_cases hne : n = m
  · subst hne
    clear h g
    go_enter Tryz.func23, Tryz.ntmps23
    go_wp2
    go_loopw [5] (fun i wr => ∃ k : Nat, k ≤ n ∧ i = .int .i64 k ∧ Hid (xs.take k = ys.take k) ∧ Below w.heap.size w wr) (fun i _ => n - (intOf i).toNat)
    case atStart => exact ⟨0, Nat.zero_le _, rfl, rfl, Below.refl _ _⟩
    case round =>
      obtain ⟨k, hk, rfl, hno, hb⟩ := hrel
      by_cases hlt : k < n
      · obtain ⟨b, off, y, rfl, hc, hy, _, _⟩ := (HR.out.keep hb).at hlt
        obtain ⟨c, ogg, z, rfl, gc, hz, _, _⟩ := (GR.out.keep hb).at hlt
        by_cases he : y = z
        · subst he
          have HV : Hid (xs.take (k + 1) = ys.take (k + 1)) := same_step hno.out hy.out hz.out
          go_wp2
          go_region
          all_goals go_wp2
          all_goals go_roundw
          all_goals first | exact ⟨k + 1, by omega, by go_num, HV, by first | exact hb | exact hb.drew | exact hb.drew.drew⟩ | (simp [intOf]; omega)
        · have HV : Hid (sameF xs ys = false) := by
            show sameF xs ys = false
            simp only [sameF, decide_eq_false_iff_not]
            rintro rfl
            have := hy.out.symm.trans hz.out
            simp at this; exact he this
          have he' : (y == z) = false := by simpa using he
          go_wp2
          go_region
          all_goals go_wp2
          all_goals go_ret
          all_goals exact ⟨by rw [HV.out]; rfl, by first | exact hb | exact hb.drew | exact hb.drew.drew⟩
      · have HV : Hid (sameF xs ys = true) := by
          have e := hno.out
          rw [List.take_of_length_le (by rw [HR.out.1]; omega), List.take_of_length_le (by rw [GR.out.1]; omega)] at e
          show sameF xs ys = true
          simp [sameF, e]
        go_wp2
        go_ret
        exact ⟨by rw [HV.out]; rfl, hb⟩
  · have HV : Hid (sameF xs ys = false) := by
      show sameF xs ys = false
      simp only [sameF, decide_eq_false_iff_not]
      rintro rfl
      exact hne (h.1.symm.trans g.1)
    clear h g
    have hne' : ((n : Int) == (m : Int)) = false := by simp; omega
    go_enter Tryz.func23, Tryz.ntmps23
    go_wp2
    go_ret
    exact ⟨by rw [HV.out]; rfl, Below.refl _ _⟩

end Go.Proofs.YtimfjoinjfecjaaGreat.U

namespace Go.Proofs.YtimfjoinjfecjaaGreat.U
open Go.RowKit
set_option linter.unusedVariables false

theorem Tryz.info3 : (Tryz.prog.info? 3).map (fun i => (i.zero, i.size, i.bytes)) = some (some (.int .i64 0), 1, 8) := by kernel_rfl

theorem row_cells {w : World} {ao : Option Addr} {n cap : Nat} {xs : List Int} (h : Row w ao n cap xs) (h0 : 0 < n) :
    ∃ ad, ao = some ad ∧ ∀ j v, (xs.map (Value.int .i64))[j]? = some v → w.cell? (ad.add j) = some v := by
  obtain ⟨b, off, e, hc⟩ := h.2.2.2.2.2 h0
  refine ⟨_, e, fun j v hv => ?_⟩
  have hj : j < xs.length := by
    have := (List.getElem?_eq_some_iff.1 hv).1; simpa using this
  have := hc j (by rw [← h.1]; exact hj)
  rw [List.getElem?_map, List.getElem?_eq_getElem hj] at hv
  simp at hv
  rw [show xs.getD j 0 = xs[j] by simp [hj], hv] at this
  by_cases h0 : j = 0
  · subst h0; simpa [Addr.add] using this
  · simpa [Addr.add, h0] using this

theorem ints_one (xs : List Int) : ∀ v ∈ xs.map (Value.int .i64), v.oneCell' = true := by
  intro v hv
  obtain ⟨x, _, rfl⟩ := List.mem_map.1 hv
  rfl

/-- The value is a slice of the call's own, at a row from block B on, and holds xs. -/
def Own (w : World) (B : Nat) (v : Value) (xs : List Int) : Prop := w.ownsRow B 3 1 v xs.length (xs.map (Value.int .i64)) ∧ Fit xs

theorem Own.nil (w : World) (B : Nat) : Own w B (.slice none 0 0) [] := ⟨World.ownsRow_nil _ _ _ _, fun x hx => by simp at hx⟩

theorem Own.row {w : World} {B : Nat} {v : Value} {xs : List Int} (h : Own w B v xs) : ∃ ao c, v = .slice ao xs.length c ∧ Row w ao xs.length c xs := by
  rcases h.1.2 with ⟨rfl, hn⟩ | ⟨g, cap, cur, rfl, hb, hg, hl, hm, hs, ht⟩
  · refine ⟨none, 0, by rw [hn], rfl, by omega, by unfold maxLen; omega, fun _ => rfl, h.2, fun h0 => by omega⟩
  · refine ⟨_, cap, rfl, rfl, hl, hm, fun e => by simp at e, h.2, fun _ => ⟨g, 0, rfl, fun j hj => ?_⟩⟩
    rw [Nat.zero_add, h.1.cellAt j (by omega)]
    simp [hj]

theorem Own.shape {w : World} {B : Nat} {v : Value} {xs : List Int} (h : Own w B v xs) : ∃ ao n c, v = .slice ao n c ∧ Hid (Row w ao n c xs) := by
  obtain ⟨ao, c, e, r⟩ := h.row
  exact ⟨ao, _, c, e, r⟩

theorem Row.take {w : World} {ao : Option Addr} {n c j : Nat} {xs : List Int} (h : Row w ao n c xs) (hj : j ≤ n) : Row w ao j c (xs.take j) := by
  refine ⟨by rw [List.length_take, h.1]; omega, by have := h.2.1; omega, h.2.2.1, h.2.2.2.1, fun x hx => h.2.2.2.2.1 x (List.mem_of_mem_take hx), fun h0 => ?_⟩
  obtain ⟨b, o, e, hc⟩ := h.2.2.2.2.2 (by omega)
  refine ⟨b, o, e, fun i hi => ?_⟩
  rw [hc i (by omega)]
  simp [hi]

theorem Row.drop {w : World} {ao bo : Option Addr} {n c j n' c' : Nat} {xs : List Int} (h : Row w ao n c xs) (hj : j ≤ n) (hn : n' = n - j) (hcc : c' = c - j) (h0 : bo = none → c' = 0) (hb : ∀ b o, ao = some ⟨b, o, none⟩ → 0 < n' → bo = some ⟨b, o + j, none⟩) :
    Row w bo n' c' (xs.drop j) := by
  subst hn hcc
  refine ⟨by rw [List.length_drop, h.1], by have := h.2.1; omega, by have := h.2.2.1; omega, h0, fun x hx => h.2.2.2.2.1 x (List.mem_of_mem_drop hx), fun hp => ?_⟩
  obtain ⟨b, o, e, hc⟩ := h.2.2.2.2.2 (by omega)
  refine ⟨b, o + j, hb b o e hp, fun i hi => ?_⟩
  rw [Nat.add_assoc, hc (j + i) (by omega)]
  simp [List.getElem?_drop]

theorem Own.alloc {w : World} {B : Nat} {v : Value} {xs : List Int} (h : Own w B v xs) (o : Obj) : Own (w.alloc o) B v xs := ⟨h.1.alloc o, h.2⟩

theorem fit_append {xs ys : List Int} (h : Fit xs) (g : Fit ys) : Fit (xs ++ ys) := fun x hx => (List.mem_append.1 hx).elim (h x) (g x)

theorem append_ints {w : World} {ops : Array Oper} {rest : List Oper} {o : Oper} {a : Act} {Q : Exit → Act → World → Prop} (hgd : o.guard = none) (s x : Operand)
    (ho : o.op = .call { callee := .builtin .append, args := #[s, x], argTypes := #[42, 42] }) (B : Nat) (v : Value) (xs ys : List Int) (hs : a.eval s = v) (own : Own w B v xs)
    (ao : Option Addr) (m c : Nat) (hx : a.eval x = .slice ao m c) (row : Row w ao m c ys) (hbd : xs.length + m ≤ 1000000) (hB : B ≤ w.heap.size)
    (h : ∀ v' w', Hid (Own w' B v' (xs ++ ys)) → Hid (Below B w w') → wpList Tryz.prog ops Q rest (a.put o.dst v') w') : wpList Tryz.prog ops Q (o :: rest) a w := by
  obtain ⟨i0, hi, hz0, hz1, hz2⟩ := info_parts Tryz.info3
  have hbel : ∀ {w'}, w.grownBy w' v.ownBlock → Below B w w' := fun hg => (Below.refl B w).grown hg hB fun k hk => (own.1.lt k hk).1
  by_cases h0 : m = 0
  · have e : ys = [] := List.eq_nil_of_length_eq_zero (row.1.trans h0)
    subst e h0
    cases ao with
    | none =>
      have ec := row.2.2.2.1 rfl
      subst ec
      refine wpList_append_own_none hgd s x 42 ho B 3 i0 1 Tryz.underlying42 hi v xs.length _ hs own.1 hx ?_
      exact h v w (show Own w B v (xs ++ []) by rw [List.append_nil]; exact own) (Below.refl _ _)
    | some ad =>
      refine wpList_append_own (P := Tryz.prog) (w := w) hgd s x 42 ho B 3 i0 (.int .i64 0) 1 8 Tryz.underlying42 hi hz0 hz1 hz2 rfl (by decide) v xs.length _ hs own.1 ad 0 c [] hx rfl (fun j u hj => by simp at hj) (fun u hu => by simp at hu) (by unfold maxLen; omega) (by omega) hB ?_
      intro v' w' h1 h2 _
      refine h v' w' (show Own w' B v' (xs ++ []) from ?_) (hbel h2)
      rw [List.append_nil]
      exact ⟨by simpa using h1, own.2⟩
  · obtain ⟨ad, rfl, hc⟩ := row_cells row (by omega)
    refine wpList_append_own (P := Tryz.prog) (w := w) hgd s x 42 ho B 3 i0 (.int .i64 0) 1 8 Tryz.underlying42 hi hz0 hz1 hz2 rfl (by decide) v xs.length _ hs own.1 ad m c (ys.map (Value.int .i64)) hx (by rw [List.length_map, row.1, Nat.mul_one]) hc (ints_one ys) (by unfold maxLen; omega) (by omega) hB ?_
    intro v' w' h1 h2 _
    refine h v' w' (show Own w' B v' (xs ++ ys) from ⟨?_, fit_append own.2 row.2.2.2.2.1⟩) (hbel h2)
    rw [List.length_append, row.1, List.map_append]
    exact h1

/-- A new block of one number. -/
theorem row_one (w : World) (y : Int) (h0 : -9223372036854775808 ≤ y) (h1 : y ≤ 9223372036854775807) : Row (w.alloc (.cells #[.int .i64 y] 3)) (some ⟨w.heap.size, 0, none⟩) 1 1 [y] := by
  refine ⟨rfl, Nat.le_refl _, by unfold maxLen; omega, fun h => by simp at h, fun x hx => by rw [List.mem_singleton] at hx; subst hx; exact ⟨h0, h1⟩, fun _ => ⟨_, _, rfl, fun j hj => ?_⟩⟩
  obtain rfl : j = 0 := by omega
  simp

theorem Row.more {w w' : World} {ao : Option Addr} {n cap B : Nat} {xs : List Int} (h : Row w ao n cap xs) (b : Below B w w') (hB : w.heap.size ≤ B) : Row w' ao n cap xs := h.keep (b.mono hB)

theorem drop_at {r : List Int} {j : Nat} {z y : Int} (hz : r[j]? = some z) (h : ∀ x ∈ r.drop (j + 1), y < x) (hzy : y < z) : ∀ x ∈ r.drop j, y < x := by
  obtain ⟨hj, e⟩ := List.getElem?_eq_some_iff.1 hz
  intro x hx
  rw [List.drop_eq_getElem_cons hj] at hx
  rcases List.mem_cons.1 hx with rfl | hx
  · rw [e]; exact hzy
  · exact h x hx

theorem take_at {r : List Int} {j : Nat} {z y : Int} (hr : r.Pairwise (· < ·)) (hz : r[j]? = some z) (hzy : z < y) : ∀ x ∈ r.take (j + 1), x < y := by
  obtain ⟨hj, e⟩ := List.getElem?_eq_some_iff.1 hz
  intro x hx
  obtain ⟨i, hi, rfl⟩ := List.mem_iff_getElem.1 hx
  have hi' : i < j + 1 := by simp at hi; omega
  rw [List.getElem_take]
  rw [List.pairwise_iff_getElem] at hr
  by_cases h : i = j
  · subst h; rw [e]; exact hzy
  · have := hr i j (by omega) hj (by omega); omega

end Go.Proofs.YtimfjoinjfecjaaGreat.U

namespace Go.Proofs.YtimfjoinjfecjaaGreat.U
open Go.RowKit
set_option linter.unusedVariables false

theorem gany_step {α : Type} {xs : List α} {p : α → Bool} {k : Nat} {y : α} (h : (xs.take k).any p = false) (hy : xs[k]? = some y) (hp : p y = false) : (xs.take (k + 1)).any p = false := by
  rw [List.take_add_one, List.any_append, h, hy]; simp [hp]

theorem gany_hit {α : Type} {xs : List α} {p : α → Bool} {k : Nat} {y : α} (hy : xs[k]? = some y) (hp : p y = true) : xs.any p = true :=
  List.any_eq_true.2 ⟨y, List.mem_of_getElem? hy, hp⟩

theorem gany_end {α : Type} {xs : List α} {p : α → Bool} {k : Nat} (h : (xs.take k).any p = false) (hk : xs.length ≤ k) : xs.any p = false := by
  rwa [List.take_of_length_le hk] at h











/-- The first n cells behind the address are the lists xss. -/
def Grid (w : World) (ao : Option Addr) (n cap : Nat) (xss : List (List Int)) : Prop :=
  xss.length = n ∧ n ≤ cap ∧ cap ≤ maxLen ∧ (ao = none → cap = 0) ∧ (0 < n → ∃ b off, ao = some ⟨b, off, none⟩ ∧ ∀ j, j < n → ∃ a m c, w.cell? ⟨b, off + j, none⟩ = some (.slice a m c) ∧ Row w a m c (xss.getD j []))

theorem Grid.max {w : World} {ao : Option Addr} {n cap : Nat} {xss : List (List Int)} (h : Grid w ao n cap xss) : n ≤ 9223372036854775807 := by
  have := h.2.1; have h2 := h.2.2.1; unfold maxLen at h2; omega

theorem Grid.at {w : World} {ao : Option Addr} {n cap : Nat} {xss : List (List Int)} (h : Grid w ao n cap xss) {k : Nat} (hk : k < n) :
    ∃ b off a m c ys, ao = some ⟨b, off, none⟩ ∧ w.cell? ⟨b, off + k, none⟩ = some (.slice a m c) ∧ Hid (xss[k]? = some ys) ∧ Hid (Row w a m c ys) := by
  obtain ⟨b, off, e, hc⟩ := h.2.2.2.2 (by omega)
  obtain ⟨a, m, c, h1, h2⟩ := hc k hk
  have hl : k < xss.length := by rw [h.1]; exact hk
  exact ⟨b, off, a, m, c, xss.getD k [], e, h1, by show _ = _; simp [hl], h2⟩

theorem Grid.keep {w w' : World} {ao : Option Addr} {n cap : Nat} {xss : List (List Int)} (h : Grid w ao n cap xss) (b : Below w.heap.size w w') : Grid w' ao n cap xss := by
  refine ⟨h.1, h.2.1, h.2.2.1, h.2.2.2.1, fun h0 => ?_⟩
  obtain ⟨k, off, e, hc⟩ := h.2.2.2.2 h0
  refine ⟨k, off, e, fun j hj => ?_⟩
  obtain ⟨a, m, c, h1, h2⟩ := hc j hj
  exact ⟨a, m, c, by rw [b.cell (cell_lt h1)]; exact h1, h2.keep b⟩









end Go.Proofs.YtimfjoinjfecjaaGreat.U

namespace Go.Proofs.YtimfjoinjfecjaaGreat.U
set_option linter.unusedVariables false

theorem not_not {x : Int} (h : 0 ≤ x) : notF (notF x) = x := by
  have e : ¬ x < 0 := by omega
  by_cases h2 : x % 2 = 1
  · have e1 : notF x = x - 1 := by simp only [notF]; rw [if_neg e, if_pos h2]
    rw [e1]; simp only [notF]; rw [if_neg (by omega), if_neg (by omega)]; omega
  · have e1 : notF x = x + 1 := by simp only [notF]; rw [if_neg e, if_neg h2]
    rw [e1]; simp only [notF]; rw [if_neg (by omega), if_pos (by omega)]; omega

theorem not_pos {x : Int} (h : 0 ≤ x) : 0 ≤ notF x := by
  have e : ¬ x < 0 := by omega
  simp only [notF]; rw [if_neg e]; split <;> omega

theorem not_neg {x : Int} (h : x < 0) : notF x = x := by simp only [notF]; rw [if_pos h]

theorem not_ne {x : Int} (h : 0 ≤ x) : notF x ≠ x := by
  have e : ¬ x < 0 := by omega
  simp only [notF]; rw [if_neg e]; split <;> omega

theorem not_eq {x y : Int} (h : 0 ≤ x) : notF y = x ↔ y = notF x := by
  constructor
  · rintro rfl
    by_cases hy : 0 ≤ y
    · rw [not_not hy]
    · rw [not_neg (by omega : y < 0)] at h; omega
  · rintro rfl; exact not_not h

/-- What follows: it lies in each set that has the given literals and all that clauses of one literal lead to. -/
def Der (L : List (List Int)) (S : List Int) (x : Int) : Prop :=
  ∀ P : Int → Prop, (∀ y ∈ S, 0 ≤ y → P y) → (∀ y, ∀ c ∈ L, y ∈ c → 0 ≤ y → (∀ z ∈ c, 0 ≤ z → z ≠ y → P (notF z)) → P y) → P x

theorem Der.base {L : List (List Int)} {S : List Int} {x : Int} (h : x ∈ S) (h0 : 0 ≤ x) : Der L S x := fun P hb _ => hb x h h0

theorem Der.unit {L : List (List Int)} {S : List Int} {x : Int} {c : List Int} (hc : c ∈ L) (hx : x ∈ c) (h0 : 0 ≤ x) (h : ∀ y ∈ c, 0 ≤ y → y ≠ x → Der L S (notF y)) : Der L S x :=
  fun P hb hu => hu x c hc hx h0 fun z hz z0 hne => h z hz z0 hne P hb hu

/-- There is a contradiction. -/
def Bad (L : List (List Int)) (S : List Int) : Prop := (∃ x, Der L S x ∧ Der L S (notF x)) ∨ ∃ c ∈ L, ∀ y ∈ c, 0 ≤ y → Der L S (notF y)

theorem der_pos {L : List (List Int)} {S : List Int} {x : Int} (h : Der L S x) : 0 ≤ x := h (fun y => 0 ≤ y) (fun _ _ h0 => h0) (fun _ _ _ _ h0 _ => h0)

/-- A set that is closed and without contradiction is all that follows. -/
theorem closed_all {L : List (List Int)} {S : List Int} {Now : Int → Prop} (h0 : ∀ x ∈ S, 0 ≤ x → Now x) (hs : ∀ x, Now x → Der L S x) (hc : ∀ x, Now x → ¬ Now (notF x))
    (hl : ∀ c ∈ L, (∃ y ∈ c, Now y) ∨ ∃ u ∈ c, ∃ v ∈ c, u ≠ v ∧ 0 ≤ u ∧ 0 ≤ v ∧ ¬ Now (notF u) ∧ ¬ Now (notF v)) : (∀ x, Der L S x → Now x) ∧ ¬ Bad L S := by
  have key : ∀ x, Der L S x → Now x := by
    intro x hx
    refine hx Now h0 ?_
    · intro x c hcl hx hp ih
      rcases hl c hcl with ⟨y, hy, hn⟩ | ⟨u, hu, v, hv, huv, u0, v0, nu, nv⟩
      · by_cases e : y = x
        · subst e; exact hn
        · exact absurd (ih y hy (der_pos (hs y hn)) e) (hc y hn)
      · by_cases e : u = x
        · exact absurd (ih v hv v0 (fun e2 => huv (e.trans e2.symm))) nv
        · exact absurd (ih u hu u0 e) nu
  refine ⟨key, ?_⟩
  rintro (⟨x, h1, h2⟩ | ⟨c, hcl, hall⟩)
  · exact hc x (key x h1) (key _ h2)
  · rcases hl c hcl with ⟨y, hy, hn⟩ | ⟨u, hu, v, hv, huv, u0, v0, nu, nv⟩
    · exact hc y hn (key _ (hall y hy (der_pos (hs y hn))))
    · exact nu (key _ (hall u hu u0))

/-! ### What follows holds; more lose nothing -/
theorem der_mono {L M : List (List Int)} {S T : List Int} (hL : ∀ c ∈ L, c ∈ M) (hS : ∀ x ∈ S, 0 ≤ x → Der M T x) {x : Int} (h : Der L S x) : Der M T x :=
  h (Der M T) hS fun y c hc hx h0 ih => .unit (hL c hc) hx h0 ih

theorem bad_mono {L M : List (List Int)} {S T : List Int} (hL : ∀ c ∈ L, c ∈ M) (hS : ∀ x ∈ S, 0 ≤ x → Der M T x) (h : Bad L S) : Bad M T := by
  rcases h with ⟨x, h1, h2⟩ | ⟨c, hc, h⟩
  · exact .inl ⟨x, der_mono hL hS h1, der_mono hL hS h2⟩
  · exact .inr ⟨c, hL c hc, fun y hy h0 => der_mono hL hS (h y hy h0)⟩

theorem hol_not {x : Int} {len : Nat} {B : Nat → Bool} (h0 : 0 ≤ x) (h : holF x len B = true) : holF (notF x) len B = false := by
  have e : ¬ x < 0 := by omega
  have e2 : ¬ notF x < 0 := by have := not_pos h0; omega
  have hv : notF x / 2 = x / 2 := by simp only [notF]; rw [if_neg e]; split <;> omega
  have hn : negF (notF x) = !negF x := by
    have hp := not_pos h0
    rw [Bool.eq_iff_iff]
    simp only [negF, Bool.not_eq_true', decide_eq_true_eq, decide_eq_false_iff_not]
    simp only [notF]; rw [if_neg e]
    split <;> omega
  simp only [holF] at h ⊢
  rw [if_neg e] at h
  rw [if_neg e2, hv, hn]
  generalize truF (x / 2) len B = t at h ⊢
  generalize negF x = n at h ⊢
  cases t <;> cases n <;> simp_all

/-- What follows holds wherever the clauses and the literals do. -/
theorem der_holds {L : List (List Int)} {S : List Int} {len : Nat} {B : Nat → Bool} (hL : ∀ c ∈ L, holdsF c len B = true) (hS : ∀ x ∈ S, holF x len B = true) {x : Int} (h : Der L S x) : holF x len B = true := by
  refine h (fun x => holF x len B = true) (fun y hy _ => hS y hy) ?_
  · intro x c hc hx h0 ih
    have := hL c hc
    simp only [holdsF, List.any_eq_true] at this
    obtain ⟨y, hy, hh⟩ := this
    by_cases e : y = x
    · subst e; exact hh
    · by_cases y0 : 0 ≤ y
      · have h1 := ih y hy y0 e
        rw [hol_not y0 hh] at h1; cases h1
      · simp only [holF] at hh; rw [if_pos (by omega)] at hh; cases hh

theorem bad_holds {L : List (List Int)} {S : List Int} {len : Nat} {B : Nat → Bool} (hL : ∀ c ∈ L, holdsF c len B = true) (hS : ∀ x ∈ S, holF x len B = true) : ¬ Bad L S := by
  rintro (⟨x, h1, h2⟩ | ⟨c, hc, hall⟩)
  · have a := der_holds hL hS h1
    have b := der_holds hL hS h2
    rw [hol_not (der_pos h1) a] at b; cases b
  · have := hL c hc
    simp only [holdsF, List.any_eq_true] at this
    obtain ⟨y, hy, hh⟩ := this
    by_cases y0 : 0 ≤ y
    · have h1 := der_holds hL hS (hall y hy y0)
      rw [hol_not y0 hh] at h1; cases h1
    · simp only [holF] at hh; rw [if_pos (by omega)] at hh; cases hh

/-! ### Different literals of a clause, in the order in which they are met -/
def addD (r : List Int) (x : Int) : List Int := if x < 0 ∨ x ∈ r then r else r ++ [x]
def dd (l : List Int) : List Int := l.foldl addD []

theorem add_skip {r : List Int} {x : Int} (h : x < 0 ∨ x ∈ r) : addD r x = r := by simp only [addD]; rw [if_pos h]
theorem add_new {r : List Int} {x : Int} (h : ¬ x < 0) (h2 : x ∉ r) : addD r x = r ++ [x] := by
  simp only [addD]; rw [if_neg]; rintro (h3 | h3)
  · exact h h3
  · exact h2 h3

theorem mem_add (r : List Int) (x z : Int) : z ∈ addD r x ↔ z ∈ r ∨ (z = x ∧ 0 ≤ x) := by
  by_cases h : x < 0 ∨ x ∈ r
  · rw [add_skip h]
    constructor
    · exact .inl
    · rintro (h1 | ⟨rfl, h1⟩)
      · exact h1
      · rcases h with h | h
        · omega
        · exact h
  · have h1 : ¬ x < 0 := fun e => h (.inl e)
    rw [add_new h1 (fun e => h (.inr e))]
    simp only [List.mem_append, List.mem_singleton]
    constructor
    · rintro (h2 | rfl)
      · exact .inl h2
      · exact .inr ⟨rfl, by omega⟩
    · rintro (h2 | ⟨rfl, _⟩)
      · exact .inl h2
      · exact .inr rfl

theorem fold_add (l r : List Int) : ∀ z, z ∈ l.foldl addD r ↔ z ∈ r ∨ (z ∈ l ∧ 0 ≤ z) := by
  induction l generalizing r with
  | nil => simp
  | cons x xs ih =>
    intro z
    rw [List.foldl_cons, ih, mem_add]
    simp only [List.mem_cons]
    constructor
    · rintro ((h | ⟨rfl, h⟩) | ⟨h, h2⟩)
      · exact .inl h
      · exact .inr ⟨.inl rfl, h⟩
      · exact .inr ⟨.inr h, h2⟩
    · rintro (h | ⟨rfl | h, h2⟩)
      · exact .inl (.inl h)
      · exact .inl (.inr ⟨rfl, h2⟩)
      · exact .inr ⟨h, h2⟩

theorem mem_dd (l : List Int) (z : Int) : z ∈ dd l ↔ z ∈ l ∧ 0 ≤ z := by simpa [dd] using fold_add l [] z

/-! ### How many literals of a clause are not struck -/
end Go.Proofs.YtimfjoinjfecjaaGreat.U
