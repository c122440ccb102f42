/-
  Lists of numbers in memory; Same, Has, Sorted of the document (stage 3).
-/
import Derived.Test.YtbekgejbgmdbdaaMem
import Derived.LoopTactic
import Derived.OwnWalk
import Derived.Lib.RowBridge
import Derived.Laws.AppendOwnNone
import Derived.Laws.OwnMore
import Derived.Laws.CopyOwn
namespace Go.Proofs.Ytbekgejbgmdbdaa.Ls
open Go.RowKit Go.Sort
set_option linter.unusedVariables false
set_option maxRecDepth 20000

/-! ### Rising lists -/
def ins (x : Int) : List Int → List Int
  | [] => [x]
  | y :: ys => if x < y then x :: y :: ys else if x = y then y :: ys else y :: ins x ys

def rise (l : List Int) : List Int := l.foldl (fun r x => ins x r) []

theorem mem_ins (x z : Int) (r : List Int) : z ∈ ins x r ↔ z = x ∨ z ∈ r := by
  induction r with
  | nil => simp [ins]
  | cons y ys ih =>
    simp only [ins]
    split
    · simp
    · split
      · subst_vars; simp
      · simp [ih]; constructor <;> (intro h; rcases h with h | h | h <;> simp [h])

theorem up_ins (x : Int) (r : List Int) (h : r.Pairwise (· < ·)) : (ins x r).Pairwise (· < ·) := by
  induction r with
  | nil => simp [ins]
  | cons y ys ih =>
    rw [List.pairwise_cons] at h
    simp only [ins]
    split
    · rw [List.pairwise_cons]
      refine ⟨fun z hz => ?_, List.pairwise_cons.2 h⟩
      rcases List.mem_cons.1 hz with rfl | hz
      · assumption
      · have := h.1 z hz; omega
    · split
      · exact List.pairwise_cons.2 h
      · rw [List.pairwise_cons]
        refine ⟨fun z hz => ?_, ih h.2⟩
        rcases (mem_ins x z ys).1 hz with rfl | hz
        · omega
        · exact h.1 z hz

theorem foldl_ins (l r : List Int) (h : r.Pairwise (· < ·)) : (l.foldl (fun r x => ins x r) r).Pairwise (· < ·) ∧ ∀ z, z ∈ l.foldl (fun r x => ins x r) r ↔ z ∈ l ∨ z ∈ r := by
  induction l generalizing r with
  | nil => exact ⟨h, by simp⟩
  | cons x xs ih =>
    have := ih (ins x r) (up_ins x r h)
    refine ⟨this.1, fun z => ?_⟩
    rw [List.foldl_cons, this.2 z, mem_ins]
    simp only [List.mem_cons]
    constructor
    · rintro (h | h | h) <;> simp [h]
    · rintro ((h | h) | h) <;> simp [h]

theorem up_rise (l : List Int) : (rise l).Pairwise (· < ·) := (foldl_ins l [] List.Pairwise.nil).1
theorem mem_rise (l : List Int) (z : Int) : z ∈ rise l ↔ z ∈ l := by simpa [rise] using (foldl_ins l [] List.Pairwise.nil).2 z

/-- Two rising lists that have the same members are the same. -/
theorem up_ext {r s : List Int} (hr : r.Pairwise (· < ·)) (hs : s.Pairwise (· < ·)) (h : ∀ z, z ∈ r ↔ z ∈ s) : r = s := by
  induction r generalizing s with
  | nil =>
    cases s with
    | nil => rfl
    | cons y ys => have := (h y).2 (by simp); simp at this
  | cons x xs ih =>
    cases s with
    | nil => have := (h x).1 (by simp); simp at this
    | cons y ys =>
      rw [List.pairwise_cons] at hr hs
      have e : x = y := by
        rcases List.mem_cons.1 ((h x).1 (by simp)) with e | e
        · exact e
        · rcases List.mem_cons.1 ((h y).2 (by simp)) with f | f
          · exact f.symm
          · have := hs.1 x e; have := hr.1 y f; omega
      subst e
      rw [ih hr.2 hs.2]
      intro z
      constructor
      · intro hz
        rcases List.mem_cons.1 ((h z).1 (by simp [hz])) with e | e
        · subst e; have := hr.1 z hz; omega
        · exact e
      · intro hz
        rcases List.mem_cons.1 ((h z).2 (by simp [hz])) with e | e
        · subst e; have := hs.1 z hz; omega
        · exact e

theorem rise_of {r l : List Int} (hr : r.Pairwise (· < ·)) (h : ∀ z, z ∈ r ↔ z ∈ l) : r = rise l :=
  up_ext hr (up_rise l) fun z => (h z).trans (mem_rise l z).symm

theorem rise_congr {a b : List Int} (h : ∀ z, z ∈ a ↔ z ∈ b) : rise a = rise b :=
  up_ext (up_rise a) (up_rise b) fun z => by rw [mem_rise, mem_rise]; exact h z

theorem len_ins (x : Int) (r : List Int) : (ins x r).length ≤ r.length + 1 := by
  induction r with
  | nil => simp [ins]
  | cons y ys ih => simp only [ins]; split <;> (try split) <;> simp <;> omega

theorem len_foldl (l r : List Int) : (l.foldl (fun r x => ins x r) r).length ≤ l.length + r.length := by
  induction l generalizing r with
  | nil => simp
  | cons x xs ih => have := ih (ins x r); have := len_ins x r; simp only [List.foldl_cons, List.length_cons]; omega

theorem len_rise (l : List Int) : (rise l).length ≤ l.length := by simpa [rise] using len_foldl l []

/-- One more number: the list so far, and what stands behind it. -/
theorem rise_snoc (l : List Int) (x : Int) : rise (l ++ [x]) = ins x (rise l) := by simp [rise, List.foldl_append]

theorem ins_mem {x : Int} {r : List Int} (h : r.Pairwise (· < ·)) (hx : x ∈ r) : ins x r = r :=
  up_ext (up_ins x r h) h fun z => by rw [mem_ins]; constructor <;> intro k; exact k.elim (fun e => e ▸ hx) id; exact .inr k

/-- Where a new number goes: all ahead are less, all behind greater. -/
theorem ins_at {x : Int} {r : List Int} (h : r.Pairwise (· < ·)) (k : Nat) (ha : ∀ z ∈ r.take k, z < x) (hb : ∀ z ∈ r.drop k, x < z) : ins x r = r.take k ++ [x] ++ r.drop k := by
  refine up_ext (up_ins x r h) ?_ fun z => ?_
  · rw [List.append_assoc, List.pairwise_append]
    refine ⟨h.sublist (List.take_sublist k r), ?_, ?_⟩
    · rw [List.singleton_append, List.pairwise_cons]
      exact ⟨hb, h.sublist (List.drop_sublist k r)⟩
    · intro a hak b hbk
      rcases List.mem_append.1 hbk with hbk | hbk
      · rw [List.mem_singleton] at hbk; subst hbk; exact ha a hak
      · have := ha a hak; have := hb b hbk; omega
  · rw [mem_ins]
    conv => lhs; rhs; rw [← List.take_append_drop k r]
    simp only [List.mem_append, List.mem_singleton]
    constructor
    · rintro (h | h | h) <;> simp [h]
    · rintro ((h | h) | h) <;> simp [h]

def hasF (l : List Int) (x : Int) : Bool := l.any (fun y => y == x)

theorem hasF_mem (l : List Int) (x : Int) : hasF l x = true ↔ x ∈ l := by simp [hasF]

theorem any_step {xs : List Int} {p : Int → Bool} {k : Nat} {y : Int} (h : (xs.take k).any p = false) (hy : xs[k]? = some y) (hp : p y = false) : (xs.take (k + 1)).any p = false := by
  rw [List.take_add_one, List.any_append, h, hy]; simp [hp]

theorem any_hit {xs : List Int} {p : Int → Bool} {k : Nat} {y : Int} (hy : xs[k]? = some y) (hp : p y = true) : xs.any p = true :=
  List.any_eq_true.2 ⟨y, List.mem_of_getElem? hy, hp⟩

theorem any_end {xs : List Int} {p : Int → Bool} {k : Nat} (h : (xs.take k).any p = false) (hk : xs.length ≤ k) : xs.any p = false := by
  rwa [List.take_of_length_le hk] at h

def Fit (xs : List Int) : Prop := ∀ x ∈ xs, -9223372036854775808 ≤ x ∧ x ≤ 9223372036854775807

/-- The first n cells behind the address are the numbers xs. -/
def Row (w : World) (ao : Option Addr) (n cap : Nat) (xs : List Int) : Prop :=
  xs.length = n ∧ n ≤ cap ∧ cap ≤ maxLen ∧ (ao = none → cap = 0) ∧ Fit xs ∧ (0 < n → ∃ b off, ao = some ⟨b, off, none⟩ ∧ ∀ j, j < n → w.cell? ⟨b, off + j, none⟩ = some (.int .i64 (xs.getD j 0)))

theorem Row.max {w : World} {ao : Option Addr} {n cap : Nat} {xs : List Int} (h : Row w ao n cap xs) : n ≤ 9223372036854775807 := by
  have := h.2.1; have h2 := h.2.2.1; unfold maxLen at h2; omega

theorem Row.at {w : World} {ao : Option Addr} {n cap : Nat} {xs : List Int} (h : Row w ao n cap xs) {k : Nat} (hk : k < n) :
    ∃ b off y, ao = some ⟨b, off, none⟩ ∧ w.cell? ⟨b, off + k, none⟩ = some (.int .i64 y) ∧ Hid (xs[k]? = some y) ∧ -9223372036854775808 ≤ y ∧ y ≤ 9223372036854775807 := by
  obtain ⟨b, off, e, hc⟩ := h.2.2.2.2.2 (by omega)
  have hl : k < xs.length := by rw [h.1]; exact hk
  have hy : xs[k]? = some (xs.getD k 0) := by simp [hl]
  exact ⟨b, off, xs.getD k 0, e, hc k hk, hy, h.2.2.2.2.1 _ (List.mem_of_getElem? hy)⟩

theorem Row.keep {w w' : World} {ao : Option Addr} {n cap : Nat} {xs : List Int} (h : Row w ao n cap xs) (b : Below w.heap.size w w') : Row w' ao n cap xs := by
  refine ⟨h.1, h.2.1, h.2.2.1, h.2.2.2.1, h.2.2.2.2.1, fun h0 => ?_⟩
  obtain ⟨k, off, e, hc⟩ := h.2.2.2.2.2 h0
  refine ⟨k, off, e, fun j hj => ?_⟩
  rw [b.cell (cell_lt (hc j hj))]
  exact hc j hj

theorem rhas_any (ao : Option Addr) (n cap : Nat) (xs : List Int) (x : Int) (w : World) (h : Row w ao n cap xs) :
    Calls Try.prog 67 #[.slice ao n cap, .int .i64 x] w fun e w' => e = .returned (.bool (hasF xs x)) ∧ w' = w := by
  have HR : Hid (Row w ao n cap xs) := h
  have hm := h.max
  clear h
  go_enter Try.func67, Try.ntmps67
  go_wp2
  go_loop [5] (fun i => ∃ k : Nat, k ≤ n ∧ i = .int .i64 k ∧ Hid (hasF (xs.take k) x = false)) (fun i => n - (intOf i).toNat)
  case atStart => exact ⟨0, Nat.zero_le _, rfl, rfl⟩
  case round =>
    obtain ⟨k, hk, rfl, hno⟩ := hrel
    by_cases hlt : k < n
    · obtain ⟨b, off, y, rfl, hc, hy, _, _⟩ := HR.out.at hlt
      by_cases he : y = x
      · subst he
        have HV : Hid (hasF xs y = true) := any_hit hy.out (by simp)
        go_wp2
        go_ret
        exact ⟨by rw [HV.out]; rfl, rfl⟩
      · have HV : Hid (hasF (xs.take (k + 1)) x = false) := any_step hno.out hy.out (by simpa using he)
        go_wp2
        go_round
        case rel => exact ⟨k + 1, by omega, by go_num, HV⟩
        case measure => simp [intOf]; omega
    · have HV : Hid (hasF xs x = false) := any_end hno.out (by rw [HR.out.1]; omega)
      go_wp2
      go_ret
      exact ⟨by rw [HV.out]; rfl, rfl⟩

def sameF (xs ys : List Int) : Bool := decide (xs = ys)

theorem same_step {xs ys : List Int} {k : Nat} {y : Int} (h : xs.take k = ys.take k) (hx : xs[k]? = some y) (hy : ys[k]? = some y) : xs.take (k + 1) = ys.take (k + 1) := by
  rw [List.take_add_one, List.take_add_one, h, hx, hy]

set_option maxHeartbeats 1000000 in
theorem same_any (ao bo : Option Addr) (n m cap cbp : Nat) (xs ys : List Int) (w : World) (h : Row w ao n cap xs) (g : Row w bo m cbp ys) :
    Calls Try.prog 9 #[.slice ao n cap, .slice bo m cbp] w fun e w' => e = .returned (.bool (sameF xs ys)) ∧ Below w.heap.size w w' := by
  have HR : Hid (Row w ao n cap xs) := h
  have GR : Hid (Row w bo m cbp ys) := g
  have hm := h.max
  have gm := g.max
  by_cases hne : n = m
  · subst hne
    clear h g
    go_enter Try.func9, Try.ntmps9
    go_wp2
    go_loopw [5] (fun i wr => ∃ k : Nat, k ≤ n ∧ i = .int .i64 k ∧ Hid (xs.take k = ys.take k) ∧ Below w.heap.size w wr) (fun i _ => n - (intOf i).toNat)
    case atStart => exact ⟨0, Nat.zero_le _, rfl, rfl, Below.refl _ _⟩
    case round =>
      obtain ⟨k, hk, rfl, hno, hb⟩ := hrel
      by_cases hlt : k < n
      · obtain ⟨b, off, y, rfl, hc, hy, _, _⟩ := (HR.out.keep hb).at hlt
        obtain ⟨c, ogg, z, rfl, gc, hz, _, _⟩ := (GR.out.keep hb).at hlt
        by_cases he : y = z
        · subst he
          have HV : Hid (xs.take (k + 1) = ys.take (k + 1)) := same_step hno.out hy.out hz.out
          go_wp2
          go_region
          all_goals go_wp2
          all_goals go_roundw
          all_goals first | exact ⟨k + 1, by omega, by go_num, HV, by first | exact hb | exact hb.drew | exact hb.drew.drew⟩ | (simp [intOf]; omega)
        · have HV : Hid (sameF xs ys = false) := by
            show sameF xs ys = false
            simp only [sameF, decide_eq_false_iff_not]
            rintro rfl
            have := hy.out.symm.trans hz.out
            simp at this; exact he this
          have he' : (y == z) = false := by simpa using he
          go_wp2
          go_region
          all_goals go_wp2
          all_goals go_ret
          all_goals exact ⟨by rw [HV.out]; rfl, by first | exact hb | exact hb.drew | exact hb.drew.drew⟩
      · have HV : Hid (sameF xs ys = true) := by
          have e := hno.out
          rw [List.take_of_length_le (by rw [HR.out.1]; omega), List.take_of_length_le (by rw [GR.out.1]; omega)] at e
          show sameF xs ys = true
          simp [sameF, e]
        go_wp2
        go_ret
        exact ⟨by rw [HV.out]; rfl, hb⟩
  · have HV : Hid (sameF xs ys = false) := by
      show sameF xs ys = false
      simp only [sameF, decide_eq_false_iff_not]
      rintro rfl
      exact hne (h.1.symm.trans g.1)
    clear h g
    have hne' : ((n : Int) == (m : Int)) = false := by simp; omega
    go_enter Try.func9, Try.ntmps9
    go_wp2
    go_ret
    exact ⟨by rw [HV.out]; rfl, Below.refl _ _⟩

theorem Try.info3 : (Try.prog.info? 3).map (fun i => (i.zero, i.size, i.bytes)) = some (some (.int .i64 0), 1, 8) := by kernel_rfl

theorem Try.size3 : (Try.prog.info? 3).map (·.size) = some 1 := by kernel_rfl

theorem row_cells {w : World} {ao : Option Addr} {n cap : Nat} {xs : List Int} (h : Row w ao n cap xs) (h0 : 0 < n) :
    ∃ ad, ao = some ad ∧ ∀ j v, (xs.map (Value.int .i64))[j]? = some v → w.cell? (ad.add j) = some v := by
  obtain ⟨b, off, e, hc⟩ := h.2.2.2.2.2 h0
  refine ⟨_, e, fun j v hv => ?_⟩
  have hj : j < xs.length := by
    have := (List.getElem?_eq_some_iff.1 hv).1; simpa using this
  have := hc j (by rw [← h.1]; exact hj)
  rw [List.getElem?_map, List.getElem?_eq_getElem hj] at hv
  simp at hv
  rw [show xs.getD j 0 = xs[j] by simp [hj], hv] at this
  by_cases h0 : j = 0
  · subst h0; simpa [Addr.add] using this
  · simpa [Addr.add, h0] using this

theorem ints_one (xs : List Int) : ∀ v ∈ xs.map (Value.int .i64), v.oneCell' = true := by
  intro v hv
  obtain ⟨x, _, rfl⟩ := List.mem_map.1 hv
  rfl

theorem fit_rise {xs : List Int} (h : Fit xs) : Fit (rise xs) := fun x hx => h x ((mem_rise xs x).1 hx)

theorem holds_of_block {w : World} {g : Nat} {xs : List Int} (h : w.heap[g]? = some (.cells ((xs.map (Value.int .i64)).toArray) 3 (0, 0))) : Holds (Value.int .i64) w g 0 xs.toArray := by
  intro j hj
  have hj' : j < xs.length := by simpa using hj
  constructor
  · simp [World.cell?, h, hj', getElem!_pos]
  · simp [World.frozen?, h]

/-- The value is a slice of the call's own, at a row from block B on, and holds xs. -/
def Own (w : World) (B : Nat) (v : Value) (xs : List Int) : Prop := w.ownsRow B 3 1 v xs.length (xs.map (Value.int .i64)) ∧ Fit xs

theorem Own.nil (w : World) (B : Nat) : Own w B (.slice none 0 0) [] := ⟨World.ownsRow_nil _ _ _ _, fun x hx => by simp at hx⟩

theorem Own.row {w : World} {B : Nat} {v : Value} {xs : List Int} (h : Own w B v xs) : ∃ ao c, v = .slice ao xs.length c ∧ Row w ao xs.length c xs := by
  rcases h.1.2 with ⟨rfl, hn⟩ | ⟨g, cap, cur, rfl, hb, hg, hl, hm, hs, ht⟩
  · refine ⟨none, 0, by rw [hn], rfl, by omega, by unfold maxLen; omega, fun _ => rfl, h.2, fun h0 => by omega⟩
  · refine ⟨_, cap, rfl, rfl, hl, hm, fun e => by simp at e, h.2, fun _ => ⟨g, 0, rfl, fun j hj => ?_⟩⟩
    rw [Nat.zero_add, h.1.cellAt j (by omega)]
    simp [hj]

theorem Own.shape {w : World} {B : Nat} {v : Value} {xs : List Int} (h : Own w B v xs) : ∃ ao n c, v = .slice ao n c ∧ Hid (Row w ao n c xs) := by
  obtain ⟨ao, c, e, r⟩ := h.row
  exact ⟨ao, _, c, e, r⟩

theorem Row.take {w : World} {ao : Option Addr} {n c j : Nat} {xs : List Int} (h : Row w ao n c xs) (hj : j ≤ n) : Row w ao j c (xs.take j) := by
  refine ⟨by rw [List.length_take, h.1]; omega, by have := h.2.1; omega, h.2.2.1, h.2.2.2.1, fun x hx => h.2.2.2.2.1 x (List.mem_of_mem_take hx), fun h0 => ?_⟩
  obtain ⟨b, o, e, hc⟩ := h.2.2.2.2.2 (by omega)
  refine ⟨b, o, e, fun i hi => ?_⟩
  rw [hc i (by omega)]
  simp [hi]

theorem Row.drop {w : World} {ao bo : Option Addr} {n c j n' c' : Nat} {xs : List Int} (h : Row w ao n c xs) (hj : j ≤ n) (hn : n' = n - j) (hcc : c' = c - j) (h0 : bo = none → c' = 0) (hb : ∀ b o, ao = some ⟨b, o, none⟩ → 0 < n' → bo = some ⟨b, o + j, none⟩) :
    Row w bo n' c' (xs.drop j) := by
  subst hn hcc
  refine ⟨by rw [List.length_drop, h.1], by have := h.2.1; omega, by have := h.2.2.1; omega, h0, fun x hx => h.2.2.2.2.1 x (List.mem_of_mem_drop hx), fun hp => ?_⟩
  obtain ⟨b, o, e, hc⟩ := h.2.2.2.2.2 (by omega)
  refine ⟨b, o + j, hb b o e hp, fun i hi => ?_⟩
  rw [Nat.add_assoc, hc (j + i) (by omega)]
  simp [List.getElem?_drop]

theorem Own.alloc {w : World} {B : Nat} {v : Value} {xs : List Int} (h : Own w B v xs) (o : Obj) : Own (w.alloc o) B v xs := ⟨h.1.alloc o, h.2⟩

theorem fit_append {xs ys : List Int} (h : Fit xs) (g : Fit ys) : Fit (xs ++ ys) := fun x hx => (List.mem_append.1 hx).elim (h x) (g x)

theorem append_ints {w : World} {ops : Array Oper} {rest : List Oper} {o : Oper} {a : Act} {Q : Exit → Act → World → Prop} (hgd : o.guard = none) (s x : Operand)
    (ho : o.op = .call { callee := .builtin .append, args := #[s, x], argTypes := #[37, 37] }) (B : Nat) (v : Value) (xs ys : List Int) (hs : a.eval s = v) (own : Own w B v xs)
    (ao : Option Addr) (m c : Nat) (hx : a.eval x = .slice ao m c) (row : Row w ao m c ys) (hbd : xs.length + m ≤ 1000000) (hB : B ≤ w.heap.size)
    (h : ∀ v' w', Hid (Own w' B v' (xs ++ ys)) → Hid (Below B w w') → wpList Try.prog ops Q rest (a.put o.dst v') w') : wpList Try.prog ops Q (o :: rest) a w := by
  obtain ⟨i0, hi, hz0, hz1, hz2⟩ := info_parts Try.info3
  have hbel : ∀ {w'}, w.grownBy w' v.ownBlock → Below B w w' := fun hg => (Below.refl B w).grown hg hB fun k hk => (own.1.lt k hk).1
  by_cases h0 : m = 0
  · have e : ys = [] := List.eq_nil_of_length_eq_zero (row.1.trans h0)
    subst e h0
    cases ao with
    | none =>
      have ec := row.2.2.2.1 rfl
      subst ec
      refine wpList_append_own_none hgd s x 37 ho B 3 i0 1 Try.underlying37 hi v xs.length _ hs own.1 hx ?_
      exact h v w (show Own w B v (xs ++ []) by rw [List.append_nil]; exact own) (Below.refl _ _)
    | some ad =>
      refine wpList_append_own (P := Try.prog) (w := w) hgd s x 37 ho B 3 i0 (.int .i64 0) 1 8 Try.underlying37 hi hz0 hz1 hz2 rfl (by decide) v xs.length _ hs own.1 ad 0 c [] hx rfl (fun j u hj => by simp at hj) (fun u hu => by simp at hu) (by unfold maxLen; omega) (by omega) hB ?_
      intro v' w' h1 h2 _
      refine h v' w' (show Own w' B v' (xs ++ []) from ?_) (hbel h2)
      rw [List.append_nil]
      exact ⟨by simpa using h1, own.2⟩
  · obtain ⟨ad, rfl, hc⟩ := row_cells row (by omega)
    refine wpList_append_own (P := Try.prog) (w := w) hgd s x 37 ho B 3 i0 (.int .i64 0) 1 8 Try.underlying37 hi hz0 hz1 hz2 rfl (by decide) v xs.length _ hs own.1 ad m c (ys.map (Value.int .i64)) hx (by rw [List.length_map, row.1, Nat.mul_one]) hc (ints_one ys) (by unfold maxLen; omega) (by omega) hB ?_
    intro v' w' h1 h2 _
    refine h v' w' (show Own w' B v' (xs ++ ys) from ⟨?_, fit_append own.2 row.2.2.2.2.1⟩) (hbel h2)
    rw [List.length_append, row.1, List.map_append]
    exact h1

/-- A new block of one number. -/
theorem row_one (w : World) (y : Int) (h0 : -9223372036854775808 ≤ y) (h1 : y ≤ 9223372036854775807) : Row (w.alloc (.cells #[.int .i64 y] 3)) (some ⟨w.heap.size, 0, none⟩) 1 1 [y] := by
  refine ⟨rfl, Nat.le_refl _, by unfold maxLen; omega, fun h => by simp at h, fun x hx => by rw [List.mem_singleton] at hx; subst hx; exact ⟨h0, h1⟩, fun _ => ⟨_, _, rfl, fun j hj => ?_⟩⟩
  obtain rfl : j = 0 := by omega
  simp

theorem Row.more {w w' : World} {ao : Option Addr} {n cap B : Nat} {xs : List Int} (h : Row w ao n cap xs) (b : Below B w w') (hB : w.heap.size ≤ B) : Row w' ao n cap xs := h.keep (b.mono hB)

theorem rise_skip {xs : List Int} {k : Nat} {y : Int} (hy : xs[k]? = some y) (h : hasF (rise (xs.take k)) y = true) : rise (xs.take (k + 1)) = rise (xs.take k) := by
  rw [List.take_add_one, hy]
  show rise (xs.take k ++ [y]) = _
  rw [rise_snoc]
  exact ins_mem (up_rise _) ((by simpa [hasF] using h) : y ∈ rise (xs.take k))

theorem rise_len (xs : List Int) (k : Nat) : (rise (xs.take k)).length ≤ xs.length := by
  have := len_rise (xs.take k); simp at this; omega

theorem drop_at {r : List Int} {j : Nat} {z y : Int} (hz : r[j]? = some z) (h : ∀ x ∈ r.drop (j + 1), y < x) (hzy : y < z) : ∀ x ∈ r.drop j, y < x := by
  obtain ⟨hj, e⟩ := List.getElem?_eq_some_iff.1 hz
  intro x hx
  rw [List.drop_eq_getElem_cons hj] at hx
  rcases List.mem_cons.1 hx with rfl | hx
  · rw [e]; exact hzy
  · exact h x hx

theorem take_at {r : List Int} {j : Nat} {z y : Int} (hr : r.Pairwise (· < ·)) (hz : r[j]? = some z) (hzy : z < y) : ∀ x ∈ r.take (j + 1), x < y := by
  obtain ⟨hj, e⟩ := List.getElem?_eq_some_iff.1 hz
  intro x hx
  obtain ⟨i, hi, rfl⟩ := List.mem_iff_getElem.1 hx
  have hi' : i < j + 1 := by simp at hi; omega
  rw [List.getElem_take]
  rw [List.pairwise_iff_getElem] at hr
  by_cases h : i = j
  · subst h; rw [e]; exact hzy
  · have := hr i j (by omega) hj (by omega); omega

theorem rise_put {xs : List Int} {k : Nat} {y : Int} (hy : xs[k]? = some y) (j : Nat) (ha : ∀ x ∈ (rise (xs.take k)).take j, x < y) (hb : ∀ x ∈ (rise (xs.take k)).drop j, y < x) :
    rise (xs.take (k + 1)) = ([] ++ (rise (xs.take k)).take j) ++ [y] ++ (rise (xs.take k)).drop j := by
  rw [List.take_add_one, hy]
  show rise (xs.take k ++ [y]) = _
  rw [rise_snoc, ins_at (up_rise _) j ha hb, List.nil_append]

set_option maxHeartbeats 2000000 in
theorem sorted_any (ao : Option Addr) (n cap : Nat) (xs : List Int) (w : World) (h : Row w ao n cap xs) (hn : n ≤ 1000) :
    Calls Try.prog 34 #[.slice ao n cap] w fun e w' => ∃ bo m c, e = .returned (.slice bo m c) ∧ Hid (Row w' bo m c (rise xs)) ∧ Below w.heap.size w w' := by
  have HR : Hid (Row w ao n cap xs) := h
  have hm := h.max
  clear h
  go_enter Try.func34, Try.ntmps34
  go_wp2
  go_loopw [3, 4, 5, 6] (fun v i _ _ wr => ∃ k : Nat, k ≤ n ∧ i = .int .i64 k ∧ (∃ bo m c, v = .slice bo m c ∧ Hid (Row wr bo m c (rise (xs.take k)))) ∧ Below w.heap.size w wr) (fun _ i _ _ _ => n - (intOf i).toNat)
  case atStart => exact ⟨0, Nat.zero_le _, rfl, ⟨none, 0, 0, rfl, rfl, Nat.le_refl _, by unfold maxLen; omega, fun _ => rfl, fun x hx => by simp [rise] at hx, fun h => by omega⟩, Below.refl _ _⟩
  case round =>
    obtain ⟨k, hk, rfl, ⟨bo, m, c, rfl, hrow⟩, hb⟩ := hrel
    by_cases hlt : k < n
    · obtain ⟨b, off, y, rfl, hc, hy, y0, y1⟩ := (HR.out.keep hb).at hlt
      have hmm : m ≤ 1000 := by have := rise_len xs k; have := hrow.out.1; have := HR.out.1; omega
      cases he : hasF (rise (xs.take k)) y
      · go_wp2_with (go_at_call 67; with_reducible (refine (rhas_any _ _ _ _ _ _ hrow.out).mono ?_); rintro e w1 ⟨rfl, rfl⟩)
        go_loopw [5] (fun t wt => ∃ j : Nat, j ≤ m ∧ t = .int .i64 j ∧ Hid (∀ x ∈ (rise (xs.take k)).drop j, y < x) ∧ Below w1.heap.size w1 wt) (fun t _ => (intOf t).toNat)
        case atStart => exact ⟨m, Nat.le_refl _, rfl, by show ∀ x ∈ _, _; rw [List.drop_of_length_le (by rw [hrow.out.1]; omega)]; simp, Below.refl _ _⟩
        case round =>
          obtain ⟨j, hj, rfl, hbig, hb2⟩ := hrel
          have hrow2 := hrow.out.keep hb2
          have hs2 := hb2.size
          have hc2 := (hb2.cell (cell_lt hc)).trans hc
          have hmc := hrow.out.2.1
          rcases j with _ | j
          · rcases bo with _ | ad
            · have ec := hrow.out.2.2.2.1 rfl
              have em : m = 0 := by omega
              subst ec em
              clear hrow2
              have HE : Hid (rise (xs.take (k + 1)) = ([] ++ (rise (xs.take k)).take 0) ++ [y] ++ (rise (xs.take k)).drop 0) := rise_put hy.out 0 (by simp) hbig.out
              go_wp2
              go_region
              all_goals go_wp2_with (first
                | (at_builtin; refine append_ints rfl (.tmp 37) (.tmp 40) rfl w1.heap.size _ [] ((rise (xs.take k)).take 0) rfl (Own.nil _ _) _ _ _ rfl ((hrow.out.keep hb2.drew).take (by omega)) (by simp <;> omega) hs2 ?_; intro v2 w2 own2 hb3; have hb4 := hb2.drew.trans hb3.out; have hc3 := (hb4.cell (cell_lt hc)).trans hc; clear hb3)
                | (at_builtin; refine append_ints rfl (.tmp 42) (.tmp 47) rfl w1.heap.size _ _ [y] rfl (own2.out.alloc _) _ 1 1 rfl (row_one _ y y0 y1) (by simp <;> omega) (by have := hb4.size; simp; omega) ?_; intro v3 w3 own3 hb5; have hb6 := (hb4.alloc hb4.size _).trans hb5.out; clear hb5 own2)
                | (at_builtin; refine append_ints rfl (.tmp 49) (.tmp 52) rfl w1.heap.size _ _ ((rise (xs.take k)).drop 0) rfl own3.out _ _ _ rfl ((hrow.out.keep hb6).drop (j := 0) (by omega) (by first | rfl | omega) (by first | rfl | omega) (by intro h; first | rfl | cases h | (split at h <;> cases h)) (by intro b9 o9 e hp; cases e <;> first | rfl | (rw [if_neg (by omega)]) | (simp; omega))) (by simp <;> omega) (by have := hb6.size; omega) ?_; intro v4 w4 own4 hb7; have hb8 := hb6.trans hb7.out; obtain ⟨ao4, n4, c4, rfl, hrow4⟩ := own4.out.shape; clear hb7 own3 own4))
              all_goals go_roundw
              · exact ⟨k + 1, by omega, by go_num, ⟨_, _, _, rfl, by show Row _ _ _ _ _; rw [HE.out]; exact hrow4.out⟩, Below.next hb hb8⟩
              · simp only [intOf]; omega
            · clear hrow2
              have HE : Hid (rise (xs.take (k + 1)) = ([] ++ (rise (xs.take k)).take 0) ++ [y] ++ (rise (xs.take k)).drop 0) := rise_put hy.out 0 (by simp) hbig.out
              go_wp2
              go_region
              all_goals go_wp2_with (first
                | (at_builtin; refine append_ints rfl (.tmp 37) (.tmp 40) rfl w1.heap.size _ [] ((rise (xs.take k)).take 0) rfl (Own.nil _ _) _ _ _ rfl ((hrow.out.keep hb2.drew).take (by omega)) (by simp <;> omega) hs2 ?_; intro v2 w2 own2 hb3; have hb4 := hb2.drew.trans hb3.out; have hc3 := (hb4.cell (cell_lt hc)).trans hc; clear hb3)
                | (at_builtin; refine append_ints rfl (.tmp 42) (.tmp 47) rfl w1.heap.size _ _ [y] rfl (own2.out.alloc _) _ 1 1 rfl (row_one _ y y0 y1) (by simp <;> omega) (by have := hb4.size; simp; omega) ?_; intro v3 w3 own3 hb5; have hb6 := (hb4.alloc hb4.size _).trans hb5.out; clear hb5 own2)
                | (at_builtin; refine append_ints rfl (.tmp 49) (.tmp 52) rfl w1.heap.size _ _ ((rise (xs.take k)).drop 0) rfl own3.out _ _ _ rfl ((hrow.out.keep hb6).drop (j := 0) (by omega) (by first | rfl | omega) (by first | rfl | omega) (by intro h; first | rfl | cases h | (split at h <;> cases h)) (by intro b9 o9 e hp; cases e <;> first | rfl | (rw [if_neg (by omega)]) | (simp; omega))) (by simp <;> omega) (by have := hb6.size; omega) ?_; intro v4 w4 own4 hb7; have hb8 := hb6.trans hb7.out; obtain ⟨ao4, n4, c4, rfl, hrow4⟩ := own4.out.shape; clear hb7 own3 own4))
              all_goals go_roundw
              · exact ⟨k + 1, by omega, by go_num, ⟨_, _, _, rfl, by show Row _ _ _ _ _; rw [HE.out]; exact hrow4.out⟩, Below.next hb hb8⟩
              · simp only [intOf]; omega
          · obtain ⟨b2, o2, z, rfl, hz, hzz, z0, z1⟩ := hrow2.at (show j < m by omega)
            by_cases hzy : y < z
            · have HV : Hid (∀ x ∈ (rise (xs.take k)).drop j, y < x) := drop_at hzz.out hbig.out hzy
              clear hrow2
              go_wp2
              go_region
              all_goals go_wp2
              all_goals go_roundw
              all_goals first | exact ⟨j, by omega, by go_num, HV, by first | exact hb2.drew | exact hb2⟩ | (simp only [intOf]; omega)
            · have HT : Hid (∀ x ∈ (rise (xs.take k)).take (j + 1), x < y) := by
                refine take_at (up_rise _) hzz.out ?_
                have : z ≠ y := fun e => by subst e; exact absurd ((hasF_mem _ _).2 (List.mem_of_getElem? hzz.out)) (by rw [he]; simp)
                omega
              clear hrow2
              have HE : Hid (rise (xs.take (k + 1)) = ([] ++ (rise (xs.take k)).take (j + 1)) ++ [y] ++ (rise (xs.take k)).drop (j + 1)) := rise_put hy.out (j + 1) HT.out hbig.out
              go_wp2
              go_region
              all_goals go_wp2_with (first
                | (at_builtin; refine append_ints rfl (.tmp 37) (.tmp 40) rfl w1.heap.size _ [] ((rise (xs.take k)).take (j + 1)) rfl (Own.nil _ _) _ _ _ rfl ((hrow.out.keep hb2.drew).take (by omega)) (by simp <;> omega) hs2 ?_; intro v2 w2 own2 hb3; have hb4 := hb2.drew.trans hb3.out; have hc3 := (hb4.cell (cell_lt hc)).trans hc; clear hb3)
                | (at_builtin; refine append_ints rfl (.tmp 42) (.tmp 47) rfl w1.heap.size _ _ [y] rfl (own2.out.alloc _) _ 1 1 rfl (row_one _ y y0 y1) (by simp <;> omega) (by have := hb4.size; simp; omega) ?_; intro v3 w3 own3 hb5; have hb6 := (hb4.alloc hb4.size _).trans hb5.out; clear hb5 own2)
                | (at_builtin; refine append_ints rfl (.tmp 49) (.tmp 52) rfl w1.heap.size _ _ ((rise (xs.take k)).drop (j + 1)) rfl own3.out _ _ _ rfl ((hrow.out.keep hb6).drop (j := (j + 1)) (by omega) (by first | rfl | omega) (by first | rfl | omega) (by intro h; first | rfl | cases h | (split at h <;> cases h)) (by intro b9 o9 e hp; cases e <;> first | rfl | (rw [if_neg (by omega)]) | (simp; omega))) (by simp <;> omega) (by have := hb6.size; omega) ?_; intro v4 w4 own4 hb7; have hb8 := hb6.trans hb7.out; obtain ⟨ao4, n4, c4, rfl, hrow4⟩ := own4.out.shape; clear hb7 own3 own4))
              all_goals go_roundw
              · exact ⟨k + 1, by omega, by go_num, ⟨_, _, _, rfl, by show Row _ _ _ _ _; rw [HE.out]; exact hrow4.out⟩, Below.next hb hb8⟩
              · simp only [intOf]; omega
      · have HE : Hid (rise (xs.take (k + 1)) = rise (xs.take k)) := rise_skip hy.out he
        go_wp2_with (go_at_call 67; with_reducible (refine (rhas_any _ _ _ _ _ _ hrow.out).mono ?_); rintro e w1 ⟨rfl, rfl⟩)
        go_roundw
        case rel => exact ⟨k + 1, by omega, by go_num, ⟨_, _, _, rfl, by show Row _ _ _ _ _; rw [HE.out]; exact hrow.out⟩, hb⟩
        case measure => simp [intOf]; omega
    · have HV : Hid (xs.take k = xs) := List.take_of_length_le (by rw [HR.out.1]; omega)
      go_wp2
      go_ret
      exact ⟨_, _, _, rfl, by rw [← HV.out]; exact hrow, hb⟩


end Go.Proofs.Ytbekgejbgmdbdaa.Ls
