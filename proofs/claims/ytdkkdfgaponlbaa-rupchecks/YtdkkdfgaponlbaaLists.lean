/-
  Rising lists; what the calls on lists answer.
-/
import Derived.Test.YtdkkdfgaponlbaaMath
namespace Go.Proofs.Ytdkkdfgaponlbaa
open Go.RowKit
set_option linter.unusedVariables false

def ins (x : Int) : List Int → List Int
  | [] => [x]
  | y :: ys => if x < y then x :: y :: ys else if x = y then y :: ys else y :: ins x ys

def rise (l : List Int) : List Int := l.foldl (fun r x => ins x r) []

theorem mem_ins (x z : Int) (r : List Int) : z ∈ ins x r ↔ z = x ∨ z ∈ r := by
  induction r with
  | nil => simp [ins]
  | cons y ys ih =>
    simp only [ins]
    split
    · simp
    · split
      · subst_vars; simp
      · simp [ih]; constructor <;> (intro h; rcases h with h | h | h <;> simp [h])

theorem up_ins (x : Int) (r : List Int) (h : r.Pairwise (· < ·)) : (ins x r).Pairwise (· < ·) := by
  induction r with
  | nil => simp [ins]
  | cons y ys ih =>
    rw [List.pairwise_cons] at h
    simp only [ins]
    split
    · rw [List.pairwise_cons]
      refine ⟨fun z hz => ?_, List.pairwise_cons.2 h⟩
      rcases List.mem_cons.1 hz with rfl | hz
      · assumption
      · have := h.1 z hz; omega
    · split
      · exact List.pairwise_cons.2 h
      · rw [List.pairwise_cons]
        refine ⟨fun z hz => ?_, ih h.2⟩
        rcases (mem_ins x z ys).1 hz with rfl | hz
        · omega
        · exact h.1 z hz

theorem foldl_ins (l r : List Int) (h : r.Pairwise (· < ·)) : (l.foldl (fun r x => ins x r) r).Pairwise (· < ·) ∧ ∀ z, z ∈ l.foldl (fun r x => ins x r) r ↔ z ∈ l ∨ z ∈ r := by
  induction l generalizing r with
  | nil => exact ⟨h, by simp⟩
  | cons x xs ih =>
    have := ih (ins x r) (up_ins x r h)
    refine ⟨this.1, fun z => ?_⟩
    rw [List.foldl_cons, this.2 z, mem_ins]
    simp only [List.mem_cons]
    constructor
    · rintro (h | h | h) <;> simp [h]
    · rintro ((h | h) | h) <;> simp [h]

theorem up_rise (l : List Int) : (rise l).Pairwise (· < ·) := (foldl_ins l [] List.Pairwise.nil).1

theorem mem_rise (l : List Int) (z : Int) : z ∈ rise l ↔ z ∈ l := by simpa [rise] using (foldl_ins l [] List.Pairwise.nil).2 z

/-- Two rising lists that have the same members are the same. -/
theorem up_ext {r s : List Int} (hr : r.Pairwise (· < ·)) (hs : s.Pairwise (· < ·)) (h : ∀ z, z ∈ r ↔ z ∈ s) : r = s := by
  induction r generalizing s with
  | nil =>
    cases s with
    | nil => rfl
    | cons y ys => have := (h y).2 (by simp); simp at this
  | cons x xs ih =>
    cases s with
    | nil => have := (h x).1 (by simp); simp at this
    | cons y ys =>
      rw [List.pairwise_cons] at hr hs
      have e : x = y := by
        rcases List.mem_cons.1 ((h x).1 (by simp)) with e | e
        · exact e
        · rcases List.mem_cons.1 ((h y).2 (by simp)) with f | f
          · exact f.symm
          · have := hs.1 x e; have := hr.1 y f; omega
      subst e
      rw [ih hr.2 hs.2]
      intro z
      constructor
      · intro hz
        rcases List.mem_cons.1 ((h z).1 (by simp [hz])) with e | e
        · subst e; have := hr.1 z hz; omega
        · exact e
      · intro hz
        rcases List.mem_cons.1 ((h z).2 (by simp [hz])) with e | e
        · subst e; have := hs.1 z hz; omega
        · exact e

theorem rise_of {r l : List Int} (hr : r.Pairwise (· < ·)) (h : ∀ z, z ∈ r ↔ z ∈ l) : r = rise l :=
  up_ext hr (up_rise l) fun z => (h z).trans (mem_rise l z).symm

theorem rise_congr {a b : List Int} (h : ∀ z, z ∈ a ↔ z ∈ b) : rise a = rise b :=
  up_ext (up_rise a) (up_rise b) fun z => by rw [mem_rise, mem_rise]; exact h z

theorem len_ins (x : Int) (r : List Int) : (ins x r).length ≤ r.length + 1 := by
  induction r with
  | nil => simp [ins]
  | cons y ys ih => simp only [ins]; split <;> (try split) <;> simp <;> omega

theorem len_foldl (l r : List Int) : (l.foldl (fun r x => ins x r) r).length ≤ l.length + r.length := by
  induction l generalizing r with
  | nil => simp
  | cons x xs ih => have := ih (ins x r); have := len_ins x r; simp only [List.foldl_cons, List.length_cons]; omega

theorem len_rise (l : List Int) : (rise l).length ≤ l.length := by simpa [rise] using len_foldl l []

/-- One more number: the list so far, and what stands behind it. -/
theorem rise_snoc (l : List Int) (x : Int) : rise (l ++ [x]) = ins x (rise l) := by simp [rise, List.foldl_append]

theorem ins_mem {x : Int} {r : List Int} (h : r.Pairwise (· < ·)) (hx : x ∈ r) : ins x r = r :=
  up_ext (up_ins x r h) h fun z => by rw [mem_ins]; constructor <;> intro k; exact k.elim (fun e => e ▸ hx) id; exact .inr k

/-- Where a new number goes: all ahead are less, all behind greater. -/
theorem ins_at {x : Int} {r : List Int} (h : r.Pairwise (· < ·)) (k : Nat) (ha : ∀ z ∈ r.take k, z < x) (hb : ∀ z ∈ r.drop k, x < z) : ins x r = r.take k ++ [x] ++ r.drop k := by
  refine up_ext (up_ins x r h) ?_ fun z => ?_
  · rw [List.append_assoc, List.pairwise_append]
    refine ⟨h.sublist (List.take_sublist k r), ?_, ?_⟩
    · rw [List.singleton_append, List.pairwise_cons]
      exact ⟨hb, h.sublist (List.drop_sublist k r)⟩
    · intro a hak b hbk
      rcases List.mem_append.1 hbk with hbk | hbk
      · rw [List.mem_singleton] at hbk; subst hbk; exact ha a hak
      · have := ha a hak; have := hb b hbk; omega
  · rw [mem_ins]
    conv => lhs; rhs; rw [← List.take_append_drop k r]
    simp only [List.mem_append, List.mem_singleton]
    constructor
    · rintro (h | h | h) <;> simp [h]
    · rintro ((h | h) | h) <;> simp [h]

def hasF (l : List Int) (x : Int) : Bool := l.any (fun y => y == x)

def holdsF (l : List Int) (len : Nat) (B : Nat → Bool) : Bool := l.any (fun x => holF x len B)

def withF (a b : List Int) : Bool := !(a.any (fun x => !(hasF b x)))

theorem hasF_mem (l : List Int) (x : Int) : hasF l x = true ↔ x ∈ l := by simp [hasF]

theorem any_step {xs : List Int} {p : Int → Bool} {k : Nat} {y : Int} (h : (xs.take k).any p = false) (hy : xs[k]? = some y) (hp : p y = false) : (xs.take (k + 1)).any p = false := by
  rw [List.take_add_one, List.any_append, h, hy]; simp [hp]

theorem any_hit {xs : List Int} {p : Int → Bool} {k : Nat} {y : Int} (hy : xs[k]? = some y) (hp : p y = true) : xs.any p = true :=
  List.any_eq_true.2 ⟨y, List.mem_of_getElem? hy, hp⟩

theorem any_end {xs : List Int} {p : Int → Bool} {k : Nat} (h : (xs.take k).any p = false) (hk : xs.length ≤ k) : xs.any p = false := by
  rwa [List.take_of_length_le hk] at h

end Go.Proofs.Ytdkkdfgaponlbaa
