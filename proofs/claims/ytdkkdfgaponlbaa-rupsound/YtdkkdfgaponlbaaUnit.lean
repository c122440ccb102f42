/-
  What follows by clauses of one literal, as plain facts of lists of numbers. No program stands here.
-/
import Derived.Test.YtdkkdfgaponlbaaLists
namespace Go.Proofs.Ytdkkdfgaponlbaa
set_option linter.unusedVariables false

theorem not_not {x : Int} (h : 0 ≤ x) : notF (notF x) = x := by
  have e : ¬ x < 0 := by omega
  by_cases h2 : x % 2 = 1
  · have e1 : notF x = x - 1 := by simp only [notF]; rw [if_neg e, if_pos h2]
    rw [e1]; simp only [notF]; rw [if_neg (by omega), if_neg (by omega)]; omega
  · have e1 : notF x = x + 1 := by simp only [notF]; rw [if_neg e, if_neg h2]
    rw [e1]; simp only [notF]; rw [if_neg (by omega), if_pos (by omega)]; omega

theorem not_pos {x : Int} (h : 0 ≤ x) : 0 ≤ notF x := by
  have e : ¬ x < 0 := by omega
  simp only [notF]; rw [if_neg e]; split <;> omega

theorem not_neg {x : Int} (h : x < 0) : notF x = x := by simp only [notF]; rw [if_pos h]

theorem not_ne {x : Int} (h : 0 ≤ x) : notF x ≠ x := by
  have e : ¬ x < 0 := by omega
  simp only [notF]; rw [if_neg e]; split <;> omega

theorem not_max {x : Int} (h : 0 ≤ x) (hu : x ≤ 9223372036854775807) : notF x ≤ 9223372036854775807 := by
  have e : ¬ x < 0 := by omega
  simp only [notF]; rw [if_neg e]; split <;> omega

theorem not_eq {x y : Int} (h : 0 ≤ x) : notF y = x ↔ y = notF x := by
  constructor
  · rintro rfl
    by_cases hy : 0 ≤ y
    · rw [not_not hy]
    · rw [not_neg (by omega : y < 0)] at h; omega
  · rintro rfl; exact not_not h

/-- What follows: it lies in each set that has the given literals and all that clauses of one literal lead to. -/
def Der (L : List (List Int)) (S : List Int) (x : Int) : Prop :=
  ∀ P : Int → Prop, (∀ y ∈ S, 0 ≤ y → P y) → (∀ y, ∀ c ∈ L, y ∈ c → 0 ≤ y → (∀ z ∈ c, 0 ≤ z → z ≠ y → P (notF z)) → P y) → P x

theorem Der.base {L : List (List Int)} {S : List Int} {x : Int} (h : x ∈ S) (h0 : 0 ≤ x) : Der L S x := fun P hb _ => hb x h h0

theorem Der.unit {L : List (List Int)} {S : List Int} {x : Int} {c : List Int} (hc : c ∈ L) (hx : x ∈ c) (h0 : 0 ≤ x) (h : ∀ y ∈ c, 0 ≤ y → y ≠ x → Der L S (notF y)) : Der L S x :=
  fun P hb hu => hu x c hc hx h0 fun z hz z0 hne => h z hz z0 hne P hb hu

/-- There is a contradiction. -/
def Bad (L : List (List Int)) (S : List Int) : Prop := (∃ x, Der L S x ∧ Der L S (notF x)) ∨ ∃ c ∈ L, ∀ y ∈ c, 0 ≤ y → Der L S (notF y)

def Res (L : List (List Int)) (S : List Int) (xs : List Int) (ok : Bool) : Prop :=
  (ok = false ∧ xs = [] ∧ Bad L S) ∨ (ok = true ∧ ¬ Bad L S ∧ xs.Pairwise (· < ·) ∧ ∀ x, x ∈ xs ↔ Der L S x)

theorem der_pos {L : List (List Int)} {S : List Int} {x : Int} (h : Der L S x) : 0 ≤ x := h (fun y => 0 ≤ y) (fun _ _ h0 => h0) (fun _ _ _ _ h0 _ => h0)

theorem res_same {L : List (List Int)} {S xs ys : List Int} {a b : Bool} (h : Res L S xs a) (g : Res L S ys b) : xs = ys ∧ a = b := by
  rcases h with ⟨rfl, rfl, h⟩ | ⟨rfl, h, h1, h2⟩ <;> rcases g with ⟨rfl, rfl, g⟩ | ⟨rfl, g, g1, g2⟩
  · exact ⟨rfl, rfl⟩
  · exact absurd h g
  · exact absurd g h
  · exact ⟨up_ext h1 g1 fun z => (h2 z).trans (g2 z).symm, rfl⟩

/-- A set that is closed and without contradiction is all that follows. -/
theorem closed_all {L : List (List Int)} {S : List Int} {Now : Int → Prop} (h0 : ∀ x ∈ S, 0 ≤ x → Now x) (hs : ∀ x, Now x → Der L S x) (hc : ∀ x, Now x → ¬ Now (notF x))
    (hl : ∀ c ∈ L, (∃ y ∈ c, Now y) ∨ ∃ u ∈ c, ∃ v ∈ c, u ≠ v ∧ 0 ≤ u ∧ 0 ≤ v ∧ ¬ Now (notF u) ∧ ¬ Now (notF v)) : (∀ x, Der L S x → Now x) ∧ ¬ Bad L S := by
  have key : ∀ x, Der L S x → Now x := by
    intro x hx
    refine hx Now h0 ?_
    · intro x c hcl hx hp ih
      rcases hl c hcl with ⟨y, hy, hn⟩ | ⟨u, hu, v, hv, huv, u0, v0, nu, nv⟩
      · by_cases e : y = x
        · subst e; exact hn
        · exact absurd (ih y hy (der_pos (hs y hn)) e) (hc y hn)
      · by_cases e : u = x
        · exact absurd (ih v hv v0 (fun e2 => huv (e.trans e2.symm))) nv
        · exact absurd (ih u hu u0 e) nu
  refine ⟨key, ?_⟩
  rintro (⟨x, h1, h2⟩ | ⟨c, hcl, hall⟩)
  · exact hc x (key x h1) (key _ h2)
  · rcases hl c hcl with ⟨y, hy, hn⟩ | ⟨u, hu, v, hv, huv, u0, v0, nu, nv⟩
    · exact hc y hn (key _ (hall y hy (der_pos (hs y hn))))
    · exact nu (key _ (hall u hu u0))

theorem res_true {L : List (List Int)} {S xs : List Int} (hx : xs.Pairwise (· < ·)) (h0 : ∀ x ∈ S, 0 ≤ x → x ∈ xs) (hs : ∀ x ∈ xs, Der L S x) (hc : ∀ x ∈ xs, ¬ notF x ∈ xs)
    (hl : ∀ c ∈ L, (∃ y ∈ c, y ∈ xs) ∨ ∃ u ∈ c, ∃ v ∈ c, u ≠ v ∧ 0 ≤ u ∧ 0 ≤ v ∧ ¬ notF u ∈ xs ∧ ¬ notF v ∈ xs) : Res L S xs true := by
  obtain ⟨h1, h2⟩ := closed_all (Now := fun x => x ∈ xs) h0 hs hc hl
  exact .inr ⟨rfl, h2, hx, fun x => ⟨hs x, h1 x⟩⟩

theorem res_false {L : List (List Int)} {S : List Int} (h : Bad L S) : Res L S [] false := .inl ⟨rfl, rfl, h⟩

/-! ### What follows holds; more lose nothing -/
theorem der_mono {L M : List (List Int)} {S T : List Int} (hL : ∀ c ∈ L, c ∈ M) (hS : ∀ x ∈ S, 0 ≤ x → Der M T x) {x : Int} (h : Der L S x) : Der M T x :=
  h (Der M T) hS fun y c hc hx h0 ih => .unit (hL c hc) hx h0 ih

theorem bad_mono {L M : List (List Int)} {S T : List Int} (hL : ∀ c ∈ L, c ∈ M) (hS : ∀ x ∈ S, 0 ≤ x → Der M T x) (h : Bad L S) : Bad M T := by
  rcases h with ⟨x, h1, h2⟩ | ⟨c, hc, h⟩
  · exact .inl ⟨x, der_mono hL hS h1, der_mono hL hS h2⟩
  · exact .inr ⟨c, hL c hc, fun y hy h0 => der_mono hL hS (h y hy h0)⟩

theorem hol_not {x : Int} {len : Nat} {B : Nat → Bool} (h0 : 0 ≤ x) (h : holF x len B = true) : holF (notF x) len B = false := by
  have e : ¬ x < 0 := by omega
  have e2 : ¬ notF x < 0 := by have := not_pos h0; omega
  have hv : notF x / 2 = x / 2 := by simp only [notF]; rw [if_neg e]; split <;> omega
  have hn : negF (notF x) = !negF x := by
    have hp := not_pos h0
    rw [Bool.eq_iff_iff]
    simp only [negF, Bool.not_eq_true', decide_eq_true_eq, decide_eq_false_iff_not]
    simp only [notF]; rw [if_neg e]
    split <;> omega
  simp only [holF] at h ⊢
  rw [if_neg e] at h
  rw [if_neg e2, hv, hn]
  generalize truF (x / 2) len B = t at h ⊢
  generalize negF x = n at h ⊢
  cases t <;> cases n <;> simp_all

/-- What follows holds wherever the clauses and the literals do. -/
theorem der_holds {L : List (List Int)} {S : List Int} {len : Nat} {B : Nat → Bool} (hL : ∀ c ∈ L, holdsF c len B = true) (hS : ∀ x ∈ S, holF x len B = true) {x : Int} (h : Der L S x) : holF x len B = true := by
  refine h (fun x => holF x len B = true) (fun y hy _ => hS y hy) ?_
  · intro x c hc hx h0 ih
    have := hL c hc
    simp only [holdsF, List.any_eq_true] at this
    obtain ⟨y, hy, hh⟩ := this
    by_cases e : y = x
    · subst e; exact hh
    · by_cases y0 : 0 ≤ y
      · have h1 := ih y hy y0 e
        rw [hol_not y0 hh] at h1; cases h1
      · simp only [holF] at hh; rw [if_pos (by omega)] at hh; cases hh

theorem bad_holds {L : List (List Int)} {S : List Int} {len : Nat} {B : Nat → Bool} (hL : ∀ c ∈ L, holdsF c len B = true) (hS : ∀ x ∈ S, holF x len B = true) : ¬ Bad L S := by
  rintro (⟨x, h1, h2⟩ | ⟨c, hc, hall⟩)
  · have a := der_holds hL hS h1
    have b := der_holds hL hS h2
    rw [hol_not (der_pos h1) a] at b; cases b
  · have := hL c hc
    simp only [holdsF, List.any_eq_true] at this
    obtain ⟨y, hy, hh⟩ := this
    by_cases y0 : 0 ≤ y
    · have h1 := der_holds hL hS (hall y hy y0)
      rw [hol_not y0 hh] at h1; cases h1
    · simp only [holF] at hh; rw [if_pos (by omega)] at hh; cases hh

/-! ### Different literals of a clause, in the order in which they are met -/
def addD (r : List Int) (x : Int) : List Int := if x < 0 ∨ x ∈ r then r else r ++ [x]
def dd (l : List Int) : List Int := l.foldl addD []

theorem dd_snoc (l : List Int) (x : Int) : dd (l ++ [x]) = addD (dd l) x := by simp [dd, List.foldl_append]
theorem add_skip {r : List Int} {x : Int} (h : x < 0 ∨ x ∈ r) : addD r x = r := by simp only [addD]; rw [if_pos h]
theorem add_new {r : List Int} {x : Int} (h : ¬ x < 0) (h2 : x ∉ r) : addD r x = r ++ [x] := by
  simp only [addD]; rw [if_neg]; rintro (h3 | h3)
  · exact h h3
  · exact h2 h3

theorem mem_add (r : List Int) (x z : Int) : z ∈ addD r x ↔ z ∈ r ∨ (z = x ∧ 0 ≤ x) := by
  by_cases h : x < 0 ∨ x ∈ r
  · rw [add_skip h]
    constructor
    · exact .inl
    · rintro (h1 | ⟨rfl, h1⟩)
      · exact h1
      · rcases h with h | h
        · omega
        · exact h
  · have h1 : ¬ x < 0 := fun e => h (.inl e)
    rw [add_new h1 (fun e => h (.inr e))]
    simp only [List.mem_append, List.mem_singleton]
    constructor
    · rintro (h2 | rfl)
      · exact .inl h2
      · exact .inr ⟨rfl, by omega⟩
    · rintro (h2 | ⟨rfl, _⟩)
      · exact .inl h2
      · exact .inr rfl

theorem fold_add (l r : List Int) : ∀ z, z ∈ l.foldl addD r ↔ z ∈ r ∨ (z ∈ l ∧ 0 ≤ z) := by
  induction l generalizing r with
  | nil => simp
  | cons x xs ih =>
    intro z
    rw [List.foldl_cons, ih, mem_add]
    simp only [List.mem_cons]
    constructor
    · rintro ((h | ⟨rfl, h⟩) | ⟨h, h2⟩)
      · exact .inl h
      · exact .inr ⟨.inl rfl, h⟩
      · exact .inr ⟨.inr h, h2⟩
    · rintro (h | ⟨rfl | h, h2⟩)
      · exact .inl (.inl h)
      · exact .inl (.inr ⟨rfl, h2⟩)
      · exact .inr ⟨h, h2⟩

theorem mem_dd (l : List Int) (z : Int) : z ∈ dd l ↔ z ∈ l ∧ 0 ≤ z := by simpa [dd] using fold_add l [] z

theorem nodup_add {r : List Int} (h : r.Nodup) (x : Int) : (addD r x).Nodup := by
  by_cases h1 : x < 0 ∨ x ∈ r
  · rw [add_skip h1]; exact h
  · rw [add_new (fun e => h1 (.inl e)) (fun e => h1 (.inr e)), List.nodup_append]
    refine ⟨h, by simp, ?_⟩
    intro a ha b hb
    rw [List.mem_singleton] at hb; subst hb
    rintro rfl; exact h1 (.inr ha)

theorem fold_nodup (l : List Int) : ∀ r : List Int, r.Nodup → (l.foldl addD r).Nodup := by
  induction l with
  | nil => exact fun r h => h
  | cons x xs ih => intro r h; rw [List.foldl_cons]; exact ih _ (nodup_add h x)

theorem nodup_dd (l : List Int) : (dd l).Nodup := fold_nodup l [] List.nodup_nil

theorem add_len (r : List Int) (x : Int) : (addD r x).length ≤ r.length + 1 := by
  simp only [addD]; split <;> simp

theorem fold_len (l : List Int) : ∀ r : List Int, (l.foldl addD r).length ≤ r.length + l.length := by
  induction l with
  | nil => intro r; simp
  | cons x xs ih => intro r; have := ih (addD r x); have := add_len r x; simp only [List.foldl_cons, List.length_cons]; omega

theorem dd_len (l : List Int) : (dd l).length ≤ l.length := by simpa [dd] using fold_len l []

/-! ### How many literals of a clause are not struck -/
def cntU (st : Int → Bool) (r : List Int) : Nat := r.countP (fun y => !st y)

theorem cnt_same {st st' : Int → Bool} {r : List Int} (h : ∀ y ∈ r, st y = st' y) : cntU st r = cntU st' r := by
  simp only [cntU]
  exact List.countP_congr fun y hy => by rw [h y hy]

theorem cnt_none (r : List Int) : cntU (fun _ => false) r = r.length := by simp [cntU]

/-- One literal more is struck. -/
theorem cnt_strike {st : Int → Bool} {x : Int} : ∀ {r : List Int}, r.Nodup → x ∈ r → st x = false → cntU st r = cntU (fun y => st y || y == x) r + 1 := by
  intro r
  induction r with
  | nil => intro _ h; simp at h
  | cons a r ih =>
    intro hn hx hs
    rw [List.nodup_cons] at hn
    by_cases e : a = x
    · subst e
      have e2 : cntU (fun y => st y || y == a) r = cntU st r := cnt_same fun y hy => by
        have : y ≠ a := fun e => hn.1 (e ▸ hy)
        simp [this]
      simp only [cntU, List.countP_cons] at e2 ⊢
      simp [hs]
      simpa using e2.symm
    · have hx2 : x ∈ r := by
        rcases List.mem_cons.1 hx with h | h
        · exact absurd h.symm e
        · exact h
      have h1 := ih hn.2 hx2 hs
      simp only [cntU, List.countP_cons] at h1 ⊢
      have : (st a || a == x) = st a := by simp [e]
      rw [this]
      omega

theorem cnt_zero {st : Int → Bool} {r : List Int} (h : cntU st r = 0) : ∀ y ∈ r, st y = true := by
  intro y hy
  simp only [cntU, List.countP_eq_zero] at h
  have := h y hy
  simpa using this

/-- Where just one is not struck, all others are. -/
theorem cnt_one {st : Int → Bool} : ∀ {r : List Int}, cntU st r ≤ 1 → ∀ y ∈ r, ∀ z ∈ r, st y = false → z ≠ y → st z = true := by
  intro r
  induction r with
  | nil => intro _ y hy; simp at hy
  | cons a r ih =>
    intro hc y hy z hz hs hne
    simp only [cntU, List.countP_cons] at hc
    cases hst : st a with
    | false =>
      simp [hst] at hc
      have h0 : cntU st r = 0 := by simp only [cntU]; rw [List.countP_eq_zero]; intro q hq; simpa using hc q hq
      have hall := cnt_zero h0
      rcases List.mem_cons.1 hy with rfl | hy
      · rcases List.mem_cons.1 hz with rfl | hz
        · exact absurd rfl hne
        · exact hall z hz
      · have := hall y hy; rw [hs] at this; cases this
    | true =>
      simp [hst] at hc
      rcases List.mem_cons.1 hy with rfl | hy
      · rw [hs] at hst; cases hst
      · rcases List.mem_cons.1 hz with rfl | hz
        · exact hst
        · exact ih hc y hy z hz hs hne

/-- Where two or more are not struck, there are two. -/
theorem cnt_two {st : Int → Bool} : ∀ {r : List Int}, r.Nodup → 2 ≤ cntU st r → ∃ u ∈ r, ∃ v ∈ r, u ≠ v ∧ st u = false ∧ st v = false := by
  have one : ∀ {r : List Int}, 1 ≤ cntU st r → ∃ u ∈ r, st u = false := by
    intro r h
    simp only [cntU] at h
    obtain ⟨u, hu, h1⟩ := List.countP_pos_iff.1 (show 0 < _ from h)
    exact ⟨u, hu, by simpa using h1⟩
  intro r
  induction r with
  | nil => intro _ h; simp [cntU] at h
  | cons a r ih =>
    intro hn hc
    rw [List.nodup_cons] at hn
    have e : cntU st (a :: r) = cntU st r + (if st a = false then 1 else 0) := by
      simp only [cntU, List.countP_cons]; cases st a <;> simp
    cases hst : st a with
    | false =>
      rw [e, if_pos hst] at hc
      obtain ⟨v, hv, h1⟩ := one (r := r) (by omega)
      exact ⟨a, by simp, v, by simp [hv], fun e => hn.1 (e ▸ hv), hst, h1⟩
    | true =>
      rw [e, if_neg (by simp [hst])] at hc
      obtain ⟨u, hu, v, hv, h⟩ := ih hn.2 (by omega)
      exact ⟨u, by simp [hu], v, by simp [hv], h⟩

end Go.Proofs.Ytdkkdfgaponlbaa
