/-
  What the calls of package cnf answer, as plain functions of numbers, truths and lists, and what is true of those functions. No program stands here.
-/
import Derived.Test.YtogjafmpoepgbaaRead
namespace Go.Proofs.Ytogjafmpoepgbaa
set_option linter.unusedVariables false

def badV (vars x : Int) : Bool := decide (varF x < 0) || decide (vars ≤ varF x)
def badC (vars : Int) (xs : List Int) : Bool := xs.any (badV vars)
def badG (vars : Int) (xss : List (List Int)) : Bool := xss.any (badC vars)
def chkF (vars : Int) (xss : List (List Int)) : Int := if vars < 0 ∨ 1048576 < vars then 10 else if 1048576 < xss.length then 8 else if badG vars xss = true then 10 else 0
def mayF (vars : Int) (xss : List (List Int)) : Int := if chkF vars xss = 0 then (if 16 < vars then 8 else 0) else chkF vars xss

def missF (len : Nat) (B : Nat → Bool) (xs : List Int) : Bool := !holdsF xs len B
def fstN (xss : List (List Int)) (len : Nat) (B : Nat → Bool) : Int := match xss.findIdx? (missF len B) with
  | some i => (i : Int)
  | none => -1

def okF (vars : Nat) (xss : List (List Int)) (i : Nat) : Bool := !(xss.any (missF vars (fun v => i.testBit v)))
def cntF (p : Nat → Bool) (n : Nat) : Nat := (List.range n).countP p
def firF (p : Nat → Bool) (n : Nat) : Int := match (List.range n).find? p with
  | some i => (i : Int)
  | none => -1
def tbL (vars i : Nat) : List Bool := (List.range vars).map (fun v => i.testBit v)

/-! ### Any, place by place -/
theorem gany_step {α : Type} {xs : List α} {p : α → Bool} {k : Nat} {y : α} (h : (xs.take k).any p = false) (hy : xs[k]? = some y) (hp : p y = false) : (xs.take (k + 1)).any p = false := by
  rw [List.take_add_one, List.any_append, h, hy]; simp [hp]

theorem gany_hit {α : Type} {xs : List α} {p : α → Bool} {k : Nat} {y : α} (hy : xs[k]? = some y) (hp : p y = true) : xs.any p = true :=
  List.any_eq_true.2 ⟨y, List.mem_of_getElem? hy, hp⟩

theorem gany_end {α : Type} {xs : List α} {p : α → Bool} {k : Nat} (h : (xs.take k).any p = false) (hk : xs.length ≤ k) : xs.any p = false := by
  rwa [List.take_of_length_le hk] at h

theorem fstN_hit {xss : List (List Int)} {len : Nat} {B : Nat → Bool} {k : Nat} {xs : List Int} (h : (xss.take k).any (missF len B) = false) (hy : xss[k]? = some xs) (hp : missF len B xs = true) : fstN xss len B = k := by
  obtain ⟨hk, rfl⟩ := List.getElem?_eq_some_iff.1 hy
  have e : xss.findIdx? (missF len B) = some k := by
    rw [List.findIdx?_eq_some_iff_getElem]
    refine ⟨hk, hp, fun j hj => ?_⟩
    rw [List.any_eq_false] at h
    exact h _ (List.mem_take_iff_getElem.2 ⟨j, by omega, rfl⟩)
  rw [fstN, e]

theorem fstN_end {xss : List (List Int)} {len : Nat} {B : Nat → Bool} (h : xss.any (missF len B) = false) : fstN xss len B = -1 := by
  have e : xss.findIdx? (missF len B) = none := by
    rw [List.findIdx?_eq_none_iff]
    intro x hx
    rw [List.any_eq_false] at h
    simpa using h x hx
  rw [fstN, e]

theorem fstN_neg (xss : List (List Int)) (len : Nat) (B : Nat → Bool) : decide (fstN xss len B < 0) = !(xss.any (missF len B)) := by
  cases h : xss.any (missF len B)
  · rw [fstN_end h]; rfl
  · have : ∃ i, xss.findIdx? (missF len B) = some i := by
      cases e : xss.findIdx? (missF len B)
      · rw [List.findIdx?_eq_none_iff] at e
        obtain ⟨x, hx, hp⟩ := List.any_eq_true.1 h
        rw [e x hx] at hp; simp at hp
      · exact ⟨_, rfl⟩
    obtain ⟨i, e⟩ := this
    rw [fstN, e]
    simp

/-! ### Count and first -/
theorem cnt_yes {p : Nat → Bool} {k : Nat} (h : p k = true) : cntF p (k + 1) = cntF p k + 1 := by simp [cntF, List.range_succ, List.countP_append, h]
theorem cnt_no {p : Nat → Bool} {k : Nat} (h : p k = false) : cntF p (k + 1) = cntF p k := by simp [cntF, List.range_succ, List.countP_append, h]
theorem cnt_le (p : Nat → Bool) (k : Nat) : cntF p k ≤ k := by
  have := List.countP_le_length (p := p) (l := List.range k); simpa [cntF] using this

theorem fir_zero (p : Nat → Bool) : firF p 0 = -1 := rfl
theorem fir_no {p : Nat → Bool} {k : Nat} (h : p k = false) : firF p (k + 1) = firF p k := by
  simp only [firF, List.range_succ, List.find?_append]
  cases (List.range k).find? p <;> simp [h]
theorem fir_new {p : Nat → Bool} {k : Nat} (h : p k = true) (h0 : firF p k < 0) : firF p (k + 1) = k := by
  simp only [firF] at h0
  simp only [firF, List.range_succ, List.find?_append]
  cases e : (List.range k).find? p
  · simp [h]
  · rw [e] at h0; simp only at h0; omega
theorem fir_old {p : Nat → Bool} {k : Nat} (h0 : ¬ firF p k < 0) : firF p (k + 1) = firF p k := by
  simp only [firF] at h0
  simp only [firF, List.range_succ, List.find?_append]
  cases e : (List.range k).find? p
  · rw [e] at h0; simp at h0
  · simp
theorem fir_lt (p : Nat → Bool) (n : Nat) : firF p n < 0 ∧ firF p n = -1 ∨ ∃ i, i < n ∧ firF p n = (i : Int) ∧ p i = true := by
  simp only [firF]
  cases e : (List.range n).find? p
  · exact .inl ⟨by simp, rfl⟩
  · rename_i i
    refine .inr ⟨i, ?_, rfl, List.find?_some e⟩
    have := List.mem_of_find?_eq_some e
    simpa using this
theorem fir_none {p : Nat → Bool} {n : Nat} (h : ∀ j, j < n → p j = false) : firF p n = -1 := by
  simp only [firF]
  have e : (List.range n).find? p = none := by
    rw [List.find?_eq_none]
    intro x hx
    rw [h x (by simpa using hx)]; simp
  rw [e]
theorem fir_at {p : Nat → Bool} {n k : Nat} (hk : k < n) (hp : p k = true) (h : ∀ j, j < k → p j = false) : firF p n = k := by
  have h1 : firF p (k + 1) = k := fir_new hp (by rw [fir_none h]; omega)
  have h2 : ∀ d, firF p (k + 1 + d) = k := by
    intro d
    induction d with
    | zero => exact h1
    | succ d ih => rw [show k + 1 + (d + 1) = (k + 1 + d) + 1 from rfl, fir_old (by rw [ih]; omega), ih]
  have := h2 (n - (k + 1))
  rwa [show k + 1 + (n - (k + 1)) = n by omega] at this

theorem cnt_congr {p q : Nat → Bool} {n : Nat} (h : ∀ j, j < n → p j = q j) : cntF p n = cntF q n := by
  simp only [cntF]
  exact List.countP_congr (fun x hx => by rw [h x (by simpa using hx)])

/-! ### Truths by bits -/
theorem holds_congr {xs : List Int} {len : Nat} {B B' : Nat → Bool} (h : ∀ v, v < len → B v = B' v) : holdsF xs len B = holdsF xs len B' := by
  have e : (fun x => holF x len B) = (fun x => holF x len B') := by
    funext x
    simp only [holF]
    by_cases hx : x < 0
    · simp [hx]
    · simp only [hx, if_false, truF]
      by_cases hl : x / 2 < (len : Int)
      · rw [h (x / 2).toNat (by omega)]
      · simp [hl]
  simp only [holdsF, e]

theorem miss_congr {len : Nat} {B B' : Nat → Bool} (h : ∀ v, v < len → B v = B' v) : missF len B = missF len B' := by
  funext xs
  simp only [missF, holds_congr (xs := xs) h]

theorem fstN_congr {xss : List (List Int)} {len : Nat} {B B' : Nat → Bool} (h : ∀ v, v < len → B v = B' v) : fstN xss len B = fstN xss len B' := by
  simp only [fstN, miss_congr h]

theorem tbL_get {vars i v : Nat} (h : v < vars) : (tbL vars i).getD v false = i.testBit v := by simp [tbL, h]
theorem tbL_len (vars i : Nat) : (tbL vars i).length = vars := by simp [tbL]
theorem tbL_succ (k i : Nat) : tbL (k + 1) i = tbL k i ++ [i.testBit k] := by simp [tbL, List.range_succ]

/-! ### The sides of a clause -/
def plainB (xs : List Int) : Nat := xs.foldl (fun s x => if negF x = true then s else s ||| 2 ^ (varF x).toNat) 0
def negB (xs : List Int) : Nat := xs.foldl (fun s x => if negF x = true then s ||| 2 ^ (varF x).toNat else s) 0

theorem plain_step0 {xs : List Int} {k : Nat} {y : Int} (hy : xs[k]? = some y) (hn : negF y = true) : plainB (xs.take (k + 1)) = plainB (xs.take k) := by
  rw [List.take_add_one, hy, plainB, plainB, List.foldl_append]; simp [hn]
theorem plain_step1 {xs : List Int} {k : Nat} {y : Int} (hy : xs[k]? = some y) (hn : negF y = false) : plainB (xs.take (k + 1)) = plainB (xs.take k) ||| 2 ^ (varF y).toNat := by
  rw [List.take_add_one, hy, plainB, plainB, List.foldl_append]; simp [hn]
theorem neg_step0 {xs : List Int} {k : Nat} {y : Int} (hy : xs[k]? = some y) (hn : negF y = false) : negB (xs.take (k + 1)) = negB (xs.take k) := by
  rw [List.take_add_one, hy, negB, negB, List.foldl_append]; simp [hn]
theorem neg_step1 {xs : List Int} {k : Nat} {y : Int} (hy : xs[k]? = some y) (hn : negF y = true) : negB (xs.take (k + 1)) = negB (xs.take k) ||| 2 ^ (varF y).toNat := by
  rw [List.take_add_one, hy, negB, negB, List.foldl_append]; simp [hn]

theorem plain_fold (xs : List Int) (s v : Nat) : (xs.foldl (fun s x => if negF x = true then s else s ||| 2 ^ (varF x).toNat) s).testBit v = (s.testBit v || xs.any (fun x => !negF x && decide ((varF x).toNat = v))) := by
  induction xs generalizing s with
  | nil => simp
  | cons x xs ih =>
    rw [List.foldl_cons, ih, List.any_cons]
    cases h : negF x
    · simp [Nat.testBit_or, Nat.testBit_two_pow, Bool.or_assoc]
    · simp
theorem neg_fold (xs : List Int) (s v : Nat) : (xs.foldl (fun s x => if negF x = true then s ||| 2 ^ (varF x).toNat else s) s).testBit v = (s.testBit v || xs.any (fun x => negF x && decide ((varF x).toNat = v))) := by
  induction xs generalizing s with
  | nil => simp
  | cons x xs ih =>
    rw [List.foldl_cons, ih, List.any_cons]
    cases h : negF x
    · simp
    · simp [Nat.testBit_or, Nat.testBit_two_pow, Bool.or_assoc]

theorem plain_bit (xs : List Int) (v : Nat) : (plainB xs).testBit v = true ↔ ∃ x ∈ xs, negF x = false ∧ (varF x).toNat = v := by
  rw [plainB, plain_fold]; simp
theorem neg_bit (xs : List Int) (v : Nat) : (negB xs).testBit v = true ↔ ∃ x ∈ xs, negF x = true ∧ (varF x).toNat = v := by
  rw [negB, neg_fold]; simp

theorem good_lit {vars : Int} {xs : List Int} (h : badC vars xs = false) {x : Int} (hx : x ∈ xs) : 0 ≤ x ∧ varF x = x / 2 ∧ 0 ≤ varF x ∧ varF x < vars := by
  have := List.any_eq_false.1 h x hx
  simp only [badV, Bool.or_eq_true, decide_eq_true_eq, not_or] at this
  have h0 : ¬ x < 0 := by
    intro hn
    have : varF x = -1 := by simp [varF, hn]
    omega
  have e : varF x = x / 2 := by simp [varF, h0]
  omega

theorem good_take {vars : Int} {xs : List Int} (h : badC vars xs = false) (k : Nat) : badC vars (xs.take k) = false := by
  rw [badC, List.any_eq_false] at h ⊢
  exact fun x hx => h x (List.mem_of_mem_take hx)

theorem plain_lt {vars : Nat} {xs : List Int} (h : badC vars xs = false) : plainB xs < 2 ^ vars := by
  refine Nat.lt_pow_two_of_testBit _ fun i hi => ?_
  cases e : (plainB xs).testBit i
  · rfl
  · obtain ⟨x, hx, _, hv⟩ := (plain_bit xs i).1 e
    have := good_lit h hx
    omega
theorem neg_lt {vars : Nat} {xs : List Int} (h : badC vars xs = false) : negB xs < 2 ^ vars := by
  refine Nat.lt_pow_two_of_testBit _ fun i hi => ?_
  cases e : (negB xs).testBit i
  · rfl
  · obtain ⟨x, hx, _, hv⟩ := (neg_bit xs i).1 e
    have := good_lit h hx
    omega

theorem hol_bit {vars : Nat} {xs : List Int} (h : badC vars xs = false) {x : Int} (hx : x ∈ xs) (i : Nat) : holF x vars (fun v => i.testBit v) = (i.testBit (varF x).toNat != negF x) := by
  obtain ⟨h0, e, _, hl⟩ := good_lit h hx
  have hn : ¬ x < 0 := by omega
  rw [e] at hl
  simp only [holF, hn, if_false, truF, hl, decide_true, Bool.true_and, e]

/-- A clause fails where its plain variables are false and its negated ones true. -/
def FailAt (p n i : Nat) : Prop := (∀ v, p.testBit v = true → i.testBit v = false) ∧ ∀ v, n.testBit v = true → i.testBit v = true

theorem fail_iff {vars : Nat} {xs : List Int} (h : badC vars xs = false) (i : Nat) : missF vars (fun v => i.testBit v) xs = true ↔ FailAt (plainB xs) (negB xs) i := by
  have e : missF vars (fun v => i.testBit v) xs = true ↔ ∀ x ∈ xs, i.testBit (varF x).toNat = negF x := by
    simp only [missF, holdsF, Bool.not_eq_true', List.any_eq_false]
    constructor
    · intro g x hx
      have := g x hx
      rw [hol_bit h hx] at this
      simpa using this
    · intro g x hx
      rw [hol_bit h hx, g x hx]; simp
  rw [e]
  constructor
  · intro g
    refine ⟨fun v hv => ?_, fun v hv => ?_⟩
    · obtain ⟨x, hx, hn, rfl⟩ := (plain_bit xs v).1 hv
      rw [g x hx, hn]
    · obtain ⟨x, hx, hn, rfl⟩ := (neg_bit xs v).1 hv
      rw [g x hx, hn]
  · rintro ⟨g1, g2⟩ x hx
    cases hn : negF x
    · exact g1 _ ((plain_bit xs _).2 ⟨x, hx, hn, rfl⟩)
    · exact g2 _ ((neg_bit xs _).2 ⟨x, hx, hn, rfl⟩)

theorem fail_always {p n i : Nat} (h : p &&& n ≠ 0) : ¬ FailAt p n i := by
  rintro ⟨g1, g2⟩
  apply h
  refine Nat.eq_of_testBit_eq fun v => ?_
  rw [Nat.testBit_and, Nat.zero_testBit]
  cases h1 : p.testBit v
  · rfl
  · cases h2 : n.testBit v
    · rfl
    · have a := g1 v h1; have b := g2 v h2; rw [a] at b; simp at b

/-! ### All parts of the free variables -/
def freeB (a q : Nat) : Nat := a &&& (18446744073709551615 - q)

theorem free_bit {vars q : Nat} (hq : q < 18446744073709551616) (v : Nat) (hv : vars ≤ 64) : (freeB (2 ^ vars - 1) q).testBit v = (decide (v < vars) && !q.testBit v) := by
  have e : 18446744073709551615 - q = 2 ^ 64 - (q + 1) := by omega
  rw [freeB, Nat.testBit_and, Nat.testBit_two_pow_sub_one, e, Nat.testBit_two_pow_sub_succ (by omega)]
  by_cases h : v < vars
  · have : v < 64 := by omega
    simp [h, this]
  · simp [h]

theorem free_le (a q : Nat) : freeB a q ≤ a := Nat.and_le_left

/-- Whatever part of f lies below s lies at or below the part of f that is cut from s - 1. -/
theorem mask_next (f s : Nat) : ∀ t, s &&& f = s → t &&& f = t → t < s → t ≤ (s - 1) &&& f := by
  induction s using Nat.strongRecOn generalizing f with
  | _ s ih =>
    intro t hs ht hlt
    have ds : s / 2 &&& f / 2 = s / 2 := by rw [← Nat.and_div_two, hs]
    have dt : t / 2 &&& f / 2 = t / 2 := by rw [← Nat.and_div_two, ht]
    have dr : ((s - 1) &&& f) / 2 = (s - 1) / 2 &&& f / 2 := Nat.and_div_two
    by_cases ho : s % 2 = 1
    · have e1 : (s - 1) / 2 = s / 2 := by omega
      rw [e1, ds] at dr
      omega
    · have e1 : (s - 1) / 2 = s / 2 - 1 := by omega
      rw [e1] at dr
      have := ih (s / 2) (by omega) (f / 2) (t / 2) ds dt (by omega)
      rw [← dr] at this
      by_cases hb : t % 2 = 1
      · have hf : f % 2 = 1 := by rw [← ht] at hb; exact (Nat.and_mod_two_eq_one.1 hb).2
        have : ((s - 1) &&& f) % 2 = 1 := Nat.and_mod_two_eq_one.2 ⟨by omega, hf⟩
        omega
      · omega

theorem mask_sub (f s : Nat) : ((s - 1) &&& f) &&& f = (s - 1) &&& f := by rw [Nat.and_assoc, Nat.and_self]

/-- Which lists of truths are marked by all parts of the free variables. -/
theorem mark_iff {vars p n i : Nat} (hv : vars ≤ 64) (hp : p < 2 ^ vars) (hn : n < 2 ^ vars) (h0 : p &&& n = 0) (hi : i < 2 ^ vars) :
    (∃ t, t &&& freeB (2 ^ vars - 1) (p ||| n) = t ∧ i = n ||| t) ↔ FailAt p n i := by
  have h64 : 2 ^ vars ≤ 2 ^ 64 := Nat.pow_le_pow_right (by omega) hv
  have hq : p ||| n < 18446744073709551616 := Nat.lt_of_lt_of_le (Nat.or_lt_two_pow hp hn) h64
  have fb := fun v => free_bit (vars := vars) hq v hv
  have hpn : ∀ v, p.testBit v = true → n.testBit v = false := by
    intro v h
    have := congrArg (fun z => z.testBit v) h0
    simp only [Nat.testBit_and, h, Bool.true_and, Nat.zero_testBit] at this
    exact this
  constructor
  · rintro ⟨t, ht, rfl⟩
    refine ⟨fun v h => ?_, fun v h => ?_⟩
    · rw [Nat.testBit_or, hpn v h, Bool.false_or, ← ht, Nat.testBit_and, fb v, Nat.testBit_or, h]; simp
    · rw [Nat.testBit_or, h]; rfl
  · rintro ⟨g1, g2⟩
    refine ⟨i &&& freeB (2 ^ vars - 1) (p ||| n), by rw [Nat.and_assoc, Nat.and_self], ?_⟩
    refine Nat.eq_of_testBit_eq fun v => ?_
    rw [Nat.testBit_or, Nat.testBit_and, fb v, Nat.testBit_or]
    cases h1 : n.testBit v
    · cases h2 : p.testBit v
      · by_cases hvv : v < vars
        · simp [hvv]
        · have : i.testBit v = false := Nat.testBit_lt_two_pow (Nat.lt_of_lt_of_le hi (Nat.pow_le_pow_right (by omega) (by omega)))
          simp [this]
      · rw [g1 v h2]; simp
    · rw [g2 v h1]; rfl

/-! ### One clause more, that a literal holds -/
theorem ok_more (vars : Nat) (xss : List (List Int)) (x : Int) (i : Nat) : okF vars (xss ++ [[x]]) i = (okF vars xss i && holF x vars (fun v => i.testBit v)) := by
  simp only [okF, List.any_append, List.any_cons, List.any_nil, Bool.or_false, missF, holdsF, Bool.not_or, Bool.not_not]

theorem hol_other {x : Int} (h0 : 0 ≤ x) (he : x % 2 = 0) (len : Nat) (B : Nat → Bool) : holF (x + 1) len B = !(holF x len B) := by
  have h1 : ¬ x < 0 := by omega
  have h2 : ¬ x + 1 < 0 := by omega
  have e : (x + 1) / 2 = x / 2 := by omega
  have n1 : negF x = false := by simp [negF]; omega
  have n2 : negF (x + 1) = true := by simp [negF]; omega
  simp only [holF, h1, h2, if_false, e, n1, n2]
  cases truF (x / 2) len B <;> rfl

theorem parts_sum (vars : Nat) (xss : List (List Int)) (x : Int) (h0 : 0 ≤ x) (he : x % 2 = 0) (n : Nat) : cntF (okF vars (xss ++ [[x]])) n + cntF (okF vars (xss ++ [[x + 1]])) n = cntF (okF vars xss) n := by
  induction n with
  | zero => rfl
  | succ k ih =>
    have e1 := ok_more vars xss x k
    have e2 := ok_more vars xss (x + 1) k
    rw [hol_other h0 he] at e2
    cases ho : okF vars xss k
    · rw [ho, Bool.false_and] at e1 e2
      rw [cnt_no e1, cnt_no e2, cnt_no ho, ih]
    · rw [ho, Bool.true_and] at e1 e2
      rw [cnt_yes ho]
      cases hh : holF x vars (fun v => k.testBit v)
      · rw [hh] at e1 e2
        rw [cnt_no e1, cnt_yes (by simpa using e2)]; omega
      · rw [hh] at e1 e2
        rw [cnt_yes e1, cnt_no (by simpa using e2)]; omega

end Go.Proofs.Ytogjafmpoepgbaa
