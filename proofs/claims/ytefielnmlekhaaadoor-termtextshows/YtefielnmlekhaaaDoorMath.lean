/-
  Words of 1 to 64 bits, and terms, as plain data: no Go text here.
-/
import Derived.Test.YtefielnmlekhaaaDoorProg
import Derived.WalkKit
namespace Go.Proofs.YtefielnmlekhaaaDoor
open Go.RowKit
set_option linter.unusedVariables false

def mskF (w : Int) : Int := if 1 ≤ w ∧ w ≤ 64 then 2 ^ w.toNat - 1 else 0
def cutF (w x : Int) : Int := if 1 ≤ w ∧ w ≤ 64 then x % 2 ^ w.toNat else 0

/-! ### powers -/
theorem pos2 (n : Nat) : (0 : Int) < 2 ^ n := Int.pow_pos (by decide)
theorem pow_cast (n : Nat) : ((2 ^ n : Nat) : Int) = (2 : Int) ^ n := by simp
theorem pow_top : (2 : Int) ^ 64 = 18446744073709551616 := by decide
theorem pow_split (n : Nat) (h : n ≤ 64) : (2 : Int) ^ n * 2 ^ (64 - n) = 18446744073709551616 := by
  rw [← Int.pow_add, show n + (64 - n) = 64 by omega]; rfl
theorem pow_le (n m : Nat) (h : n ≤ m) : (2 : Int) ^ n ≤ 2 ^ m := by
  rw [← pow_cast, ← pow_cast]; exact_mod_cast Nat.pow_le_pow_right (by decide) h
theorem pow_le64 (n : Nat) (h : n ≤ 64) : (2 : Int) ^ n ≤ 18446744073709551616 := by
  have := pow_le n 64 h; rwa [pow_top] at this
theorem pow_succ' (n : Nat) : (2 : Int) ^ (n + 1) = 2 * 2 ^ n := by rw [Int.pow_succ]; omega
theorem pow_pred (n : Nat) (h : 1 ≤ n) : (2 : Int) ^ n = 2 * 2 ^ (n - 1) := by
  have := pow_succ' (n - 1); rwa [show n - 1 + 1 = n by omega] at this

theorem width_nat {w : Int} (h1 : 1 ≤ w) (h2 : w ≤ 64) : ∃ n : Nat, w = (n : Int) ∧ 1 ≤ n ∧ n ≤ 64 :=
  ⟨w.toNat, by omega, by omega, by omega⟩

/-! ### the mask -/
theorem msk_yes (n : Nat) (h1 : 1 ≤ n) (h2 : n ≤ 64) : mskF (n : Int) = 2 ^ n - 1 := by
  unfold mskF; rw [if_pos ⟨by omega, by omega⟩]; simp
theorem msk_no {w : Int} (h : ¬ (1 ≤ w ∧ w ≤ 64)) : mskF w = 0 := by unfold mskF; rw [if_neg h]
theorem cut_yes (n : Nat) (x : Int) (h1 : 1 ≤ n) (h2 : n ≤ 64) : cutF (n : Int) x = x % 2 ^ n := by
  unfold cutF; rw [if_pos ⟨by omega, by omega⟩]; simp
theorem cut_no {w x : Int} (h : ¬ (1 ≤ w ∧ w ≤ 64)) : cutF w x = 0 := by unfold cutF; rw [if_neg h]

theorem mask_eq (w : Int) (h1 : 1 ≤ w) (h2 : w ≤ 64) : 18446744073709551615 / (2 : Int) ^ (64 - w).toNat = mskF w := by
  obtain ⟨n, rfl, hn1, hn2⟩ := width_nat h1 h2
  rw [msk_yes n hn1 hn2, show (64 - (n : Int)).toNat = 64 - n by omega]
  have h := pow_split n hn2
  have p := pos2 (64 - n)
  have q := pos2 n
  have e : (18446744073709551615 : Int) = (2 ^ (64 - n) - 1) + (2 ^ n - 1) * 2 ^ (64 - n) := by
    rw [Int.sub_mul, h]; omega
  rw [e, Int.add_mul_ediv_right _ _ (by omega), Int.ediv_eq_zero_of_lt (by omega) (by omega)]
  omega

theorem mask_step (k : Nat) (h : k < 64) : IntKind.u64.wrap (IntKind.u64.wrap (((2 : Int) ^ k - 1) * 2) + 1) = 2 ^ (k + 1) - 1 := by
  have h1 := pos2 k
  have h2 := pow_le (k + 1) 64 (by omega)
  have h3 := pow_succ' k
  rw [pow_top] at h2
  rw [IntKind.wrap_u64, IntKind.wrap_u64]
  omega

theorem msk_bd (w : Int) : 0 ≤ mskF w ∧ mskF w < 18446744073709551616 := by
  by_cases h : 1 ≤ w ∧ w ≤ 64
  · obtain ⟨n, rfl, hn1, hn2⟩ := width_nat h.1 h.2
    rw [msk_yes n hn1 hn2]
    have := pos2 n; have := pow_le64 n hn2; omega
  · rw [msk_no h]; omega

/-! ### a cut -/
theorem cut_eq (w x : Int) (x0 : 0 ≤ x) (x1 : x < 18446744073709551616) : bits .and .u64 x (mskF w) = cutF w x := by
  have hb := msk_bd w
  rw [u64_and x (mskF w) x0 x1 hb.1 hb.2]
  by_cases h : 1 ≤ w ∧ w ≤ 64
  · obtain ⟨n, rfl, hn1, hn2⟩ := width_nat h.1 h.2
    rw [msk_yes n hn1 hn2, cut_yes n x hn1 hn2]
    have e : ((2 : Int) ^ n - 1).toNat = 2 ^ n - 1 := by rw [← pow_cast]; omega
    obtain ⟨X, rfl⟩ := Int.eq_ofNat_of_zero_le x0
    rw [e, Int.toNat_natCast, Nat.and_two_pow_sub_one_eq_mod]
    simp
  · rw [msk_no h, cut_no h]; simp

theorem cut_bd (w x : Int) : 0 ≤ cutF w x ∧ cutF w x < 18446744073709551616 := by
  by_cases h : 1 ≤ w ∧ w ≤ 64
  · obtain ⟨n, rfl, hn1, hn2⟩ := width_nat h.1 h.2
    rw [cut_yes n x hn1 hn2]
    have p := pos2 n; have := pow_le64 n hn2
    have := Int.emod_nonneg x (show (2 : Int) ^ n ≠ 0 by omega)
    have := Int.emod_lt_of_pos x p
    omega
  · rw [cut_no h]; omega

/-! ### terms -/
structure Nd where
  op : Int
  wd : Int
  a : Int
  b : Int
  c : Int
  v : Int

def eqN (x y : Nd) : Bool := x.op == y.op && (x.wd == y.wd && (x.a == y.a && (x.b == y.b && (x.c == y.c && x.v == y.v))))

theorem eqN_iff (x y : Nd) : eqN x y = true ↔ x = y := by
  cases x; cases y
  simp [eqN]

theorem eqN_self (x : Nd) : eqN x x = true := (eqN_iff x x).2 rfl
theorem eqN_ne {x y : Nd} (h : x ≠ y) : eqN x y = false := by
  cases e : eqN x y
  · rfl
  · exact absurd ((eqN_iff x y).1 e) h

/-- All fields of a term are numbers of their kinds. -/
def Ft (n : Nd) : Prop :=
  (-9223372036854775808 ≤ n.op ∧ n.op ≤ 9223372036854775807) ∧ (-9223372036854775808 ≤ n.wd ∧ n.wd ≤ 9223372036854775807) ∧ (-9223372036854775808 ≤ n.a ∧ n.a ≤ 9223372036854775807) ∧
  (-9223372036854775808 ≤ n.b ∧ n.b ≤ 9223372036854775807) ∧ (-9223372036854775808 ≤ n.c ∧ n.c ≤ 9223372036854775807) ∧ (0 ≤ n.v ∧ n.v < 18446744073709551616)

/-- The place of a term; the length, where it is not there. -/
def fnd : List Nd → Nd → Nat
  | [], _ => 0
  | x :: xs, n => if eqN x n then 0 else fnd xs n + 1

theorem fnd_le (N : List Nd) (n : Nd) : fnd N n ≤ N.length := by
  induction N with
  | nil => simp [fnd]
  | cons x xs ih => simp only [fnd]; split <;> simp <;> omega

theorem fnd_lt {N : List Nd} {n : Nd} : fnd N n < N.length ↔ n ∈ N := by
  induction N with
  | nil => simp [fnd]
  | cons x xs ih =>
    simp only [fnd, List.mem_cons, List.length_cons]
    by_cases h : x = n
    · subst h; simp [eqN_self]
    · rw [eqN_ne h]
      constructor
      · intro g; simp at g; exact .inr (ih.1 g)
      · rintro (g | g)
        · exact absurd g.symm h
        · have := ih.2 g; simp; omega

theorem fnd_at {N : List Nd} {n : Nd} (h : n ∈ N) : N[fnd N n]? = some n := by
  induction N with
  | nil => simp at h
  | cons x xs ih =>
    simp only [fnd]
    by_cases g : x = n
    · subst g; simp [eqN_self]
    · rw [eqN_ne g]
      simp
      exact ih ((List.mem_cons.1 h).resolve_left (fun e => g e.symm))

theorem fnd_before {N : List Nd} {n : Nd} {i : Nat} {m : Nd} (hi : i < fnd N n) (hm : N[i]? = some m) : m ≠ n := by
  induction N generalizing i with
  | nil => simp at hm
  | cons x xs ih =>
    simp only [fnd] at hi
    by_cases g : x = n
    · subst g; rw [eqN_self] at hi; simp at hi
    · rw [eqN_ne g] at hi
      simp at hi
      cases i with
      | zero => simp at hm; subst hm; exact g
      | succ i => exact ih (i := i) (by omega) (by simpa using hm)

theorem fnd_first {N : List Nd} {n : Nd} {i : Nat} (hi : N[i]? = some n) (h : ∀ j, j < i → ∀ m, N[j]? = some m → m ≠ n) : fnd N n = i := by
  have hm : n ∈ N := List.mem_of_getElem? hi
  have h1 := fnd_at hm
  rcases Nat.lt_trichotomy (fnd N n) i with g | g | g
  · exact absurd rfl (h _ g _ h1)
  · exact g
  · exact absurd rfl (fnd_before g hi)

theorem fnd_snoc_old {N : List Nd} {n m : Nd} (h : n ∈ N) : fnd (N ++ [m]) n = fnd N n := by
  have h1 := fnd_at h
  have h2 := fnd_lt.2 h
  refine fnd_first (by rw [List.getElem?_append_left h2]; exact h1) fun j hj k hk => ?_
  rw [List.getElem?_append_left (by omega)] at hk
  exact fnd_before hj hk

theorem fnd_snoc_new {N : List Nd} {n : Nd} (h : n ∉ N) : fnd (N ++ [n]) n = N.length := by
  refine fnd_first (by simp) fun j hj k hk => ?_
  rw [List.getElem?_append_left (by omega)] at hk
  intro e; subst e
  exact h (List.mem_of_getElem? hk)

/-! ### what a call makes -/
/-- What a call tells where it makes nothing (a number, an error), or the term that it asks for. -/
abbrev Plan := Sum (Int × Int) Nd

def mkN (M : Nat) (N : List Nd) (n : Nd) : List Nd := if fnd N n < N.length then N else if N.length < M then N ++ [n] else N
def mkI (M : Nat) (N : List Nd) (n : Nd) : Int := if fnd N n < N.length then fnd N n else if N.length < M then N.length else 0
def mkE (M : Nat) (N : List Nd) (n : Nd) : Int := if fnd N n < N.length then 0 else if N.length < M then 0 else 8

def resN (M : Nat) (N : List Nd) : Plan → List Nd
  | .inl _ => N
  | .inr n => mkN M N n
def resI (M : Nat) (N : List Nd) : Plan → Int
  | .inl p => p.1
  | .inr n => mkI M N n
def resE (M : Nat) (N : List Nd) : Plan → Int
  | .inl p => p.2
  | .inr n => mkE M N n

def isN (N : List Nd) (a : Int) : Bool := decide (0 ≤ a) && decide (a < N.length)
def z6 : Nd := ⟨0, 0, 0, 0, 0, 0⟩
def ndA (N : List Nd) (a : Int) : Nd := if isN N a then N.getD a.toNat z6 else z6
def wdF (N : List Nd) (a : Int) : Int := (ndA N a).wd
/-- The width of the variable i; 0, if it is not there. -/
def vwF : List Nd → Int → Int
  | [], _ => 0
  | x :: xs, i => if x.op == 21 && x.a == i then x.wd else vwF xs i

def fitsB (w : Int) : Bool := decide (1 ≤ w) && decide (w ≤ 64)
def constP (w x : Int) : Plan := if fitsB w then .inr ⟨20, w, 0, 0, 0, cutF w x⟩ else .inl (0, 2)
def varP (N : List Nd) (w i : Int) : Plan :=
  if fitsB w then (if decide (i < 0) || decide (256 ≤ i) then .inl (0, 10) else if (vwF N i != 0) && (vwF N i != w) then .inl (0, 2) else .inr ⟨21, w, i, 0, 0, 0⟩) else .inl (0, 2)
def unP (N : List Nd) (op a : Int) : Plan := if (op != 15) && (op != 16) then .inl (0, 3) else if isN N a then .inr ⟨op, wdF N a, a, 0, 0, 0⟩ else .inl (0, 11)
def opW (op w : Int) : Int := if 12 ≤ op then 1 else w
def binP (N : List Nd) (op a b : Int) : Plan :=
  if decide (op < 1) || decide (14 < op) then .inl (0, 3) else if isN N a && isN N b then (if wdF N a != wdF N b then .inl (0, 2) else .inr ⟨op, opW op (wdF N a), a, b, 0, 0⟩) else .inl (0, 11)
def iteP (N : List Nd) (c a b : Int) : Plan :=
  if isN N c && (isN N a && isN N b) then (if (wdF N c != 1) || (wdF N a != wdF N b) then .inl (0, 2) else .inr ⟨22, wdF N a, c, a, b, 0⟩) else .inl (0, 11)
def extP (N : List Nd) (a lo w : Int) : Plan :=
  if isN N a then (if decide (w < 1) || (decide (lo < 0) || decide (wdF N a - w < lo)) then .inl (0, 2) else .inr ⟨23, w, a, lo, 0, 0⟩) else .inl (0, 11)
def catP (N : List Nd) (a b : Int) : Plan :=
  if isN N a && isN N b then (if decide (64 < wdF N a + wdF N b) then .inl (0, 2) else .inr ⟨24, wdF N a + wdF N b, a, b, 0, 0⟩) else .inl (0, 11)
def widP (N : List Nd) (a w : Int) (s : Bool) : Plan :=
  if isN N a then (if decide (w < wdF N a) || decide (64 < w) then .inl (0, 2) else if w == wdF N a then .inl (a, 0) else if s then .inr ⟨26, w, a, 0, 0, 0⟩ else .inr ⟨25, w, a, 0, 0, 0⟩) else .inl (0, 11)

structure Dd where
  kd : Int
  w : Int
  a : Int
  b : Int
  c : Int
  x : Int

def DdFt (d : Dd) : Prop :=
  (-9223372036854775808 ≤ d.w ∧ d.w ≤ 9223372036854775807) ∧ (-9223372036854775808 ≤ d.a ∧ d.a ≤ 9223372036854775807) ∧ (-9223372036854775808 ≤ d.b ∧ d.b ≤ 9223372036854775807) ∧
  (-9223372036854775808 ≤ d.c ∧ d.c ≤ 9223372036854775807) ∧ (0 ≤ d.x ∧ d.x < 18446744073709551616)

def oddB (b : Int) : Bool := b.tmod 2 != 0

def planD (N : List Nd) (d : Dd) : Plan :=
  if d.kd = 0 then constP d.w d.x else if d.kd = 1 then varP N d.w d.a else if d.kd = 2 then unP N d.a d.b else if d.kd = 3 then binP N d.a d.b d.c
  else if d.kd = 4 then iteP N d.a d.b d.c else if d.kd = 5 then extP N d.a d.b d.w else if d.kd = 6 then catP N d.a d.b else widP N d.a d.w (oddB d.b)

/-! ### what holds of all terms -/
structure Gd (N : List Nd) : Prop where
  ft : ∀ n ∈ N, Ft n
  wd : ∀ n ∈ N, 1 ≤ n.wd ∧ n.wd ≤ 64
  vr : ∀ n ∈ N, n.op = 21 → 0 ≤ n.a ∧ n.a < 256
  one : ∀ n ∈ N, ∀ m ∈ N, n.op = 21 → m.op = 21 → n.a = m.a → n.wd = m.wd

theorem Gd.nil : Gd [] := ⟨fun n h => by simp at h, fun n h => by simp at h, fun n h => by simp at h, fun n h => by simp at h⟩

theorem vwF_mem {N : List Nd} {i : Int} (h : vwF N i ≠ 0) : ∃ n ∈ N, n.op = 21 ∧ n.a = i ∧ n.wd = vwF N i := by
  induction N with
  | nil => simp [vwF] at h
  | cons x xs ih =>
    simp only [vwF] at h ⊢
    by_cases g : x.op = 21 ∧ x.a = i
    · refine ⟨x, by simp, g.1, g.2, ?_⟩
      simp [g.1, g.2]
    · have e : (x.op == 21 && x.a == i) = false := by
        cases hh : (x.op == 21 && x.a == i)
        · rfl
        · simp at hh; exact absurd hh g
      rw [e] at h ⊢
      simp at h
      obtain ⟨n, hn, r⟩ := ih h
      exact ⟨n, by simp [hn], by simpa using r⟩

theorem vwF_of {N : List Nd} (g : Gd N) {n : Nd} (h : n ∈ N) (h1 : n.op = 21) : vwF N n.a = n.wd := by
  have key : vwF N n.a ≠ 0 := by
    have gw := g.wd
    clear g
    induction N with
    | nil => simp at h
    | cons x xs ih =>
      simp only [vwF]
      by_cases e : x.op = 21 ∧ x.a = n.a
      · have := gw x (by simp)
        simp [e.1, e.2]; omega
      · have e' : (x.op == 21 && x.a == n.a) = false := by
          cases hh : (x.op == 21 && x.a == n.a)
          · rfl
          · simp at hh; exact absurd hh e
        rw [e']
        simp
        rcases List.mem_cons.1 h with h | h
        · subst h; exact absurd ⟨h1, rfl⟩ e
        · exact ih h (fun m hm => gw m (by simp [hm]))
  obtain ⟨m, hm, m1, m2, m3⟩ := vwF_mem key
  rw [← m3]
  exact g.one m hm n h m1 h1 m2

theorem vwF_found {N : List Nd} {i : Int} (h : ∃ m ∈ N, m.op = 21 ∧ m.a = i) (n : Nd) : vwF (N ++ [n]) i = vwF N i := by
  induction N with
  | nil => obtain ⟨m, hm, _⟩ := h; simp at hm
  | cons x xs ih =>
    simp only [List.cons_append, vwF]
    by_cases e : x.op = 21 ∧ x.a = i
    · simp [e.1, e.2]
    · rw [ih]
      obtain ⟨m, hm, r⟩ := h
      rcases List.mem_cons.1 hm with g | g
      · subst g; exact absurd r e
      · exact ⟨m, g, r⟩

theorem vwF_none {N : List Nd} {i : Int} (h : ∀ m ∈ N, ¬ (m.op = 21 ∧ m.a = i)) (n : Nd) : vwF N i = 0 ∧ vwF (N ++ [n]) i = if n.op == 21 && n.a == i then n.wd else 0 := by
  induction N with
  | nil => simp [vwF]
  | cons x xs ih =>
    have e := h x (by simp)
    have e' : (x.op == 21 && x.a == i) = false := by
      cases hh : (x.op == 21 && x.a == i)
      · rfl
      · simp at hh; exact absurd hh e
    simp only [List.cons_append, vwF]
    rw [e']
    exact ih fun m hm => h m (by simp [hm])

theorem vwF_other {N : List Nd} {n : Nd} (h : n.op ≠ 21) (i : Int) : vwF (N ++ [n]) i = vwF N i := by
  by_cases g : ∃ m ∈ N, m.op = 21 ∧ m.a = i
  · exact vwF_found g n
  · have := vwF_none (N := N) (i := i) (fun m hm e => g ⟨m, hm, e⟩) n
    rw [this.1, this.2]
    simp [h]

theorem mkN_cases (M : Nat) (N : List Nd) (n : Nd) : (n ∈ N ∧ mkN M N n = N ∧ mkI M N n = fnd N n ∧ mkE M N n = 0) ∨ (n ∉ N ∧ N.length < M ∧ mkN M N n = N ++ [n] ∧ mkI M N n = N.length ∧ mkE M N n = 0) ∨ (n ∉ N ∧ ¬ N.length < M ∧ mkN M N n = N ∧ mkI M N n = 0 ∧ mkE M N n = 8) := by
  by_cases h : fnd N n < N.length
  · exact .inl ⟨fnd_lt.1 h, by simp [mkN, h], by simp [mkI, h], by simp [mkE, h]⟩
  · have h' : n ∉ N := fun e => h (fnd_lt.2 e)
    by_cases g : N.length < M
    · exact .inr (.inl ⟨h', g, by simp [mkN, h, g], by simp [mkI, h, g], by simp [mkE, h, g]⟩)
    · exact .inr (.inr ⟨h', g, by simp [mkN, h, g], by simp [mkI, h, g], by simp [mkE, h, g]⟩)

theorem mkN_other {M : Nat} {N : List Nd} {n : Nd} (h : n.op ≠ 21) (i : Int) : vwF (mkN M N n) i = vwF N i := by
  rcases mkN_cases M N n with ⟨_, e, _⟩ | ⟨_, _, e, _⟩ | ⟨_, _, e, _⟩ <;> rw [e]
  exact vwF_other h i

theorem mkN_len {M : Nat} {N : List Nd} {n : Nd} (h : N.length ≤ M) : (mkN M N n).length ≤ M := by
  rcases mkN_cases M N n with ⟨_, e, _⟩ | ⟨_, g, e, _⟩ | ⟨_, _, e, _⟩ <;> rw [e]
  · exact h
  · simp; omega
  · exact h

theorem resN_len {M : Nat} {N : List Nd} {p : Plan} (h : N.length ≤ M) : (resN M N p).length ≤ M := by
  cases p
  · exact h
  · exact mkN_len h

theorem gd_mk {M : Nat} {N : List Nd} {n : Nd} (g : Gd N) (hf : Ft n) (hw : 1 ≤ n.wd ∧ n.wd ≤ 64) (hv : n.op = 21 → 0 ≤ n.a ∧ n.a < 256 ∧ (vwF N n.a = 0 ∨ vwF N n.a = n.wd)) : Gd (mkN M N n) := by
  rcases mkN_cases M N n with ⟨_, e, _⟩ | ⟨_, _, e, _⟩ | ⟨_, _, e, _⟩ <;> rw [e]
  · exact g
  · have key : ∀ m ∈ N, m.op = 21 → n.op = 21 → m.a = n.a → m.wd = n.wd := by
      intro m hm h1 h2 h3
      have hmw := vwF_of g hm h1
      have := g.wd m hm
      rw [h3] at hmw
      rcases (hv h2).2.2 with k | k <;> omega
    refine ⟨fun m hm => ?_, fun m hm => ?_, fun m hm h => ?_, fun m hm k hk h1 h2 h3 => ?_⟩
    · rcases List.mem_append.1 hm with hm | hm
      · exact g.ft m hm
      · simp at hm; subst hm; exact hf
    · rcases List.mem_append.1 hm with hm | hm
      · exact g.wd m hm
      · simp at hm; subst hm; exact hw
    · rcases List.mem_append.1 hm with hm | hm
      · exact g.vr m hm h
      · simp at hm; subst hm; exact ⟨(hv h).1, (hv h).2.1⟩
    · rcases List.mem_append.1 hm with pm | pm <;> rcases List.mem_append.1 hk with pk | pk
      · exact g.one m pm k pk h1 h2 h3
      · simp at pk; subst pk; exact key m pm h1 h2 h3
      · simp at pm; subst pm; exact (key k pk h2 h1 h3.symm).symm
      · simp at pm pk; subst pm pk; rfl
  · exact g

theorem isN_yes {N : List Nd} {a : Int} (h : isN N a = true) : ∃ i : Nat, a = i ∧ i < N.length := by
  simp [isN] at h
  exact ⟨a.toNat, by omega, by omega⟩
theorem isN_nat {N : List Nd} {i : Nat} (h : i < N.length) : isN N i = true := by simp [isN]; omega
theorem ndA_nat {N : List Nd} {i : Nat} (h : i < N.length) : N[i]? = some (ndA N i) := by
  simp [ndA, isN_nat h, h]
theorem ndA_mem {N : List Nd} {a : Int} (h : isN N a = true) : ndA N a ∈ N := by
  obtain ⟨i, rfl, hi⟩ := isN_yes h
  exact List.mem_of_getElem? (ndA_nat hi)
theorem ndA_no {N : List Nd} {a : Int} (h : isN N a = false) : ndA N a = z6 := by simp [ndA, h]
theorem wdF_no {N : List Nd} {a : Int} (h : isN N a = false) : wdF N a = 0 := by simp [wdF, ndA_no h, z6]
theorem wdF_bd {N : List Nd} (g : Gd N) (a : Int) : 0 ≤ wdF N a ∧ wdF N a ≤ 64 := by
  cases h : isN N a
  · rw [wdF_no h]; omega
  · have := g.wd _ (ndA_mem h); unfold wdF; omega
theorem wdF_in {N : List Nd} (g : Gd N) {a : Int} (h : isN N a = true) : 1 ≤ wdF N a ∧ wdF N a ≤ 64 := g.wd _ (ndA_mem h)

end Go.Proofs.YtefielnmlekhaaaDoor
