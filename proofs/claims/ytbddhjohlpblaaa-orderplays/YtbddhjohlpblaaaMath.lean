/-
  Who comes first, and heaps, as plain functions of numbers.
-/
import Derived.Handy
import Derived.Below
namespace Go.Proofs.Ytbddhjohlpblaaa
open Go.RowKit

/-- v comes ahead of u: it has more activity, or as much, and the lesser number. -/
def ahd (a : Int → Int) (v u : Int) : Bool := decide (a u < a v ∨ (a v = a u ∧ v < u))

theorem ahd_yes {a : Int → Int} {v u : Int} : ahd a v u = true ↔ a u < a v ∨ (a v = a u ∧ v < u) := by simp [ahd]
theorem ahd_no {a : Int → Int} {v u : Int} : ahd a v u = false ↔ a v < a u ∨ (a v = a u ∧ u ≤ v) := by
  simp only [ahd, decide_eq_false_iff_not]; omega

theorem ahd_rev {a : Int → Int} {v u : Int} (h : ahd a v u = true) : ahd a u v = false := by rw [ahd_yes] at h; rw [ahd_no]; omega
theorem no_no {a : Int → Int} {x y z : Int} (h : ahd a x y = false) (g : ahd a y z = false) : ahd a x z = false := by rw [ahd_no] at *; omega
theorem no_yes {a : Int → Int} {x y z : Int} (h : ahd a x y = false) (g : ahd a z y = true) : ahd a x z = false := no_no h (ahd_rev g)
theorem ahd_self (a : Int → Int) (v : Int) : ahd a v v = false := by rw [ahd_no]; omega

def par (k : Nat) : Nat := (k - 1) / 2

def Heap (a : Int → Int) (m : Nat) (h : Nat → Int) (lo : Nat) : Prop := ∀ k, 0 < k → k < m → lo ≤ par k → ahd a (h k) (h (par k)) = false

/-- A heap but for the one at i, which may be too far ahead. -/
def Sunk (a : Int → Int) (m : Nat) (h : Nat → Int) (lo i : Nat) : Prop :=
  (∀ k, 0 < k → k < m → lo ≤ par k → par k ≠ i → ahd a (h k) (h (par k)) = false) ∧
  (∀ k, 0 < k → k < m → par k = i → 0 < i → lo ≤ par i → ahd a (h k) (h (par i)) = false)

/-- A heap but for the one at i. -/
def Broken (a : Int → Int) (m : Nat) (h : Nat → Int) (i : Nat) : Prop :=
  (∀ k, 0 < k → k < m → k ≠ i → par k ≠ i → ahd a (h k) (h (par k)) = false) ∧
  (∀ k, 0 < k → k < m → par k = i → 0 < i → ahd a (h k) (h (par i)) = false)

def Kids (a : Int → Int) (m : Nat) (h : Nat → Int) (i : Nat) : Prop := ∀ k, 0 < k → k < m → par k = i → ahd a (h k) (h i) = false

def sw (h : Nat → Int) (i j : Nat) : Nat → Int := fun k => if k = i then h j else if k = j then h i else h k

theorem sw_l (h : Nat → Int) (i j : Nat) : sw h i j i = h j := by simp [sw]
theorem sw_r (h : Nat → Int) (i j : Nat) : sw h i j j = h i := by
  by_cases e : j = i
  · subst e; simp [sw]
  · simp [sw, e]
theorem sw_o (h : Nat → Int) {i j k : Nat} (h1 : k ≠ i) (h2 : k ≠ j) : sw h i j k = h k := by simp [sw, h1, h2]

theorem par_lt {k : Nat} (h : 0 < k) : par k < k := by unfold par; omega

theorem broken_step {a : Int → Int} {m : Nat} {h : Nat → Int} {i : Nat} (b : Broken a m h i) (h0 : 0 < i) (hm : i < m) : Broken a m (sw h i (par i)) (par i) := by
  have hp := par_lt h0
  refine ⟨fun k k0 km k1 k2 => ?_, fun k k0 km k1 k2 => ?_⟩
  · have hki : k ≠ i := fun e => k2 (by rw [e])
    rw [sw_o h hki k1]
    by_cases e : par k = i
    · rw [e, sw_l]; exact b.2 k k0 km e h0
    · rw [sw_o h e k2]; exact b.1 k k0 km hki e
  · have hpp := par_lt k2
    rw [sw_o h (k := par (par i)) (by omega) (by omega)]
    have hup := b.1 (par i) k2 (by omega) (by omega) (by omega)
    by_cases e : k = i
    · subst e; rw [sw_l]; exact hup
    · have hkp := par_lt k0
      rw [sw_o h e (by omega)]
      have := b.1 k k0 km e (by omega)
      rw [k1] at this
      exact no_no this hup

theorem kids_step {a : Int → Int} {m : Nat} {h : Nat → Int} {i : Nat} (b : Broken a m h i) (h0 : 0 < i) (hy : ahd a (h i) (h (par i)) = true) : Kids a m (sw h i (par i)) (par i) := by
  have hp := par_lt h0
  intro k k0 km kp
  rw [sw_r]
  by_cases e : k = i
  · subst e; rw [sw_l]; exact ahd_rev hy
  · have hkp := par_lt k0
    rw [sw_o h e (by omega)]
    have := b.1 k k0 km e (by omega)
    rw [kp] at this
    exact no_yes this hy

theorem rise_end {a : Int → Int} {m : Nat} {h : Nat → Int} {i : Nat} (b : Broken a m h i) (hy : i = 0 ∨ ahd a (h i) (h (par i)) = false) : Sunk a m h 0 i := by
  refine ⟨fun k k0 km _ k1 => ?_, fun k k0 km k1 k2 _ => b.2 k k0 km k1 k2⟩
  by_cases e : k = i
  · subst e
    rcases hy with hy | hy
    · omega
    · exact hy
  · exact b.1 k k0 km e k1

theorem sunk_heap {a : Int → Int} {m : Nat} {h : Nat → Int} {lo i : Nat} (s : Sunk a m h lo i) (c : Kids a m h i) : Heap a m h lo := by
  intro k k0 km kl
  by_cases e : par k = i
  · have := c k k0 km e
    rw [e]; exact this
  · exact s.1 k k0 km kl e

theorem heap_sunk {a : Int → Int} {m : Nat} {h : Nat → Int} {lo : Nat} (s : Heap a m h lo) (i : Nat) : Sunk a m h lo i := by
  refine ⟨fun k k0 km kl _ => s k k0 km kl, fun k k0 km k1 i0 hl => ?_⟩
  have hp := par_lt i0
  have hk := par_lt k0
  have h1 := s k k0 km (by omega)
  rw [k1] at h1
  exact no_no h1 (s i i0 (by omega) hl)

theorem sink_step {a : Int → Int} {m : Nat} {h : Nat → Int} {lo i d : Nat} (s : Sunk a m h lo i) (hl : lo ≤ i) (d0 : 0 < d) (dm : d < m) (dp : par d = i)
    (best : ∀ k, 0 < k → k < m → par k = i → ahd a (h k) (h d) = false) (hn : ahd a (h i) (h d) = false) : Sunk a m (sw h i d) lo d := by
  have hd := par_lt d0
  refine ⟨fun k k0 km kl k1 => ?_, fun k k0 km k1 _ _ => ?_⟩
  · have hk := par_lt k0
    by_cases e : par k = i
    · rw [e, sw_l]
      by_cases e2 : k = d
      · subst e2; rw [sw_r]; exact hn
      · rw [sw_o h (by omega) e2]; exact best k k0 km e
    · rw [sw_o h e k1]
      by_cases e2 : k = i
      · subst e2; rw [sw_l]; exact s.2 d d0 dm dp k0 kl
      · have e3 : k ≠ d := fun q => e (by rw [q]; exact dp)
        rw [sw_o h e2 e3]; exact s.1 k k0 km kl e
  · have hk := par_lt k0
    rw [dp, sw_l, sw_o h (by omega) (by omega)]
    have := s.1 k k0 km (by omega) (by omega)
    rw [k1] at this
    exact this

theorem kids_of {a : Int → Int} {m : Nat} {h : Nat → Int} {i d : Nat} (best : ∀ k, 0 < k → k < m → par k = i → ahd a (h k) (h d) = false) (hy : ahd a (h i) (h d) = true) : Kids a m h i :=
  fun k k0 km kp => no_yes (best k k0 km kp) hy

theorem kids_none {a : Int → Int} {m : Nat} {h : Nat → Int} {i : Nat} (hm : m ≤ 2 * i + 1) : Kids a m h i := by
  intro k k0 km kp
  unfold par at kp
  omega

theorem kid_one {m i k : Nat} (hm : m ≤ 2 * i + 2) (k0 : 0 < k) (km : k < m) (kp : par k = i) : k = 2 * i + 1 := by unfold par at kp; omega
theorem kid_two {i k : Nat} (k0 : 0 < k) (kp : par k = i) : k = 2 * i + 1 ∨ k = 2 * i + 2 := by unfold par at kp; omega
theorem par_one (i : Nat) : par (2 * i + 1) = i := by unfold par; omega
theorem par_two (i : Nat) : par (2 * i + 2) = i := by unfold par; omega

theorem heap_top {a : Int → Int} {m : Nat} {h : Nat → Int} (s : Heap a m h 0) : ∀ k, k < m → ahd a (h k) (h 0) = false := by
  intro k
  induction k using Nat.strongRecOn with
  | ind k ih =>
    intro km
    by_cases e : k = 0
    · subst e; exact ahd_self _ _
    · have hp := par_lt (k := k) (by omega)
      exact no_no (s k (by omega) km (Nat.zero_le _)) (ih _ hp (by omega))

theorem heap_half {a : Int → Int} {m : Nat} {h : Nat → Int} : Heap a m h (m / 2) := by
  intro k k0 km kl
  unfold par at kl
  omega

/-- From what lies behind i on. -/
theorem heap_next {a : Int → Int} {m : Nat} {h : Nat → Int} {i : Nat} (s : Heap a m h (i + 1)) : Sunk a m h i i := by
  refine ⟨fun k k0 km kl k1 => s k k0 km (by omega), fun k k0 km k1 i0 hl => ?_⟩
  have := par_lt i0
  omega

/-- The activity of one has turned. -/
theorem bumped {a a' : Int → Int} {m : Nat} {h : Nat → Int} {i : Nat} (s : Heap a m h 0) (hi : i < m) (inj : ∀ k l, k < m → l < m → h k = h l → k = l) (ha : ∀ v, v ≠ h i → a' v = a v) : Broken a' m h i := by
  have hz : ∀ k, k < m → k ≠ i → a' (h k) = a (h k) := fun k km e => ha _ (fun q => e (inj k i km hi q))
  have same : ∀ k l, k < m → l < m → k ≠ i → l ≠ i → ahd a' (h k) (h l) = ahd a (h k) (h l) := by
    intro k l km lm ki li
    simp only [ahd, hz k km ki, hz l lm li]
  refine ⟨fun k k0 km k1 k2 => ?_, fun k k0 km k1 i0 => ?_⟩
  · have := par_lt k0
    rw [same k _ km (by omega) k1 k2]
    exact s k k0 km (Nat.zero_le _)
  · have h1 := par_lt k0
    have h2 := par_lt i0
    rw [same k _ km (by omega) (by omega) (by omega)]
    have := s k k0 km (Nat.zero_le _)
    rw [k1] at this
    exact no_no this (s i i0 hi (Nat.zero_le _))

/-- One more at the end. -/
theorem pushed {a : Int → Int} {m : Nat} {h h' : Nat → Int} (s : Heap a m h 0) (hh : ∀ k, k < m → h' k = h k) : Broken a (m + 1) h' m := by
  refine ⟨fun k k0 km k1 k2 => ?_, fun k k0 km k1 i0 => ?_⟩
  · have := par_lt k0
    rw [hh k (by omega), hh _ (by omega)]
    exact s k k0 (by omega) (Nat.zero_le _)
  · have := par_lt k0
    omega

/-- The first and the last changed places, and the last is left out. -/
theorem popped {a : Int → Int} {m : Nat} {h : Nat → Int} (s : Heap a (m + 1) h 0) : Sunk a m (sw h 0 m) 0 0 := by
  refine ⟨fun k k0 km _ k1 => ?_, fun k k0 km k1 i0 _ => by omega⟩
  have := par_lt k0
  rw [sw_o h (by omega) (by omega), sw_o h k1 (by omega)]
  exact s k k0 (by omega) (Nat.zero_le _)

/-! ### Places -/
/-- Where each is that waits, counted from 1 on; 0 is nowhere. -/
def Pl (n m : Nat) (h p : Nat → Int) : Prop :=
  (∀ i, i < m → 0 ≤ h i ∧ h i < n ∧ p (h i).toNat = i + 1) ∧ (∀ v : Nat, v < n → p v ≠ 0 → ∃ i, i < m ∧ h i = v)

theorem Pl.inj {n m : Nat} {h p : Nat → Int} (s : Pl n m h p) : ∀ k l, k < m → l < m → h k = h l → k = l := by
  intro k l km lm e
  have h1 := (s.1 k km).2.2
  have h2 := (s.1 l lm).2.2
  rw [e] at h1
  omega

def In (m : Nat) (h : Nat → Int) (x : Int) : Prop := ∃ i, i < m ∧ h i = x

theorem in_sw {m : Nat} {h : Nat → Int} {i j : Nat} (hi : i < m) (hj : j < m) (x : Int) : In m (sw h i j) x ↔ In m h x := by
  constructor
  · rintro ⟨k, km, rfl⟩
    by_cases e : k = i
    · subst e; rw [sw_l]; exact ⟨j, hj, rfl⟩
    · by_cases e2 : k = j
      · subst e2; rw [sw_r]; exact ⟨i, hi, rfl⟩
      · rw [sw_o h e e2]; exact ⟨k, km, rfl⟩
  · rintro ⟨k, km, rfl⟩
    by_cases e : k = i
    · subst e; exact ⟨j, hj, sw_r _ _ _⟩
    · by_cases e2 : k = j
      · subst e2; exact ⟨i, hi, sw_l _ _ _⟩
      · exact ⟨k, km, sw_o h e e2⟩

theorem pl_sw {n m : Nat} {h p p' : Nat → Int} {i j : Nat} (s : Pl n m h p) (hi : i < m) (hj : j < m) (h1 : p' (h j).toNat = i + 1) (h2 : p' (h i).toNat = j + 1) (h3 : ∀ v, v ≠ (h j).toNat → v ≠ (h i).toNat → p' v = p v) :
    Pl n m (sw h i j) p' := by
  refine ⟨fun k km => ?_, fun v vn hv => ?_⟩
  · by_cases e : k = i
    · subst e; rw [sw_l]; have := s.1 j hj; exact ⟨this.1, this.2.1, h1⟩
    · by_cases e2 : k = j
      · subst e2; rw [sw_r]; have := s.1 i hi; exact ⟨this.1, this.2.1, h2⟩
      · rw [sw_o h e e2]
        have := s.1 k km
        refine ⟨this.1, this.2.1, ?_⟩
        rw [h3]
        · exact this.2.2
        · intro q
          have hjj := (s.1 j hj).1
          exact e2 (s.inj k j km hj (by omega))
        · intro q
          have hii := (s.1 i hi).1
          exact e (s.inj k i km hi (by omega))
  · by_cases e : v = (h j).toNat
    · have := (s.1 j hj).1
      exact ⟨i, hi, by rw [sw_l]; omega⟩
    · by_cases e2 : v = (h i).toNat
      · have := (s.1 i hi).1
        exact ⟨j, hj, by rw [sw_r]; omega⟩
      · rw [h3 v e e2] at hv
        exact (in_sw hi hj _).2 (s.2 v vn hv)

/-- One more. -/
theorem pl_push {n m : Nat} {h h' p p' : Nat → Int} {v : Nat} (s : Pl n m h p) (hv : v < n) (h0 : p v = 0) (hh : ∀ k, k < m → h' k = h k) (hm : h' m = v) (h1 : p' v = m + 1) (h2 : ∀ u, u ≠ v → p' u = p u) : Pl n (m + 1) h' p' := by
  refine ⟨fun k km => ?_, fun u un hu => ?_⟩
  · by_cases e : k = m
    · subst e; rw [hm]; exact ⟨by omega, by omega, by simpa using h1⟩
    · have hk := s.1 k (by omega)
      rw [hh k (by omega)]
      refine ⟨hk.1, hk.2.1, ?_⟩
      rw [h2]
      · exact hk.2.2
      · intro q
        rw [q] at hk
        have := hk.2.2
        omega
  · by_cases e : u = v
    · subst e; exact ⟨m, by omega, hm⟩
    · rw [h2 u e] at hu
      obtain ⟨i, hi, e2⟩ := s.2 u un hu
      exact ⟨i, by omega, by rw [hh i hi]; exact e2⟩

/-- The last is left out. -/
theorem pl_pop {n m : Nat} {h h' p p' : Nat → Int} {v : Nat} (s : Pl n (m + 1) h p) (hm : h m = v) (hh : ∀ k, k < m → h' k = h k) (h1 : p' v = 0) (h2 : ∀ u, u ≠ v → p' u = p u) : Pl n m h' p' := by
  refine ⟨fun k km => ?_, fun u un hu => ?_⟩
  · have hk := s.1 k (by omega)
    rw [hh k km]
    refine ⟨hk.1, hk.2.1, ?_⟩
    rw [h2]
    · exact hk.2.2
    · intro q
      have := s.inj k m (by omega) (by omega) (by rw [hm]; omega)
      omega
  · have e : u ≠ v := fun q => hu (by rw [q]; exact h1)
    rw [h2 u e] at hu
    obtain ⟨i, hi, e2⟩ := s.2 u un hu
    have : i ≠ m := fun q => e (by rw [q, hm] at e2; omega)
    exact ⟨i, by omega, by rw [hh i (by omega)]; exact e2⟩

theorem len_sub : ∀ {a b : List Int}, a.Nodup → (∀ x ∈ a, x ∈ b) → a.length ≤ b.length := by
  intro a
  induction a with
  | nil => intro b _ _; simp
  | cons x a ih =>
    intro b hn hs
    rw [List.nodup_cons] at hn
    have hx : x ∈ b := hs x (by simp)
    have := ih (b := b.erase x) hn.2 (fun y hy => by
      have hne : y ≠ x := fun e => hn.1 (e ▸ hy)
      exact (List.mem_erase_of_ne hne).2 (hs y (by simp [hy])))
    rw [List.length_erase_of_mem hx] at this
    have := List.length_pos_of_mem hx
    simp only [List.length_cons]; omega

theorem Pl.len {n m : Nat} {h p : Nat → Int} (s : Pl n m h p) : m ≤ n := by
  have hn : ((List.range m).map h).Nodup := by
    rw [List.nodup_iff_pairwise_ne, List.pairwise_map]
    refine List.Pairwise.imp_of_mem (R := (· ≠ ·)) (fun {x y} hx hy hxy e => hxy (s.inj x y (List.mem_range.1 hx) (List.mem_range.1 hy) e)) ?_
    exact List.nodup_range
  have := len_sub (b := (List.range n).map Int.ofNat) hn (fun x hx => by
    obtain ⟨i, hi, rfl⟩ := List.mem_map.1 hx
    have h1 := s.1 i (List.mem_range.1 hi)
    exact List.mem_map.2 ⟨(h i).toNat, List.mem_range.2 (by omega), by simp only [Int.ofNat_eq_natCast]; omega⟩)
  simpa using this

/-! ### Lists -/
def fn (l : List Int) : Nat → Int := fun k => l.getD k 0

theorem fn_at {l : List Int} {k : Nat} (h : k < l.length) : l[k]? = some (fn l k) := by simp [fn, h]
theorem fn_set {l : List Int} {i : Nat} (h : i < l.length) (x : Int) (k : Nat) : fn (l.set i x) k = if k = i then x else fn l k := by
  simp only [fn, List.getD_eq_getElem?_getD, List.getElem?_set]
  by_cases e : i = k
  · subst e; simp [h]
  · rw [if_neg e, if_neg (fun q => e q.symm)]
theorem fn_out {l : List Int} {k : Nat} (h : l.length ≤ k) : fn l k = 0 := by simp [fn, h]

theorem fn_swap {l : List Int} {i j : Nat} (hi : i < l.length) (hj : j < l.length) : fn ((l.set i (fn l j)).set j (fn l i)) = sw (fn l) i j := by
  funext k
  rw [fn_set (by simpa using hj), fn_set hi]
  by_cases e : k = i
  · subst e
    by_cases e2 : k = j
    · subst e2; simp [sw]
    · rw [if_neg e2, if_pos rfl, sw_l]
  · by_cases e2 : k = j
    · subst e2; rw [if_pos rfl, sw_r]
    · rw [if_neg e2, if_neg e, sw_o _ e e2]

theorem fn_swap' {l : List Int} {i j : Nat} (hi : i < l.length) (hj : j < l.length) : fn ((l.set j (fn l i)).set i (fn l j)) = sw (fn l) i j := by
  rw [fn_swap hj hi]
  funext k
  by_cases e : k = i
  · subst e; rw [sw_l, sw_r]
  · by_cases e2 : k = j
    · subst e2; rw [sw_l, sw_r]
    · rw [sw_o _ e e2, sw_o _ e2 e]

theorem wf_i64 {a : Int} (h : (Lit.int .i64 a).wf = true) : -9223372036854775808 ≤ a ∧ a ≤ 9223372036854775807 := by
  simp [Lit.wf, IntKind.min, IntKind.max, IntKind.signed, IntKind.bits] at h; omega

end Go.Proofs.Ytbddhjohlpblaaa
