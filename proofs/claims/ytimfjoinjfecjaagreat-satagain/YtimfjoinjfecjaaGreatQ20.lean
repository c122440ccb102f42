/-
  An order in memory (stage 8), laid together: Math, Mem, Looks, Swap, Rise.
-/
import Derived.Handy
import Derived.Below
import Derived.Test.YtimfjoinjfecjaaGreatProg
import Derived.WalkKit
import Derived.Deep.RegionWith
import Derived.BigQuiet
import Derived.LoopTactic
import Derived.Laws.AppendOwnNone
import Derived.Laws.OwnMore
import Derived.Laws.MakeOwn
import Derived.Laws.CopyOwn
import Derived.OwnWalk
import Derived.BigRegion

namespace Go.Proofs.YtimfjoinjfecjaaGreat.Od
open Go.RowKit

/-- v comes ahead of u: it has more activity, or as much, and the lesser number. -/
def ahd (a : Int → Int) (v u : Int) : Bool := decide (a u < a v ∨ (a v = a u ∧ v < u))

theorem ahd_yes {a : Int → Int} {v u : Int} : ahd a v u = true ↔ a u < a v ∨ (a v = a u ∧ v < u) := by simp [ahd]
theorem ahd_no {a : Int → Int} {v u : Int} : ahd a v u = false ↔ a v < a u ∨ (a v = a u ∧ u ≤ v) := by
  simp only [ahd, decide_eq_false_iff_not]; omega

theorem ahd_rev {a : Int → Int} {v u : Int} (h : ahd a v u = true) : ahd a u v = false := by rw [ahd_yes] at h; rw [ahd_no]; omega
theorem no_no {a : Int → Int} {x y z : Int} (h : ahd a x y = false) (g : ahd a y z = false) : ahd a x z = false := by rw [ahd_no] at *; omega
theorem no_yes {a : Int → Int} {x y z : Int} (h : ahd a x y = false) (g : ahd a z y = true) : ahd a x z = false := no_no h (ahd_rev g)
theorem ahd_self (a : Int → Int) (v : Int) : ahd a v v = false := by rw [ahd_no]; omega

def par (k : Nat) : Nat := (k - 1) / 2

def Heap (a : Int → Int) (m : Nat) (h : Nat → Int) (lo : Nat) : Prop := ∀ k, 0 < k → k < m → lo ≤ par k → ahd a (h k) (h (par k)) = false

/-- A heap but for the one at i, which may be too far ahead. -/
def Sunk (a : Int → Int) (m : Nat) (h : Nat → Int) (lo i : Nat) : Prop :=
  (∀ k, 0 < k → k < m → lo ≤ par k → par k ≠ i → ahd a (h k) (h (par k)) = false) ∧
  (∀ k, 0 < k → k < m → par k = i → 0 < i → lo ≤ par i → ahd a (h k) (h (par i)) = false)

/-- A heap but for the one at i. -/
def Broken (a : Int → Int) (m : Nat) (h : Nat → Int) (i : Nat) : Prop :=
  (∀ k, 0 < k → k < m → k ≠ i → par k ≠ i → ahd a (h k) (h (par k)) = false) ∧
  (∀ k, 0 < k → k < m → par k = i → 0 < i → ahd a (h k) (h (par i)) = false)

def Kids (a : Int → Int) (m : Nat) (h : Nat → Int) (i : Nat) : Prop := ∀ k, 0 < k → k < m → par k = i → ahd a (h k) (h i) = false

def sw (h : Nat → Int) (i j : Nat) : Nat → Int := fun k => if k = i then h j else if k = j then h i else h k

theorem sw_l (h : Nat → Int) (i j : Nat) : sw h i j i = h j := by simp [sw]
theorem sw_r (h : Nat → Int) (i j : Nat) : sw h i j j = h i := by
  by_cases e : j = i
  · subst e; simp [sw]
  · simp [sw, e]
theorem sw_o (h : Nat → Int) {i j k : Nat} (h1 : k ≠ i) (h2 : k ≠ j) : sw h i j k = h k := by simp [sw, h1, h2]

theorem par_lt {k : Nat} (h : 0 < k) : par k < k := by unfold par; omega

theorem broken_step {a : Int → Int} {m : Nat} {h : Nat → Int} {i : Nat} (b : Broken a m h i) (h0 : 0 < i) (hm : i < m) : Broken a m (sw h i (par i)) (par i) := by
  have hp := par_lt h0
  refine ⟨fun k k0 km k1 k2 => ?_, fun k k0 km k1 k2 => ?_⟩
  · have hki : k ≠ i := fun e => k2 (by rw [e])
    rw [sw_o h hki k1]
    by_cases e : par k = i
    · rw [e, sw_l]; exact b.2 k k0 km e h0
    · rw [sw_o h e k2]; exact b.1 k k0 km hki e
  · have hpp := par_lt k2
    rw [sw_o h (k := par (par i)) (by omega) (by omega)]
    have hup := b.1 (par i) k2 (by omega) (by omega) (by omega)
    by_cases e : k = i
    · subst e; rw [sw_l]; exact hup
    · have hkp := par_lt k0
      rw [sw_o h e (by omega)]
      have := b.1 k k0 km e (by omega)
      rw [k1] at this
      exact no_no this hup

theorem kids_step {a : Int → Int} {m : Nat} {h : Nat → Int} {i : Nat} (b : Broken a m h i) (h0 : 0 < i) (hy : ahd a (h i) (h (par i)) = true) : Kids a m (sw h i (par i)) (par i) := by
  have hp := par_lt h0
  intro k k0 km kp
  rw [sw_r]
  by_cases e : k = i
  · subst e; rw [sw_l]; exact ahd_rev hy
  · have hkp := par_lt k0
    rw [sw_o h e (by omega)]
    have := b.1 k k0 km e (by omega)
    rw [kp] at this
    exact no_yes this hy

theorem rise_end {a : Int → Int} {m : Nat} {h : Nat → Int} {i : Nat} (b : Broken a m h i) (hy : i = 0 ∨ ahd a (h i) (h (par i)) = false) : Sunk a m h 0 i := by
  refine ⟨fun k k0 km _ k1 => ?_, fun k k0 km k1 k2 _ => b.2 k k0 km k1 k2⟩
  by_cases e : k = i
  · subst e
    rcases hy with hy | hy
    · omega
    · exact hy
  · exact b.1 k k0 km e k1

theorem sunk_heap {a : Int → Int} {m : Nat} {h : Nat → Int} {lo i : Nat} (s : Sunk a m h lo i) (c : Kids a m h i) : Heap a m h lo := by
  intro k k0 km kl
  by_cases e : par k = i
  · have := c k k0 km e
    rw [e]; exact this
  · exact s.1 k k0 km kl e

theorem sink_step {a : Int → Int} {m : Nat} {h : Nat → Int} {lo i d : Nat} (s : Sunk a m h lo i) (hl : lo ≤ i) (d0 : 0 < d) (dm : d < m) (dp : par d = i)
    (best : ∀ k, 0 < k → k < m → par k = i → ahd a (h k) (h d) = false) (hn : ahd a (h i) (h d) = false) : Sunk a m (sw h i d) lo d := by
  have hd := par_lt d0
  refine ⟨fun k k0 km kl k1 => ?_, fun k k0 km k1 _ _ => ?_⟩
  · have hk := par_lt k0
    by_cases e : par k = i
    · rw [e, sw_l]
      by_cases e2 : k = d
      · subst e2; rw [sw_r]; exact hn
      · rw [sw_o h (by omega) e2]; exact best k k0 km e
    · rw [sw_o h e k1]
      by_cases e2 : k = i
      · subst e2; rw [sw_l]; exact s.2 d d0 dm dp k0 kl
      · have e3 : k ≠ d := fun q => e (by rw [q]; exact dp)
        rw [sw_o h e2 e3]; exact s.1 k k0 km kl e
  · have hk := par_lt k0
    rw [dp, sw_l, sw_o h (by omega) (by omega)]
    have := s.1 k k0 km (by omega) (by omega)
    rw [k1] at this
    exact this

theorem kids_of {a : Int → Int} {m : Nat} {h : Nat → Int} {i d : Nat} (best : ∀ k, 0 < k → k < m → par k = i → ahd a (h k) (h d) = false) (hy : ahd a (h i) (h d) = true) : Kids a m h i :=
  fun k k0 km kp => no_yes (best k k0 km kp) hy

theorem kids_none {a : Int → Int} {m : Nat} {h : Nat → Int} {i : Nat} (hm : m ≤ 2 * i + 1) : Kids a m h i := by
  intro k k0 km kp
  unfold par at kp
  omega

theorem kid_one {m i k : Nat} (hm : m ≤ 2 * i + 2) (k0 : 0 < k) (km : k < m) (kp : par k = i) : k = 2 * i + 1 := by unfold par at kp; omega
theorem kid_two {i k : Nat} (k0 : 0 < k) (kp : par k = i) : k = 2 * i + 1 ∨ k = 2 * i + 2 := by unfold par at kp; omega
theorem par_one (i : Nat) : par (2 * i + 1) = i := by unfold par; omega
theorem par_two (i : Nat) : par (2 * i + 2) = i := by unfold par; omega

theorem heap_top {a : Int → Int} {m : Nat} {h : Nat → Int} (s : Heap a m h 0) : ∀ k, k < m → ahd a (h k) (h 0) = false := by
  intro k
  induction k using Nat.strongRecOn with
  | ind k ih =>
    intro km
    by_cases e : k = 0
    · subst e; exact ahd_self _ _
    · have hp := par_lt (k := k) (by omega)
      exact no_no (s k (by omega) km (Nat.zero_le _)) (ih _ hp (by omega))

theorem heap_half {a : Int → Int} {m : Nat} {h : Nat → Int} : Heap a m h (m / 2) := by
  intro k k0 km kl
  unfold par at kl
  omega

/-- From what lies behind i on. -/
theorem heap_next {a : Int → Int} {m : Nat} {h : Nat → Int} {i : Nat} (s : Heap a m h (i + 1)) : Sunk a m h i i := by
  refine ⟨fun k k0 km kl k1 => s k k0 km (by omega), fun k k0 km k1 i0 hl => ?_⟩
  have := par_lt i0
  omega

/-- The activity of one has turned. -/
theorem bumped {a a' : Int → Int} {m : Nat} {h : Nat → Int} {i : Nat} (s : Heap a m h 0) (hi : i < m) (inj : ∀ k l, k < m → l < m → h k = h l → k = l) (ha : ∀ v, v ≠ h i → a' v = a v) : Broken a' m h i := by
  have hz : ∀ k, k < m → k ≠ i → a' (h k) = a (h k) := fun k km e => ha _ (fun q => e (inj k i km hi q))
  have same : ∀ k l, k < m → l < m → k ≠ i → l ≠ i → ahd a' (h k) (h l) = ahd a (h k) (h l) := by
    intro k l km lm ki li
    simp only [ahd, hz k km ki, hz l lm li]
  refine ⟨fun k k0 km k1 k2 => ?_, fun k k0 km k1 i0 => ?_⟩
  · have := par_lt k0
    rw [same k _ km (by omega) k1 k2]
    exact s k k0 km (Nat.zero_le _)
  · have h1 := par_lt k0
    have h2 := par_lt i0
    rw [same k _ km (by omega) (by omega) (by omega)]
    have := s k k0 km (Nat.zero_le _)
    rw [k1] at this
    exact no_no this (s i i0 hi (Nat.zero_le _))

/-- One more at the end. -/
theorem pushed {a : Int → Int} {m : Nat} {h h' : Nat → Int} (s : Heap a m h 0) (hh : ∀ k, k < m → h' k = h k) : Broken a (m + 1) h' m := by
  refine ⟨fun k k0 km k1 k2 => ?_, fun k k0 km k1 i0 => ?_⟩
  · have := par_lt k0
    rw [hh k (by omega), hh _ (by omega)]
    exact s k k0 (by omega) (Nat.zero_le _)
  · have := par_lt k0
    omega

/-- The first and the last changed places, and the last is left out. -/
theorem popped {a : Int → Int} {m : Nat} {h : Nat → Int} (s : Heap a (m + 1) h 0) : Sunk a m (sw h 0 m) 0 0 := by
  refine ⟨fun k k0 km _ k1 => ?_, fun k k0 km k1 i0 _ => by omega⟩
  have := par_lt k0
  rw [sw_o h (by omega) (by omega), sw_o h k1 (by omega)]
  exact s k k0 (by omega) (Nat.zero_le _)

/-! ### Places -/
/-- Where each is that waits, counted from 1 on; 0 is nowhere. -/
def Pl (n m : Nat) (h p : Nat → Int) : Prop :=
  (∀ i, i < m → 0 ≤ h i ∧ h i < n ∧ p (h i).toNat = i + 1) ∧ (∀ v : Nat, v < n → p v ≠ 0 → ∃ i, i < m ∧ h i = v)

theorem Pl.inj {n m : Nat} {h p : Nat → Int} (s : Pl n m h p) : ∀ k l, k < m → l < m → h k = h l → k = l := by
  intro k l km lm e
  have h1 := (s.1 k km).2.2
  have h2 := (s.1 l lm).2.2
  rw [e] at h1
  omega

def In (m : Nat) (h : Nat → Int) (x : Int) : Prop := ∃ i, i < m ∧ h i = x

theorem in_sw {m : Nat} {h : Nat → Int} {i j : Nat} (hi : i < m) (hj : j < m) (x : Int) : In m (sw h i j) x ↔ In m h x := by
  constructor
  · rintro ⟨k, km, rfl⟩
    by_cases e : k = i
    · subst e; rw [sw_l]; exact ⟨j, hj, rfl⟩
    · by_cases e2 : k = j
      · subst e2; rw [sw_r]; exact ⟨i, hi, rfl⟩
      · rw [sw_o h e e2]; exact ⟨k, km, rfl⟩
  · rintro ⟨k, km, rfl⟩
    by_cases e : k = i
    · subst e; exact ⟨j, hj, sw_r _ _ _⟩
    · by_cases e2 : k = j
      · subst e2; exact ⟨i, hi, sw_l _ _ _⟩
      · exact ⟨k, km, sw_o h e e2⟩

theorem pl_sw {n m : Nat} {h p p' : Nat → Int} {i j : Nat} (s : Pl n m h p) (hi : i < m) (hj : j < m) (h1 : p' (h j).toNat = i + 1) (h2 : p' (h i).toNat = j + 1) (h3 : ∀ v, v ≠ (h j).toNat → v ≠ (h i).toNat → p' v = p v) :
    Pl n m (sw h i j) p' := by
  refine ⟨fun k km => ?_, fun v vn hv => ?_⟩
  · by_cases e : k = i
    · subst e; rw [sw_l]; have := s.1 j hj; exact ⟨this.1, this.2.1, h1⟩
    · by_cases e2 : k = j
      · subst e2; rw [sw_r]; have := s.1 i hi; exact ⟨this.1, this.2.1, h2⟩
      · rw [sw_o h e e2]
        have := s.1 k km
        refine ⟨this.1, this.2.1, ?_⟩
        rw [h3]
        · exact this.2.2
        · intro q
          have hjj := (s.1 j hj).1
          exact e2 (s.inj k j km hj (by omega))
        · intro q
          have hii := (s.1 i hi).1
          exact e (s.inj k i km hi (by omega))
  · by_cases e : v = (h j).toNat
    · have := (s.1 j hj).1
      exact ⟨i, hi, by rw [sw_l]; omega⟩
    · by_cases e2 : v = (h i).toNat
      · have := (s.1 i hi).1
        exact ⟨j, hj, by rw [sw_r]; omega⟩
      · rw [h3 v e e2] at hv
        exact (in_sw hi hj _).2 (s.2 v vn hv)

/-- One more. -/
theorem pl_push {n m : Nat} {h h' p p' : Nat → Int} {v : Nat} (s : Pl n m h p) (hv : v < n) (h0 : p v = 0) (hh : ∀ k, k < m → h' k = h k) (hm : h' m = v) (h1 : p' v = m + 1) (h2 : ∀ u, u ≠ v → p' u = p u) : Pl n (m + 1) h' p' := by
  refine ⟨fun k km => ?_, fun u un hu => ?_⟩
  · by_cases e : k = m
    · subst e; rw [hm]; exact ⟨by omega, by omega, by simpa using h1⟩
    · have hk := s.1 k (by omega)
      rw [hh k (by omega)]
      refine ⟨hk.1, hk.2.1, ?_⟩
      rw [h2]
      · exact hk.2.2
      · intro q
        rw [q] at hk
        have := hk.2.2
        omega
  · by_cases e : u = v
    · subst e; exact ⟨m, by omega, hm⟩
    · rw [h2 u e] at hu
      obtain ⟨i, hi, e2⟩ := s.2 u un hu
      exact ⟨i, by omega, by rw [hh i hi]; exact e2⟩

/-- The last is left out. -/
theorem pl_pop {n m : Nat} {h h' p p' : Nat → Int} {v : Nat} (s : Pl n (m + 1) h p) (hm : h m = v) (hh : ∀ k, k < m → h' k = h k) (h1 : p' v = 0) (h2 : ∀ u, u ≠ v → p' u = p u) : Pl n m h' p' := by
  refine ⟨fun k km => ?_, fun u un hu => ?_⟩
  · have hk := s.1 k (by omega)
    rw [hh k km]
    refine ⟨hk.1, hk.2.1, ?_⟩
    rw [h2]
    · exact hk.2.2
    · intro q
      have := s.inj k m (by omega) (by omega) (by rw [hm]; omega)
      omega
  · have e : u ≠ v := fun q => hu (by rw [q]; exact h1)
    rw [h2 u e] at hu
    obtain ⟨i, hi, e2⟩ := s.2 u un hu
    have : i ≠ m := fun q => e (by rw [q, hm] at e2; omega)
    exact ⟨i, by omega, by rw [hh i (by omega)]; exact e2⟩

theorem len_sub : ∀ {a b : List Int}, a.Nodup → (∀ x ∈ a, x ∈ b) → a.length ≤ b.length := by
  intro a
  induction a with
  | nil => intro b _ _; simp
  | cons x a ih =>
    intro b hn hs
    rw [List.nodup_cons] at hn
    have hx : x ∈ b := hs x (by simp)
    have := ih (b := b.erase x) hn.2 (fun y hy => by
      have hne : y ≠ x := fun e => hn.1 (e ▸ hy)
      exact (List.mem_erase_of_ne hne).2 (hs y (by simp [hy])))
    rw [List.length_erase_of_mem hx] at this
    have := List.length_pos_of_mem hx
    simp only [List.length_cons]; omega

theorem Pl.len {n m : Nat} {h p : Nat → Int} (s : Pl n m h p) : m ≤ n := by
  have hn : ((List.range m).map h).Nodup := by
    rw [List.nodup_iff_pairwise_ne, List.pairwise_map]
    refine List.Pairwise.imp_of_mem (R := (· ≠ ·)) (fun {x y} hx hy hxy e => hxy (s.inj x y (List.mem_range.1 hx) (List.mem_range.1 hy) e)) ?_
    exact List.nodup_range
  have := len_sub (b := (List.range n).map Int.ofNat) hn (fun x hx => by
    obtain ⟨i, hi, rfl⟩ := List.mem_map.1 hx
    have h1 := s.1 i (List.mem_range.1 hi)
    exact List.mem_map.2 ⟨(h i).toNat, List.mem_range.2 (by omega), by simp only [Int.ofNat_eq_natCast]; omega⟩)
  simpa using this

/-! ### Lists -/
def fn (l : List Int) : Nat → Int := fun k => l.getD k 0

theorem fn_at {l : List Int} {k : Nat} (h : k < l.length) : l[k]? = some (fn l k) := by simp [fn, h]
theorem fn_set {l : List Int} {i : Nat} (h : i < l.length) (x : Int) (k : Nat) : fn (l.set i x) k = if k = i then x else fn l k := by
  simp only [fn, List.getD_eq_getElem?_getD, List.getElem?_set]
  by_cases e : i = k
  · subst e; simp [h]
  · rw [if_neg e, if_neg (fun q => e q.symm)]
theorem fn_swap {l : List Int} {i j : Nat} (hi : i < l.length) (hj : j < l.length) : fn ((l.set i (fn l j)).set j (fn l i)) = sw (fn l) i j := by
  funext k
  rw [fn_set (by simpa using hj), fn_set hi]
  by_cases e : k = i
  · subst e
    by_cases e2 : k = j
    · subst e2; simp [sw]
    · rw [if_neg e2, if_pos rfl, sw_l]
  · by_cases e2 : k = j
    · subst e2; rw [if_pos rfl, sw_r]
    · rw [if_neg e2, if_neg e, sw_o _ e e2]

theorem wf_i64 {a : Int} (h : (Lit.int .i64 a).wf = true) : -9223372036854775808 ≤ a ∧ a ≤ 9223372036854775807 := by
  simp [Lit.wf, IntKind.min, IntKind.max, IntKind.signed, IntKind.bits] at h; omega

end Go.Proofs.YtimfjoinjfecjaaGreat.Od

namespace Go.Proofs.YtimfjoinjfecjaaGreat.Od
open Go.RowKit
set_option linter.unusedVariables false

theorem hid {p : Prop} (h : p) : Hid p := h

theorem Tryz.info3 : (Tryz.prog.info? 3).map (fun i => (i.zero, i.size, i.bytes)) = some (some (.int .i64 0), 1, 8) := by kernel_rfl

theorem Below.next {w w1 w2 : World} (h : Below w.heap.size w w1) (k : Below w1.heap.size w1 w2) : Below w.heap.size w w2 :=
  h.trans (k.mono h.size)

theorem cell_lt {w : World} {p : Addr} {v : Value} (h : w.cell? p = some v) : p.block < w.heap.size := by
  by_cases hp : p.block < w.heap.size
  · exact hp
  · exfalso
    have e : w.heap[p.block]? = none := by simp; omega
    simp [World.cell?, e] at h

/-! ### Blocks -/
theorem grown_set (w : World) (a : Addr) (v : Value) : w.grownBy (w.setCell a v) (some a.block) :=
  ⟨rfl, rfl, rfl, by simp [World.setCell], fun k _ hne => Below.heap_setCell _ _ _ _ (fun e => hne (by rw [e]))⟩

theorem grown_new (w : World) (o : Obj) (r : Option Nat) : w.grownBy (w.alloc o) r := World.grownBy_alloc w o r

theorem grown_two {a b c : World} {r : Option Nat} (h : a.grownBy b r) (g : b.grownBy c r) : a.grownBy c r :=
  ⟨g.os.trans h.os, g.tape.trans h.tape, g.output.trans h.output, Nat.le_trans h.size g.size, fun k hk hn => (g.block k (Nat.lt_of_lt_of_le hk h.size) hn).trans (h.block k hk hn)⟩

theorem below_grown {w w' : World} {B : Nat} {r : Option Nat} (g : w.grownBy w' r) (hr : ∀ j, r = some j → B ≤ j) (hB : B ≤ w.heap.size) : Below B w w' :=
  ⟨g.os, g.tape, g.output, g.size, fun k hk => g.block k (by omega) (fun e => by have := hr k e.symm; omega)⟩

theorem grown_below {w w' : World} (b : Below w.heap.size w w') : w.grownBy w' none := ⟨b.os, b.tape, b.output, b.size, fun j hj _ => b.block j hj⟩

theorem blk_lt {w : World} {b : Nat} {o : Obj} (h : w.heap[b]? = some o) : b < w.heap.size := (Array.getElem?_eq_some_iff.1 h).1

theorem set_same {w : World} {b o : Nat} {c : Array Value} {T : TypeId} {fr : Nat × Nat} (h : w.heap[b]? = some (.cells c T fr)) (v : Value) : (w.setCell ⟨b, o, none⟩ v).heap[b]? = some (.cells (c.setIfInBounds o v) T fr) := by
  simp [World.setCell, Array.getElem?_modify, h]

theorem set_other {w : World} {a : Addr} {b : Nat} (v : Value) (h : b ≠ a.block) : (w.setCell a v).heap[b]? = w.heap[b]? := Below.heap_setCell _ _ _ _ h

theorem new_same (w : World) (o : Obj) : (w.alloc o).heap[w.heap.size]? = some o := by
  show (w.heap.push _)[w.heap.size]? = _; simp

theorem cell_of {w : World} {b o : Nat} {c : Array Value} {T : TypeId} {fr : Nat × Nat} (h : w.heap[b]? = some (.cells c T fr)) : w.cell? ⟨b, o, none⟩ = c[o]? := by simp [World.cell?, h]
theorem frozen_of {w : World} {b o : Nat} {c : Array Value} {T : TypeId} (h : w.heap[b]? = some (.cells c T (0, 0))) : w.frozen? ⟨b, o, none⟩ = false := by simp [World.frozen?, h]

theorem own_keep {w w' : World} {base : Nat} {E : TypeId} {sz : Nat} {v : Value} {n : Nat} {xs : List Value} {r : Option Nat} (h : w.ownsRow base E sz v n xs) (g : w.grownBy w' r)
    (hr : ∀ j, r = some j → v.ownBlock ≠ some j) : w'.ownsRow base E sz v n xs := by
  refine ⟨h.1, ?_⟩
  rcases h.2 with h2 | ⟨b, cap, cur, rfl, hb, hg, rest⟩
  · exact .inl h2
  · refine .inr ⟨b, cap, cur, rfl, hb, ?_, rest⟩
    rw [g.block b (blk_lt hg) (fun e => hr b e.symm rfl)]
    exact hg

theorem own_lt {w : World} {base : Nat} {E : TypeId} {sz : Nat} {v : Value} {n : Nat} {xs : List Value} (h : w.ownsRow base E sz v n xs) {j : Nat} (hj : v.ownBlock = some j) : base ≤ j ∧ j < w.heap.size := by
  rcases h.2 with ⟨rfl, _⟩ | ⟨b, cap, cur, rfl, hb, hg, _⟩
  · simp [Value.ownBlock] at hj
  · simp [Value.ownBlock] at hj; subst hj; exact ⟨hb, blk_lt hg⟩

theorem own_set {w : World} {base g n cap i : Nat} {E : TypeId} {xs : List Value} (h : w.ownsRow base E 1 (.slice (some ⟨g, 0, none⟩) n cap) n xs) (hi : i < n) (v : Value) : (w.setCell ⟨g, i, none⟩ v).ownsRow base E 1 (.slice (some ⟨g, 0, none⟩) n cap) n (xs.set i v) := by
  refine ⟨by rw [List.length_set]; exact h.1, ?_⟩
  rcases h.2 with ⟨e, _⟩ | ⟨b, c, cur, e, hb, hg, h1, h2, h3, h4⟩
  · cases e
  · cases e
    refine .inr ⟨g, cap, cur.setIfInBounds i v, rfl, hb, set_same hg v, h1, h2, by simpa using h3, ?_⟩
    rw [← h4]
    simp [List.take_set]

theorem own_cut {w : World} {base g n cap m : Nat} {E : TypeId} {xs : List Value} (h : w.ownsRow base E 1 (.slice (some ⟨g, 0, none⟩) n cap) n xs) (hm : m ≤ n) : w.ownsRow base E 1 (.slice (some ⟨g, 0, none⟩) m cap) m (xs.take m) := by
  have hl := h.1
  refine ⟨by rw [List.length_take]; omega, ?_⟩
  rcases h.2 with ⟨e, _⟩ | ⟨b, c, cur, e, hb, hg, h1, h2, h3, h4⟩
  · cases e
  · cases e
    refine .inr ⟨g, cap, cur, rfl, hb, hg, by omega, h2, h3, ?_⟩
    rw [← h4, List.take_take]
    congr 1
    omega

theorem own_cell {w : World} {base g n cap i : Nat} {E : TypeId} {xs : List Value} {v : Value} (h : w.ownsRow base E 1 (.slice (some ⟨g, 0, none⟩) n cap) n xs) (hi : i < n) (hv : xs[i]? = some v) : w.cell? ⟨g, i, none⟩ = some v := by
  rcases h.2 with ⟨e, _⟩ | ⟨b, c, cur, e, hb, hg, h1, h2, h3, h4⟩
  · cases e
  · cases e
    rw [cell_of hg, ← hv, ← h4]
    simp [hi]

theorem own_frozen {w : World} {base g n cap i : Nat} {E : TypeId} {xs : List Value} (h : w.ownsRow base E 1 (.slice (some ⟨g, 0, none⟩) n cap) n xs) : w.frozen? ⟨g, i, none⟩ = false := by
  rcases h.2 with ⟨e, _⟩ | ⟨b, c, cur, e, hb, hg, h1, h2, h3, h4⟩
  · cases e
  · cases e; exact frozen_of hg

theorem ints_one (xs : List Int) : ∀ v ∈ xs.map (Value.int .i64), v.oneCell' = true := by
  intro v hv
  obtain ⟨x, _, rfl⟩ := List.mem_map.1 hv
  rfl

/-! ### An order -/
structure K where
  B : Nat
  AB : Nat
  PB : Nat
  OB : Nat
  n : Nat

structure Raw (k : K) (w : World) (A hs P : List Int) (wv : Value) : Prop where
  lo1 : k.B ≤ k.AB
  lo2 : k.B ≤ k.PB
  ne : k.AB ≠ k.PB
  lt1 : k.AB < k.OB
  lt2 : k.PB < k.OB
  hn : k.n ≤ 1048576
  la : A.length = k.n
  lp : P.length = k.n
  cl : w.heap[k.OB]? = some (.cells #[.slice (some ⟨k.AB, 0, none⟩) k.n k.n, wv, .slice (some ⟨k.PB, 0, none⟩) k.n k.n] 86 (0, 0))
  ac : w.heap[k.AB]? = some (.cells (A.map (Value.int .i64)).toArray 3 (0, 0))
  pl : w.heap[k.PB]? = some (.cells (P.map (Value.int .i64)).toArray 3 (0, 0))
  wt : w.ownsRow (k.OB + 1) 3 1 wv hs.length (hs.map (Value.int .i64))

def Mine (k : K) (wv : Value) (j : Nat) : Prop := j = k.AB ∨ j = k.PB ∨ j = k.OB ∨ wv.ownBlock = some j

/-- From w to w' blocks of the order alone have changed; what it has now is of it, or new. -/
structure Fr (k : K) (wv wv' : Value) (w w' : World) : Prop where
  os : w'.os = w.os
  tape : w'.tape = w.tape
  output : w'.output = w.output
  size : w.heap.size ≤ w'.heap.size
  block : ∀ j, j < w.heap.size → ¬ Mine k wv j → w'.heap[j]? = w.heap[j]?
  new : ∀ j, wv'.ownBlock = some j → wv.ownBlock = some j ∨ w.heap.size ≤ j

theorem Fr.refl (k : K) (wv : Value) (w : World) : Fr k wv wv w w := ⟨rfl, rfl, rfl, Nat.le_refl _, fun _ _ _ => rfl, fun _ h => .inl h⟩

theorem Fr.trans {k : K} {v v' v'' : Value} {w w' w'' : World} (h : Fr k v v' w w') (g : Fr k v' v'' w' w'') : Fr k v v'' w w'' := by
  refine ⟨g.os.trans h.os, g.tape.trans h.tape, g.output.trans h.output, Nat.le_trans h.size g.size, fun j hj hm => ?_, fun j hj => ?_⟩
  · rw [g.block j (Nat.lt_of_lt_of_le hj h.size), h.block j hj hm]
    rintro (e | e | e | e)
    · exact hm (.inl e)
    · exact hm (.inr (.inl e))
    · exact hm (.inr (.inr (.inl e)))
    · rcases h.new j e with e | e
      · exact hm (.inr (.inr (.inr e)))
      · omega
  · rcases g.new j hj with e | e
    · exact h.new j e
    · have := h.size; exact .inr (by omega)

theorem Fr.grown {k : K} {v : Value} {w w' : World} {r : Option Nat} (g : w.grownBy w' r) (hr : ∀ j, r = some j → Mine k v j) : Fr k v v w w' :=
  ⟨g.os, g.tape, g.output, g.size, fun j hj hm => g.block j hj (fun e => hm (hr j e.symm)), fun _ h => .inl h⟩

theorem Fr.below {k : K} {v : Value} {w w' : World} (b : Below w.heap.size w w') : Fr k v v w w' := Fr.grown (grown_below b) (fun j hj => by cases hj)

theorem below_drew (w : World) : Below w.heap.size w w.drew := ⟨rfl, rfl, rfl, Nat.le_refl _, fun _ _ => rfl⟩
theorem Fr.drew (k : K) (v : Value) (w : World) : Fr k v v w w.drew := Fr.below (below_drew w)

section
variable {k : K} {w w' : World} {A hs P : List Int} {wv : Value}

theorem Raw.keep (s : Raw k w A hs P wv) {r : Option Nat} (g : w.grownBy w' r) (hr : ∀ j, r = some j → ¬ Mine k wv j) : Raw k w' A hs P wv := by
  refine ⟨s.lo1, s.lo2, s.ne, s.lt1, s.lt2, s.hn, s.la, s.lp, ?_, ?_, ?_, own_keep s.wt g fun j hj e => hr j hj (.inr (.inr (.inr e)))⟩
  · rw [g.block _ (blk_lt s.cl) (fun e => hr _ e.symm (.inr (.inr (.inl rfl))))]; exact s.cl
  · rw [g.block _ (blk_lt s.ac) (fun e => hr _ e.symm (.inl rfl))]; exact s.ac
  · rw [g.block _ (blk_lt s.pl) (fun e => hr _ e.symm (.inr (.inl rfl)))]; exact s.pl

theorem Raw.below (s : Raw k w A hs P wv) (b : Below w.heap.size w w') : Raw k w' A hs P wv := s.keep (grown_below b) (fun j hj => by cases hj)
theorem Raw.drew (s : Raw k w A hs P wv) : Raw k w.drew A hs P wv := s.below (below_drew w)

theorem Raw.mine_lt (s : Raw k w A hs P wv) {j : Nat} (h : Mine k wv j) : k.B ≤ j ∧ j < w.heap.size := by
  have h1 := s.lo1; have h2 := s.lo2; have h3 := s.lt1
  rcases h with e | e | e | e
  · exact ⟨by omega, e ▸ blk_lt s.ac⟩
  · exact ⟨by omega, e ▸ blk_lt s.pl⟩
  · exact ⟨by omega, e ▸ blk_lt s.cl⟩
  · have := own_lt s.wt e; exact ⟨by omega, this.2⟩

theorem Raw.own_gt (s : Raw k w A hs P wv) {j : Nat} (h : wv.ownBlock = some j) : k.OB < j := (own_lt s.wt h).1

theorem Fr.be {wv' : Value} (s : Raw k w A hs P wv) (f : Fr k wv wv' w w') (hB : k.B ≤ w.heap.size) : Below k.B w w' :=
  ⟨f.os, f.tape, f.output, f.size, fun j hj => f.block j (by omega) (fun h => by have := s.mine_lt h; omega)⟩

/-- An activity is written. -/
theorem Raw.puta (s : Raw k w A hs P wv) (i : Nat) (x : Int) : Raw k (w.setCell ⟨k.AB, i, none⟩ (.int .i64 x)) (A.set i x) hs P wv := by
  have h1 := s.lt1; have h2 := s.ne
  refine ⟨s.lo1, s.lo2, s.ne, s.lt1, s.lt2, s.hn, by rw [List.length_set]; exact s.la, s.lp, ?_, ?_, ?_, own_keep s.wt (grown_set w _ _) fun j hj e => ?_⟩
  · rw [set_other _ (by show _ ≠ k.AB; omega)]; exact s.cl
  · rw [set_same s.ac]; simp [List.map_set]
  · rw [set_other _ (by show _ ≠ k.AB; omega)]; exact s.pl
  · cases hj; have := s.own_gt e; simp at this; omega

/-- A place is written. -/
theorem Raw.putp (s : Raw k w A hs P wv) (i : Nat) (x : Int) : Raw k (w.setCell ⟨k.PB, i, none⟩ (.int .i64 x)) A hs (P.set i x) wv := by
  have h1 := s.lt2; have h2 := s.ne
  refine ⟨s.lo1, s.lo2, s.ne, s.lt1, s.lt2, s.hn, s.la, by rw [List.length_set]; exact s.lp, ?_, ?_, ?_, own_keep s.wt (grown_set w _ _) fun j hj e => ?_⟩
  · rw [set_other _ (by show _ ≠ k.PB; omega)]; exact s.cl
  · rw [set_other _ (by show _ ≠ k.PB; omega)]; exact s.ac
  · rw [set_same s.pl]; simp [List.map_set]
  · cases hj; have := s.own_gt e; simp at this; omega

/-- One that waits is written. -/
theorem Raw.putw {g m cap : Nat} (s : Raw k w A hs P (.slice (some ⟨g, 0, none⟩) m cap)) (hm : m = hs.length) (i : Nat) (hi : i < m) (x : Int) : Raw k (w.setCell ⟨g, i, none⟩ (.int .i64 x)) A (hs.set i x) P (.slice (some ⟨g, 0, none⟩) m cap) := by
  have h1 := s.lt1; have h2 := s.lt2
  have h3 : k.OB < g := s.own_gt rfl
  subst hm
  refine ⟨s.lo1, s.lo2, s.ne, s.lt1, s.lt2, s.hn, s.la, s.lp, ?_, ?_, ?_, ?_⟩
  · rw [set_other _ (by show _ ≠ g; omega)]; exact s.cl
  · rw [set_other _ (by show _ ≠ g; omega)]; exact s.ac
  · rw [set_other _ (by show _ ≠ g; omega)]; exact s.pl
  · rw [List.length_set, List.map_set]; exact own_set s.wt hi _

/-- Those that wait are others now. -/
theorem Raw.putv {wv' : Value} {hs' : List Int} (s : Raw k w A hs P wv) (g : w.grownBy w' wv.ownBlock) (own : w'.ownsRow (k.OB + 1) 3 1 wv' hs'.length (hs'.map (Value.int .i64))) :
    w'.heap[k.OB]? = some (.cells #[.slice (some ⟨k.AB, 0, none⟩) k.n k.n, wv, .slice (some ⟨k.PB, 0, none⟩) k.n k.n] 86 (0, 0)) ∧ Raw k (w'.setCell ⟨k.OB, 1, none⟩ wv') A hs' P wv' := by
  have h1 := s.lt1; have h2 := s.lt2
  have e1 : w'.heap[k.OB]? = w.heap[k.OB]? := g.block _ (blk_lt s.cl) (fun e => by have := s.own_gt e.symm; omega)
  have e2 : w'.heap[k.AB]? = w.heap[k.AB]? := g.block _ (blk_lt s.ac) (fun e => by have := s.own_gt e.symm; omega)
  have e3 : w'.heap[k.PB]? = w.heap[k.PB]? := g.block _ (blk_lt s.pl) (fun e => by have := s.own_gt e.symm; omega)
  have e4 := e1.trans s.cl
  refine ⟨e4, s.lo1, s.lo2, s.ne, s.lt1, s.lt2, s.hn, s.la, s.lp, ?_, ?_, ?_, own_keep own (grown_set w' _ _) fun j hj e => ?_⟩
  · rw [set_same e4]; rfl
  · rw [set_other _ (by show _ ≠ k.OB; omega), e2]; exact s.ac
  · rw [set_other _ (by show _ ≠ k.OB; omega), e3]; exact s.pl
  · cases hj; have := (own_lt own e).1; simp at this; omega

theorem Raw.c0 (s : Raw k w A hs P wv) : w.cell? ⟨k.OB, 0, none⟩ = some (.slice (some ⟨k.AB, 0, none⟩) k.n k.n) := by rw [cell_of s.cl]; rfl
theorem Raw.c1 (s : Raw k w A hs P wv) : w.cell? ⟨k.OB, 1, none⟩ = some wv := by rw [cell_of s.cl]; rfl
theorem Raw.c2 (s : Raw k w A hs P wv) : w.cell? ⟨k.OB, 2, none⟩ = some (.slice (some ⟨k.PB, 0, none⟩) k.n k.n) := by rw [cell_of s.cl]; rfl
theorem Raw.cf (s : Raw k w A hs P wv) (i : Nat) : w.frozen? ⟨k.OB, i, none⟩ = false := frozen_of s.cl
theorem Raw.ca (s : Raw k w A hs P wv) {i : Nat} (h : i < k.n) : w.cell? ⟨k.AB, i, none⟩ = some (.int .i64 (fn A i)) := by
  rw [cell_of s.ac]; simp [fn_at (l := A) (k := i) (by rw [s.la]; exact h)]
theorem Raw.caf (s : Raw k w A hs P wv) (i : Nat) : w.frozen? ⟨k.AB, i, none⟩ = false := frozen_of s.ac
theorem Raw.cp (s : Raw k w A hs P wv) {i : Nat} (h : i < k.n) : w.cell? ⟨k.PB, i, none⟩ = some (.int .i64 (fn P i)) := by
  rw [cell_of s.pl]; simp [fn_at (l := P) (k := i) (by rw [s.lp]; exact h)]
theorem Raw.cpf (s : Raw k w A hs P wv) (i : Nat) : w.frozen? ⟨k.PB, i, none⟩ = false := frozen_of s.pl
theorem Raw.shape (s : Raw k w A hs P wv) : ∃ ao cap, wv = .slice ao hs.length cap := by
  rcases s.wt.2 with ⟨rfl, h⟩ | ⟨b, cap, cur, rfl, _⟩
  · exact ⟨none, 0, by rw [h]⟩
  · exact ⟨_, _, rfl⟩
theorem Raw.filled (s : Raw k w A hs P wv) (h : 0 < hs.length) : ∃ g cap, wv = .slice (some ⟨g, 0, none⟩) hs.length cap := by
  rcases s.wt.2 with ⟨rfl, h⟩ | ⟨b, cap, cur, rfl, _⟩
  · omega
  · exact ⟨_, _, rfl⟩
theorem Raw.ch {g m cap : Nat} (s : Raw k w A hs P (.slice (some ⟨g, 0, none⟩) m cap)) {i : Nat} (hm : m = hs.length) (hi : i < m) : w.cell? ⟨g, i, none⟩ = some (.int .i64 (fn hs i)) := by
  subst hm
  exact own_cell s.wt hi (by simp [fn_at hi])
theorem Raw.chf {g m cap : Nat} (s : Raw k w A hs P (.slice (some ⟨g, 0, none⟩) m cap)) (hm : m = hs.length) (i : Nat) : w.frozen? ⟨g, i, none⟩ = false := by
  subst hm
  exact own_frozen s.wt
theorem Raw.len (s : Raw k w A hs P wv) {ao : Option Addr} {m cap : Nat} (h : wv = .slice ao m cap) : m = hs.length := by
  obtain ⟨a', c', e⟩ := s.shape
  rw [h] at e; cases e; rfl
end

end Go.Proofs.YtimfjoinjfecjaaGreat.Od

namespace Go.Proofs.YtimfjoinjfecjaaGreat.Od
open Go.RowKit
set_option linter.unusedVariables false

def ac (A : List Int) : Int → Int := fun v => fn A v.toNat

def isF (n : Nat) (v : Int) : Bool := decide (0 ≤ v ∧ v < n)

theorem isF_yes {n : Nat} {v : Int} (h : isF n v = true) : ∃ u : Nat, v = u ∧ u < n := by
  simp only [isF, decide_eq_true_eq] at h
  exact ⟨v.toNat, by omega, by omega⟩
theorem isF_nat {n u : Nat} (h : u < n) : isF n (u : Int) = true := by simp [isF, h]

theorem is_none (v : Int) (w : World) : Calls Tryz.prog 43 #[.pointer none, .int .i64 v] w fun e w' => e = .returned (.bool false) ∧ w' = w := by
  go_enter Tryz.func43, Tryz.ntmps43
  go_wp2
  go_ret
  exact ⟨rfl, rfl⟩

theorem is_any {k : K} {w : World} {A hs P : List Int} {wv : Value} (s : Raw k w A hs P wv) (v : Int) : Calls Tryz.prog 43 #[.pointer (some ⟨k.OB, 0, none⟩), .int .i64 v] w fun e w' => e = .returned (.bool (isF k.n v)) ∧ w' = w := by
  have c0 := s.c0
  by_cases h0 : 0 ≤ v
  · by_cases h1 : v < k.n
    · have HV : Hid (isF k.n v = true) := hid (by simp [isF]; omega)
      go_enter Tryz.func43, Tryz.ntmps43
      go_wp2
      go_ret
      exact ⟨by rw [HV.out]; simp, rfl⟩
    · have HV : Hid (isF k.n v = false) := hid (by simp [isF]; omega)
      go_enter Tryz.func43, Tryz.ntmps43
      go_wp2
      go_ret
      exact ⟨by rw [HV.out]; simp, rfl⟩
  · have HV : Hid (isF k.n v = false) := hid (by simp [isF]; omega)
    go_enter Tryz.func43, Tryz.ntmps43
    go_wp2
    go_ret
    exact ⟨by rw [HV.out]; rfl, rfl⟩

theorem len_any {k : K} {w : World} {A hs P : List Int} {wv : Value} (s : Raw k w A hs P wv) : Calls Tryz.prog 97 #[.pointer (some ⟨k.OB, 0, none⟩)] w fun e w' => e = .returned (.int .i64 hs.length) ∧ w' = w := by
  obtain ⟨ao, cap, rfl⟩ := s.shape
  have c1 := s.c1
  go_enter Tryz.func97, Tryz.ntmps97
  go_wp2
  go_ret
  exact ⟨rfl, rfl⟩













theorem drewN_two (w : World) (a b : Nat) : ∃ m, (w.drewN a).drewN b = w.drewN m := ⟨a + b, by simp⟩

theorem ahead_any {k : K} {w : World} {A hs P : List Int} {wv : Value} (s : Raw k w A hs P wv) (v u : Nat) (hv : v < k.n) (hu : u < k.n) :
    Calls Tryz.prog 45 #[.pointer (some ⟨k.OB, 0, none⟩), .int .i64 v, .int .i64 u] w fun e w' => e = .returned (.bool (ahd (ac A) v u)) ∧ ∃ m, w' = w.drewN m := by
  have c0 := s.c0
  have c1 := s.ca hv
  have c2 := s.ca hu
  have hv' : (v : Int) < k.n := by omega
  have hu' : (u : Int) < k.n := by omega
  clear s
  by_cases he : fn A v = fn A u
  · have HV : Hid (ahd (ac A) v u = decide (v < u)) := hid (by simp only [ahd, ac, Int.toNat_natCast, he]; simp)
    rw [he] at c1
    go_enter Tryz.func45, Tryz.ntmps45
    go_wp2
    go_quiet (fail)
    go_wp2
    go_ret
    exact ⟨by rw [HV.out]; rfl, _, rfl⟩
  · have HV : Hid (ahd (ac A) v u = decide (fn A u < fn A v)) := hid (by simp only [ahd, ac, Int.toNat_natCast, he]; simp)
    have he' : (fn A v != fn A u) = true := by simpa using he
    go_enter Tryz.func45, Tryz.ntmps45
    go_wp2
    go_quiet (fail)
    go_wp2
    go_quiet (fail)
    go_wp2
    go_ret
    exact ⟨by rw [HV.out]; rfl, drewN_two _ _ _⟩

def sumF (a b : Int) : Int := if 1099511627776 - a < b then 1099511627776 else if b < -a then 0 else a + b

theorem sumF_in {a b : Int} (h0 : 0 ≤ a) (h1 : a ≤ 1099511627776) : 0 ≤ sumF a b ∧ sumF a b ≤ 1099511627776 := by
  unfold sumF
  split
  · omega
  · split <;> omega

theorem sum_any (a b : Int) (h0 : 0 ≤ a) (h1 : a ≤ 1099511627776) (w : World) : Calls Tryz.prog 127 #[.int .i64 a, .int .i64 b] w fun e w' => e = .returned (.int .i64 (sumF a b)) ∧ w' = w := by
  by_cases hb : 1099511627776 - a < b
  · have HV : Hid (sumF a b = 1099511627776) := hid (by simp [sumF, hb])
    go_enter Tryz.func127, Tryz.ntmps127
    go_wp2
    go_ret
    exact ⟨by rw [HV.out]; rfl, rfl⟩
  · by_cases hb2 : b < -a
    · have HV : Hid (sumF a b = 0) := hid (by simp [sumF, hb, hb2])
      go_enter Tryz.func127, Tryz.ntmps127
      go_wp2
      go_ret
      exact ⟨by rw [HV.out]; rfl, rfl⟩
    · have HV : Hid (sumF a b = a + b) := hid (by simp [sumF, hb, hb2])
      go_enter Tryz.func127, Tryz.ntmps127
      go_wp2
      go_ret
      exact ⟨by rw [HV.out]; rfl, rfl⟩

end Go.Proofs.YtimfjoinjfecjaaGreat.Od

namespace Go.Proofs.YtimfjoinjfecjaaGreat.Od
open Go.RowKit
set_option linter.unusedVariables false

/-- The order in memory, and each that waits has its place. -/
def Gd (k : K) (w : World) (A hs : List Int) (wv : Value) : Prop := ∃ P, Raw k w A hs P wv ∧ Pl k.n hs.length (fn hs) (fn P)

theorem pl_lists {n m : Nat} {h : Nat → Int} {P : List Int} {i j : Nat} (s : Pl n m h (fn P)) (hP : P.length = n) (hi : i < m) (hj : j < m) :
    Pl n m (sw h i j) (fn ((P.set (h j).toNat (i + 1)).set (h i).toNat (j + 1))) ∧ Pl n m (sw h i j) (fn ((P.set (h i).toNat (j + 1)).set (h j).toNat (i + 1))) := by
  have h1 := s.1 i hi
  have h2 := s.1 j hj
  have l1 : (h i).toNat < P.length := by omega
  have l2 : (h j).toNat < P.length := by omega
  have he : (h j).toNat = (h i).toNat → i = j := fun e => s.inj i j hi hj (by omega)
  refine ⟨pl_sw s hi hj ?_ ?_ ?_, pl_sw s hi hj ?_ ?_ ?_⟩
  · rw [fn_set (by simpa using l1), fn_set l2]
    by_cases e : (h j).toNat = (h i).toNat
    · rw [if_pos e, he e]
    · rw [if_neg e, if_pos rfl]
  · rw [fn_set (by simpa using l1), if_pos rfl]
  · intro v v1 v2
    rw [fn_set (by simpa using l1), fn_set l2, if_neg v2, if_neg v1]
  · rw [fn_set (by simpa using l2), if_pos rfl]
  · rw [fn_set (by simpa using l2), fn_set l1]
    by_cases e : (h i).toNat = (h j).toNat
    · rw [if_pos e, he e.symm]
    · rw [if_neg e, if_pos rfl]
  · intro v v1 v2
    rw [fn_set (by simpa using l2), fn_set l1, if_neg v1, if_neg v2]

def SwapEnd (k : K) (A hs : List Int) (wv : Value) (i j : Nat) (w w' : World) : Prop :=
  ∃ hs', Gd k w' A hs' wv ∧ hs'.length = hs.length ∧ fn hs' = sw (fn hs) i j ∧ Fr k wv wv w w'

set_option maxHeartbeats 1000000 in
theorem swap_any {k : K} {w : World} {A hs : List Int} {wv : Value} (s : Gd k w A hs wv) (i j : Nat) (hi : i < hs.length) (hj : j < hs.length) :
    Calls Tryz.prog 72 #[.pointer (some ⟨k.OB, 0, none⟩), .int .i64 i, .int .i64 j] w fun e w' => e = .returned (.tuple #[]) ∧ SwapEnd k A hs wv i j w w' := by
  obtain ⟨P, s, p⟩ := s
  obtain ⟨g, cap, rfl⟩ := s.filled (by omega)
  have c1 := s.c1
  have d1 := s.ch rfl hi
  have d2 := s.ch rfl hj
  have d3 := s.chf rfl i
  have d4 := s.chf rfl j
  have hi' : (i : Int) < hs.length := by omega
  have hj' : (j : Int) < hs.length := by omega
  have s1 := s.putw rfl i hi (fn hs j)
  have s2 := s1.putw (by simp) j hj (fn hs i)
  have d5 := s1.ch (i := j) (by simp) hj
  have d6 := s1.chf (by simp) j
  have F1 : Hid (Fr k (.slice (some ⟨g, 0, none⟩) hs.length cap) (.slice (some ⟨g, 0, none⟩) hs.length cap) w ((w.setCell ⟨g, i, none⟩ (.int .i64 (fn hs j))).setCell ⟨g, j, none⟩ (.int .i64 (fn hs i))).drew) :=
    hid (((Fr.grown (grown_set w _ _) (fun q hq => by cases hq; exact .inr (.inr (.inr rfl)))).trans (Fr.grown (grown_set _ _ _) (fun q hq => by cases hq; exact .inr (.inr (.inr rfl))))).trans (Fr.drew _ _ _))
  have S2 := hid s2.drew
  have E2 := hid (fn_swap hi hj)
  have L2 : Hid (((hs.set i (fn hs j)).set j (fn hs i)).length = hs.length) := hid (by simp)
  have HP := hid p
  clear s p s1 s2
  go_enter Tryz.func72, Tryz.ntmps72
  go_wp2
  go_region
  go_wp2
  revert F1 S2 E2 L2
  generalize ((w.setCell ⟨g, i, none⟩ (.int .i64 (fn hs j))).setCell ⟨g, j, none⟩ (.int .i64 (fn hs i))).drew = w1
  generalize ((hs.set i (fn hs j)).set j (fn hs i)) = hs1
  intro F1 S2 E2 L2
  clear c1 d1 d2 d3 d4 d5 d6
  obtain ⟨x, hx⟩ : ∃ x : Nat, fn hs i = x := ⟨(fn hs i).toNat, by have := (HP.out.1 i hi).1; omega⟩
  obtain ⟨y, hy⟩ : ∃ y : Nat, fn hs j = y := ⟨(fn hs j).toNat, by have := (HP.out.1 j hj).1; omega⟩
  have hxn : x < k.n := by have := (HP.out.1 i hi).2.1; omega
  have hyn : y < k.n := by have := (HP.out.1 j hj).2.1; omega
  have hn := S2.out.hn
  have c2 := S2.out.c2
  have d1 := S2.out.ch (i := i) L2.out.symm hi
  have d2 := S2.out.ch (i := j) L2.out.symm hj
  rw [E2.out, sw_l, hy] at d1
  rw [E2.out, sw_r, hx] at d2
  have p1 := S2.out.cp hyn
  have p2 := S2.out.cpf y
  have s3 := S2.out.putp y (i + 1)
  have p3 := s3.cp hxn
  have p4 := s3.cpf x
  have s4 := hid (s3.putp x (j + 1))
  have HQ := hid (pl_lists HP.out S2.out.lp hi hj).1
  rw [hx, hy] at HQ
  have F2 : Hid (Fr k (.slice (some ⟨g, 0, none⟩) hs.length cap) (.slice (some ⟨g, 0, none⟩) hs.length cap) w1 ((w1.setCell ⟨k.PB, y, none⟩ (.int .i64 (i + 1))).setCell ⟨k.PB, x, none⟩ (.int .i64 (j + 1))).drew) :=
    hid (((Fr.grown (grown_set w1 _ _) (fun q hq => by cases hq; exact .inr (.inl rfl))).trans (Fr.grown (grown_set _ _ _) (fun q hq => by cases hq; exact .inr (.inl rfl)))).trans (Fr.drew _ _ _))
  have hle := HP.out.len
  have hi2 : i < 9223372036854775807 := by omega
  have hj2 : j < 9223372036854775807 := by omega
  have hxn' : (x : Int) < k.n := by omega
  have hyn' : (y : Int) < k.n := by omega
  clear s3 hx hy
  go_region
  go_wp2
  go_end0
  refine ⟨rfl, hs1, ⟨_, s4.out.drew, ?_⟩, L2.out, E2.out, F1.out.trans F2.out⟩
  rw [L2.out, E2.out]
  exact HQ.out

end Go.Proofs.YtimfjoinjfecjaaGreat.Od

namespace Go.Proofs.YtimfjoinjfecjaaGreat.Od
open Go.RowKit
set_option linter.unusedVariables false

theorem Gd.below {k : K} {w w' : World} {A hs : List Int} {wv : Value} (s : Gd k w A hs wv) (b : Below w.heap.size w w') : Gd k w' A hs wv := by
  obtain ⟨P, s, p⟩ := s; exact ⟨P, s.below b, p⟩
theorem below_drewN' (w : World) (m : Nat) : Below w.heap.size w (w.drewN m) := ⟨rfl, rfl, rfl, Nat.le_refl _, fun _ _ => rfl⟩
theorem Gd.drewN {k : K} {w : World} {A hs : List Int} {wv : Value} (s : Gd k w A hs wv) (m : Nat) : Gd k (w.drewN m) A hs wv := s.below (below_drewN' w m)

/-- What is so between the rounds: one at i moves, all else has been so at w. -/
structure Mv (k : K) (w : World) (A hs : List Int) (wv : Value) (v : Nat) (wr : World) (hs1 : List Int) (i : Nat) : Prop where
  gd : Gd k wr A hs1 wv
  len : hs1.length = hs.length
  lt : i < hs.length
  at_ : fn hs1 i = v
  same : ∀ x, In hs.length (fn hs1) x ↔ In hs.length (fn hs) x
  fr : Fr k wv wv w wr

structure RiseRel (k : K) (w : World) (A hs : List Int) (wv : Value) (v i0 : Nat) (wr : World) (hs1 : List Int) (i : Nat) : Prop where
  mv : Mv k w A hs wv v wr hs1 i
  br : Broken (ac A) hs.length (fn hs1) i
  kids : Kids (ac A) hs.length (fn hs) i0 → Kids (ac A) hs.length (fn hs1) i

def RiseEnd (k : K) (A hs : List Int) (wv : Value) (v i0 : Nat) (w w' : World) : Prop :=
  ∃ hs' i', Mv k w A hs wv v w' hs' i' ∧ Sunk (ac A) hs.length (fn hs') 0 i' ∧ (Kids (ac A) hs.length (fn hs) i0 → Heap (ac A) hs.length (fn hs') 0)

theorem RiseRel.done {k : K} {w wr : World} {A hs hs1 : List Int} {wv : Value} {v i0 i : Nat} (r : RiseRel k w A hs wv v i0 wr hs1 i) (h : i = 0 ∨ ahd (ac A) (fn hs1 i) (fn hs1 (par i)) = false) : RiseEnd k A hs wv v i0 w wr := by
  have s := rise_end r.br h
  exact ⟨hs1, i, r.mv, s, fun c => sunk_heap s (r.kids c)⟩

theorem Mv.below {k : K} {w wr wq : World} {A hs hs1 : List Int} {wv : Value} {v i : Nat} (r : Mv k w A hs wv v wr hs1 i) (b : Below wr.heap.size wr wq) : Mv k w A hs wv v wq hs1 i :=
  ⟨r.gd.below b, r.len, r.lt, r.at_, r.same, r.fr.trans (Fr.below b)⟩

theorem Mv.swap {k : K} {w wr w' : World} {A hs hs1 : List Int} {wv : Value} {v i j : Nat} (r : Mv k w A hs wv v wr hs1 i) (hj : j < hs.length) (s : SwapEnd k A hs1 wv i j wr w') : ∃ hs2, Mv k w A hs wv v w' hs2 j ∧ fn hs2 = sw (fn hs1) i j := by
  obtain ⟨hs2, g, l, e, f⟩ := s
  refine ⟨hs2, ⟨g, l.trans r.len, hj, ?_, fun x => ?_, r.fr.trans f⟩, e⟩
  · rw [e, sw_r]; exact r.at_
  · rw [e, in_sw r.lt hj]; exact r.same x

theorem RiseEnd.below {k : K} {w w' wq : World} {A hs : List Int} {wv : Value} {v i0 : Nat} (r : RiseEnd k A hs wv v i0 w w') (b : Below w'.heap.size w' wq) : RiseEnd k A hs wv v i0 w wq := by
  obtain ⟨h, i, m, r⟩ := r; exact ⟨h, i, m.below b, r⟩

theorem swap_at {k : K} {w : World} {A hs : List Int} {wv : Value} (s : Gd k w A hs wv) {i j : Nat} {x y : Int} (hx : x = i) (hy : y = j) (hi : i < hs.length) (hj : j < hs.length) :
    Calls Tryz.prog 72 #[.pointer (some ⟨k.OB, 0, none⟩), .int .i64 x, .int .i64 y] w fun e w' => e = .returned (.tuple #[]) ∧ SwapEnd k A hs wv i j w w' := by
  subst hx hy
  exact swap_any s i j hi hj

theorem RiseRel.next {k : K} {w wr w' : World} {A hs hs1 : List Int} {wv : Value} {v i0 i : Nat} (r : RiseRel k w A hs wv v i0 wr hs1 i) (i0' : 0 < i) (h : ahd (ac A) (fn hs1 i) (fn hs1 (par i)) = true) (s : SwapEnd k A hs1 wv i (par i) wr w') :
    ∃ hs2, RiseRel k w A hs wv v i0 w' hs2 (par i) := by
  have hp := par_lt i0'
  have hl := r.mv.lt
  obtain ⟨hs2, m, e⟩ := r.mv.swap (j := par i) (by omega) s
  exact ⟨hs2, m, by rw [e]; exact broken_step r.br i0' hl, fun _ => by rw [e]; exact kids_step r.br i0' h⟩

theorem RiseRel.below {k : K} {w wr wq : World} {A hs hs1 : List Int} {wv : Value} {v i0 i : Nat} (r : RiseRel k w A hs wv v i0 wr hs1 i) (b : Below wr.heap.size wr wq) : RiseRel k w A hs wv v i0 wq hs1 i :=
  ⟨r.mv.below b, r.br, r.kids⟩

/-- Where the one at i lies, and whom it is held against. -/
theorem Mv.look {k : K} {w wr : World} {A hs hs1 : List Int} {wv : Value} {v i : Nat} (r : Mv k w A hs wv v wr hs1 i) {j : Nat} (hj : j < hs.length) : ∃ g cap, wv = .slice (some ⟨g, 0, none⟩) hs.length cap ∧
    ∃ u : Nat, fn hs1 j = u ∧ u < k.n ∧ wr.cell? ⟨k.OB, 1, none⟩ = some wv ∧ wr.cell? ⟨g, j, none⟩ = some (.int .i64 u) := by
  obtain ⟨P, s, p⟩ := r.gd
  have hl := r.len
  obtain ⟨g, cap, e⟩ := s.filled (by omega)
  rw [hl] at e
  have h1 := p.1 j (by omega)
  refine ⟨g, cap, e, (fn hs1 j).toNat, by omega, by omega, s.c1, ?_⟩
  subst e
  rw [s.ch hl.symm hj]
  congr 2
  omega

theorem Mv.vn {k : K} {w wr : World} {A hs hs1 : List Int} {wv : Value} {v i : Nat} (r : Mv k w A hs wv v wr hs1 i) : v < k.n := by
  obtain ⟨P, s, p⟩ := r.gd
  have hl := r.len
  have hi := r.lt
  have h1 := p.1 i (by omega)
  have := r.at_
  omega

theorem Mv.small {k : K} {w wr : World} {A hs hs1 : List Int} {wv : Value} {v i : Nat} (r : Mv k w A hs wv v wr hs1 i) : hs.length ≤ 1048576 := by
  obtain ⟨P, s, p⟩ := r.gd
  have := p.len
  have := s.hn
  have := r.len
  omega

/-- ahead, as the method value calls it. -/
theorem ahead_gd {k : K} {w : World} {A hs : List Int} {wv : Value} (s : Gd k w A hs wv) (v u : Nat) (hv : v < k.n) (hu : u < k.n) :
    Calls Tryz.prog 45 #[.pointer (some ⟨k.OB, 0, none⟩), .int .i64 v, .int .i64 u] w fun e w' => e = .returned (.bool (ahd (ac A) v u)) ∧ ∃ m, w' = w.drewN m := by
  obtain ⟨P, s, p⟩ := s
  exact ahead_any s v u hv hu

set_option maxHeartbeats 1000000 in
theorem rise_any {k : K} {w : World} {A hs : List Int} {wv : Value} (s : Gd k w A hs wv) (v i0 : Nat) (hi : i0 < hs.length) (hv : fn hs i0 = v) (b : Broken (ac A) hs.length (fn hs) i0) :
    Calls Tryz.prog 44 #[.pointer (some ⟨k.OB, 0, none⟩), .int .i64 v, .func (.func 45) #[.pointer (some ⟨k.OB, 0, none⟩)] #[]] w fun e w' => e = .returned (.tuple #[]) ∧ RiseEnd k A hs wv v i0 w w' := by
  have M0 : Mv k w A hs wv v w hs i0 := ⟨s, rfl, hi, hv, fun x => Iff.rfl, Fr.refl _ _ _⟩
  have hvn := M0.vn
  have hvn' : (v : Int) < k.n := by omega
  have hsm := M0.small
  have R0 : Hid (RiseRel k w A hs wv v i0 w hs i0) := hid ⟨M0, b, fun c => c⟩
  obtain ⟨P, s, p⟩ := s
  have c2 := s.c2
  have cp := s.cp hvn
  have hpl := (p.1 i0 hi).2.2
  rw [hv, Int.toNat_natCast] at hpl
  rw [hpl] at cp
  clear s p hpl b hv M0
  go_enter Tryz.func44, Tryz.ntmps44
  go_wp2
  go_loopw [6] (fun a wr => ∃ (i : Nat) (hs1 : List Int), a = .int .i64 i ∧ i < hs.length ∧ Hid (RiseRel k w A hs wv v i0 wr hs1 i)) (fun a _ => (intOf a).toNat)
  case atStart => exact ⟨i0, hs, by simp, hi, R0⟩
  case round =>
    clear c2 cp R0
    obtain ⟨i, hs1, rfl, hil, hr⟩ := hrel
    rcases i with _ | i
    · go_wp2
      go_end0
      exact ⟨rfl, hr.out.done (.inl rfl)⟩
    · have hpar : par (i + 1) = i / 2 := by unfold par; omega
      obtain ⟨g, cap, rfl, u, hu, hun, c1, cu⟩ := hr.out.mv.look (j := i / 2) (by omega)
      have ha : ahd (ac A) v u = ahd (ac A) (fn hs1 (i + 1)) (fn hs1 (par (i + 1))) := by rw [hpar, hu, hr.out.mv.at_]
      have HG := hid hr.out.mv.gd
      cases hc : ahd (ac A) v u
      · have HD := hid (hr.out.done (.inr (by rw [← ha]; exact hc)))
        clear hu ha hpar
        go_wp2_with (go_at_call 45; with_reducible (refine (ahead_gd HG.out v u hvn hun).mono ?_); rintro e w1 ⟨rfl, m, rfl⟩)
        refine bodyPost_ret (results_none rfl _ _ _) rfl ?_
        exact ⟨rfl, HD.out.below (below_drewN' _ _)⟩
      · have HC : Hid (ahd (ac A) (fn hs1 (i + 1)) (fn hs1 (par (i + 1))) = true) := hid (by rw [← ha]; exact hc)
        have HPA := hid hpar
        clear hu ha hpar
        go_wp2_with (first
          | (go_at_call 45; with_reducible (refine (ahead_gd HG.out v u hvn hun).mono ?_); rintro e w1 ⟨rfl, m, rfl⟩; have hr1 := hid (hr.out.below (below_drewN' _ m)))
          | (go_at_call 72; with_reducible (refine (swap_at hr1.out.mv.gd (i := i + 1) (j := i / 2) (by simp) (by simp) (by rw [hr1.out.mv.len]; omega) (by rw [hr1.out.mv.len]; omega)).mono ?_); rintro e w2 ⟨rfl, hs2⟩))
        go_roundw
        case rel =>
          rw [← HPA.out] at hs2
          obtain ⟨hs3, r3⟩ := hr1.out.next (by omega) HC.out hs2
          rw [HPA.out] at r3
          exact ⟨i / 2, hs3, by simp, by omega, r3⟩
        case measure => simp only [intOf]; omega

end Go.Proofs.YtimfjoinjfecjaaGreat.Od
