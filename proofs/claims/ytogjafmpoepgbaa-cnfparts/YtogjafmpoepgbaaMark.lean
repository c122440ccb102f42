/-
  A row of marks, and the marks of a clause.
-/
import Derived.Test.YtogjafmpoepgbaaSides
import Derived.Deep.OwnRows
namespace Go.Proofs.Ytogjafmpoepgbaa
open Go.RowKit
set_option linter.unusedVariables false

/-- Block g is a row of truths. -/
def MB (w : World) (g : Nat) (bs : List Bool) : Prop := w.heap[g]? = some (.cells (bs.map Value.bool).toArray 4 (0, 0))

theorem MB.lt {w : World} {g : Nat} {bs : List Bool} (h : MB w g bs) : g < w.heap.size := (Array.getElem?_eq_some_iff.1 h).1
theorem MB.cell {w : World} {g q : Nat} {bs : List Bool} (h : MB w g bs) (hq : q < bs.length) : w.cell? ⟨g, q, none⟩ = some (.bool (bs.getD q false)) := by
  unfold MB at h; simp [World.cell?, h, hq]
theorem MB.fr {w : World} {g : Nat} {bs : List Bool} (h : MB w g bs) (i : Nat) : w.frozen? ⟨g, i, none⟩ = false := by unfold MB at h; simp [World.frozen?, h]
theorem MB.same {w w' : World} {g : Nat} {bs : List Bool} (h : MB w g bs) (e : w'.heap[g]? = w.heap[g]?) : MB w' g bs := by
  unfold MB; rw [e]; exact h
theorem MB.set {w : World} {g q : Nat} {bs : List Bool} (h : MB w g bs) (b : Bool) : MB (w.setCell ⟨g, q, none⟩ (.bool b)) g (bs.set q b) := by
  unfold MB at h ⊢; simp [World.setCell, Array.getElem?_modify, h, List.map_set]
theorem made_bools (n : Nat) : madeCells #[Value.bool false] n = ((List.replicate n false).map Value.bool).toArray := by
  apply Array.ext
  · simp [madeCells]
  · intro i h1 h2
    simp [madeCells, Nat.mod_one]
theorem MB.made (w : World) (n : Nat) : MB (w.alloc (.cells (madeCells #[.bool false] n) 4)) w.heap.size (List.replicate n false) := by
  unfold MB; rw [made_bools]; show (w.heap.push _)[w.heap.size]? = _; simp
theorem MB.bools {w : World} {g n c : Nat} {bs : List Bool} (h : MB w g bs) (hn : bs.length = n) (hc : n ≤ c) (hm : c ≤ maxLen) : IsBools w (some ⟨g, 0, none⟩) n c (fun i => bs.getD i false) := by
  refine .inr ⟨_, rfl, hc, hm, fun i hi => ?_⟩
  rw [← h.cell (by omega)]
  congr 1
  by_cases h0 : i = 0
  · subst h0; rfl
  · simp [Addr.add, h0]

/-- Which of n marks are set. -/
def Marks (w : World) (g n : Nat) (S : Nat → Prop) : Prop := ∃ bs : List Bool, MB w g bs ∧ bs.length = n ∧ ∀ i, i < n → (bs.getD i false = true ↔ S i)

theorem Marks.lt {w : World} {g n : Nat} {S : Nat → Prop} (h : Marks w g n S) : g < w.heap.size := by obtain ⟨bs, h, _⟩ := h; exact h.lt
theorem Marks.at {w : World} {g n q : Nat} {S : Nat → Prop} (h : Marks w g n S) (hq : q < n) : ∃ b : Bool, w.cell? ⟨g, q, none⟩ = some (.bool b) ∧ Hid (b = true ↔ S q) ∧ w.frozen? ⟨g, q, none⟩ = false := by
  obtain ⟨bs, h, hl, hs⟩ := h
  exact ⟨_, h.cell (by omega), hs q hq, h.fr q⟩
theorem Marks.same {w w' : World} {g n : Nat} {S : Nat → Prop} (h : Marks w g n S) (e : w'.heap[g]? = w.heap[g]?) : Marks w' g n S := by
  obtain ⟨bs, h, r⟩ := h; exact ⟨bs, h.same e, r⟩
theorem Marks.keep {w w' : World} {g n : Nat} {S : Nat → Prop} (h : Marks w g n S) (hb : Below w.heap.size w w') : Marks w' g n S := h.same (hb.block _ h.lt)
theorem Marks.iff {w : World} {g n : Nat} {S S' : Nat → Prop} (h : Marks w g n S) (e : ∀ i, i < n → (S i ↔ S' i)) : Marks w g n S' := by
  obtain ⟨bs, h, hl, hs⟩ := h; exact ⟨bs, h, hl, fun i hi => (hs i hi).trans (e i hi)⟩
theorem Marks.set {w : World} {g n q : Nat} {S : Nat → Prop} (h : Marks w g n S) : Marks (w.setCell ⟨g, q, none⟩ (.bool true)) g n (fun i => S i ∨ i = q) := by
  obtain ⟨bs, h, hl, hs⟩ := h
  refine ⟨bs.set q true, h.set true, by rw [List.length_set]; exact hl, fun i hi => ?_⟩
  by_cases e : i = q
  · subst e; simp [hl, hi]
  · have := hs i hi
    simp only [List.getD_eq_getElem?_getD] at this ⊢
    rw [List.getElem?_set_ne (by omega), this]
    simp [e]
theorem Marks.made (w : World) (n : Nat) : Marks (w.alloc (.cells (madeCells #[.bool false] n) 4)) w.heap.size n (fun _ => False) :=
  ⟨_, MB.made w n, by simp, fun i hi => by simp [hi]⟩

/-! ### Steps that touch one block -/
theorem grown_set {w w' : World} {g : Nat} (h : w.grownBy w' (some g)) (q : Nat) (v : Value) : w.grownBy (w'.setCell ⟨g, q, none⟩ v) (some g) := by
  refine ⟨h.os, h.tape, h.output, by simpa [World.setCell] using h.size, fun k hk hne => ?_⟩
  rw [Below.heap_setCell _ _ _ _ (by intro e; exact hne (by rw [e]))]
  exact h.block k hk hne

/-- Marks that all parts of f above s have. -/
def Upto (S : Nat → Prop) (q f s : Nat) (i : Nat) : Prop := S i ∨ ∃ t, t &&& f = t ∧ s < t ∧ i = q ||| t

theorem upto_start (S : Nat → Prop) (q f i : Nat) : S i ↔ Upto S q f f i := by
  constructor
  · exact .inl
  · rintro (h | ⟨t, ht, hlt, _⟩)
    · exact h
    · have : t ≤ f := by rw [← ht]; exact Nat.and_le_right
      omega

theorem upto_next {S : Nat → Prop} {q f s i : Nat} (hs : s &&& f = s) (h0 : s ≠ 0) : (Upto S q f s i ∨ i = q ||| s) ↔ Upto S q f ((s - 1) &&& f) i := by
  have hle : (s - 1) &&& f ≤ s - 1 := Nat.and_le_left
  constructor
  · rintro ((h | ⟨t, ht, hlt, rfl⟩) | rfl)
    · exact .inl h
    · exact .inr ⟨t, ht, by omega, rfl⟩
    · exact .inr ⟨s, hs, by omega, rfl⟩
  · rintro (h | ⟨t, ht, hlt, rfl⟩)
    · exact .inl (.inl h)
    · by_cases e : t = s
      · subst e; exact .inr rfl
      · by_cases l : t < s
        · have := mask_next f s t hs ht l; omega
        · exact .inl (.inr ⟨t, ht, by omega, rfl⟩)

theorem upto_end {S : Nat → Prop} {q f i : Nat} : (Upto S q f 0 i ∨ i = q ||| 0) ↔ (S i ∨ ∃ t, t &&& f = t ∧ i = q ||| t) := by
  constructor
  · rintro ((h | ⟨t, ht, _, rfl⟩) | rfl)
    · exact .inl h
    · exact .inr ⟨t, ht, rfl⟩
    · exact .inr ⟨0, by simp, rfl⟩
  · rintro (h | ⟨t, ht, rfl⟩)
    · exact .inl (.inl h)
    · by_cases e : t = 0
      · subst e; exact .inr rfl
      · exact .inl (.inr ⟨t, ht, by omega, rfl⟩)

theorem free_num {n o : Nat} (h0 : 1 ≤ n) (hn : n ≤ 65536) (ho : o < 65536) : bits .andNot .i64 ((n : Int) - 1) (o : Int) = ((freeB (n - 1) o : Nat) : Int) := by
  rw [show (n : Int) - 1 = ((n - 1 : Nat) : Int) by omega]
  exact i64_andNot_nat (n - 1) o (by omega) ho
theorem next_num {s f : Nat} (h0 : s ≠ 0) (hs : s < 65536) (hf : f < 65536) : bits .and .i64 ((s : Int) - 1) (f : Int) = (((s - 1) &&& f : Nat) : Int) := by
  rw [show (s : Int) - 1 = ((s - 1 : Nat) : Int) by omega]
  exact i64_and_nat (s - 1) f (by omega) hf

set_option maxHeartbeats 4000000 in
theorem mark_any (vars p q g n : Nat) (hv : vars ≤ 16) (hn : n = 2 ^ vars) (hp : p < n) (hq : q < n) (S : Nat → Prop) (w : World) (hM : Marks w g n S) :
    Calls Try.prog 36 #[.agg #[.int .i64 (p : Int), .int .i64 (q : Int)], .slice (some ⟨g, 0, none⟩) n n] w fun e w' => e = .returned (.tuple #[]) ∧ Hid (Marks w' g n (fun i => S i ∨ ∃ t, t &&& freeB (n - 1) (p ||| q) = t ∧ i = q ||| t)) ∧ Hid (w.grownBy w' (some g)) := by
  have n1 : 1 ≤ n := by omega
  have n2 : n ≤ 65536 := by rw [hn]; exact Nat.pow_le_pow_right (n := 2) (by omega) hv
  obtain ⟨o, ho⟩ : ∃ o, o = p ||| q := ⟨_, rfl⟩
  have ho2 : o < n := by rw [ho, hn]; exact Nat.or_lt_two_pow (by omega) (by omega)
  obtain ⟨f, hf⟩ : ∃ f, f = freeB (n - 1) o := ⟨_, rfl⟩
  have hf2 : f < n := by have := free_le (n - 1) o; omega
  have hor : bits .or .i64 (p : Int) (q : Int) = (o : Int) := by rw [ho]; exact i64_or_nat p q (by omega) (by omega)
  have hfree : bits .andNot .i64 ((n : Int) - 1) (o : Int) = (f : Int) := by rw [hf]; exact free_num n1 n2 (by omega)
  rw [← ho, ← hf]
  have HN : Hid (n = 2 ^ vars) := hn
  have HM : Hid (Marks w g n S) := hM
  have gl := hM.lt
  clear hn ho hf hM
  have nn : (n : Int) ≤ 65536 := by omega
  have n3 : (1 : Int) ≤ n := by omega
  go_enter Try.func36, Try.ntmps36
  go_wp2
  go_loopw [5] (fun i wr => ∃ s : Nat, i = .int .i64 s ∧ s ≤ f ∧ Hid (s &&& f = s) ∧ Hid (Marks wr g n (Upto S q f s)) ∧ Hid (Blk wr w.heap.size p q) ∧ Hid (w.grownBy wr (some g))) (fun i _ => (intOf i).toNat)
  case atStart =>
    refine ⟨f, rfl, Nat.le_refl _, Nat.and_self f, ?_, Blk.made w p q, World.grownBy_alloc _ _ _⟩
    exact (HM.out.keep ((Below.refl _ _).alloc (Nat.le_refl _) _)).iff fun i hi => upto_start S q f i
  case round =>
    obtain ⟨s, rfl, hsf, hsm, hmk, hbk, hgr⟩ := hrel
    obtain ⟨r, hr⟩ : ∃ r, r = q ||| s := ⟨_, rfl⟩
    have hr2 : r < n := by
      rw [hr, HN.out]
      have := HN.out
      exact Nat.or_lt_two_pow (by omega) (by omega)
    have hor2 : bits .or .i64 (q : Int) (s : Int) = (r : Int) := by rw [hr]; exact i64_or_nat q s (by omega) (by omega)
    have HRR : Hid (r = q ||| s) := hr
    clear hr
    obtain ⟨bb, hc, hbb, hfr⟩ := hmk.out.at hr2
    have k1 := hbk.out.c1
    have hr3 : (r : Int) < n := by omega
    by_cases h0 : s = 0
    · subst h0
      have hor3 : bits .or .i64 (q : Int) 0 = (r : Int) := hor2
      clear hor2
      have HE : Hid (Marks (wr.setCell ⟨g, r, none⟩ (.bool true)) g n (fun i => S i ∨ ∃ t, t &&& f = t ∧ i = q ||| t)) :=
        (hmk.out.set (q := r)).iff fun i hi => by rw [HRR.out]; exact upto_end
      go_wp2
      go_returns
      exact ⟨rfl, HE, grown_set hgr.out _ _⟩
    · obtain ⟨t, ht⟩ : ∃ t, t = (s - 1) &&& f := ⟨_, rfl⟩
      have hand : bits .and .i64 ((s : Int) - 1) (f : Int) = (t : Int) := by rw [ht]; exact next_num h0 (by omega) (by omega)
      have HT : Hid (t = (s - 1) &&& f) := ht
      have tl : t < s := by have : (s - 1) &&& f ≤ s - 1 := Nat.and_le_left; omega
      clear ht
      have HE : Hid (Marks (wr.setCell ⟨g, r, none⟩ (.bool true)) g n (Upto S q f t)) :=
        (hmk.out.set (q := r)).iff fun i hi => by rw [HRR.out, HT.out]; exact upto_next hsm.out h0
      have HT2 : Hid (t &&& f = t) := by show _ = _; rw [HT.out]; exact mask_sub f s
      have s1 : (1 : Int) ≤ s := by omega
      have s2 : (s : Int) ≤ 65536 := by omega
      have s3 : ((s : Int) == 0) = false := by simpa using h0
      go_wp2
      go_roundw
      case rel => exact ⟨t, rfl, by omega, HT2, HE, hbk.out.other (by simp; omega) _, grown_set hgr.out _ _⟩
      case measure => simp [intOf]; omega

end Go.Proofs.Ytogjafmpoepgbaa
