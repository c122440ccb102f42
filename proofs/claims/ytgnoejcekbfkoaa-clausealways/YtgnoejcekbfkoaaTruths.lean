/-
  A list of truths that grows, and in which all literals of a clause are false.
-/
import Derived.Test.YtgnoejcekbfkoaaFrame
namespace Go.Proofs.Ytgnoejcekbfkoaa
open Go.RowKit
set_option linter.unusedVariables false

def lenOf : Value → Nat
  | .slice _ n _ => n
  | _ => 0

def OwnB (w : World) (B : Nat) (v : Value) (bs : List Bool) : Prop := w.ownsRow B 4 1 v bs.length (bs.map Value.bool)

theorem OwnB.shape {w : World} {B : Nat} {v : Value} {bs : List Bool} (h : OwnB w B v bs) : ∃ ao n c, v = .slice ao n c ∧ n = bs.length ∧ Hid (OwnB w B (.slice ao n c) bs) := by
  rcases h.2 with ⟨rfl, hn⟩ | ⟨g, cap, cur, rfl, _⟩
  · exact ⟨none, 0, 0, rfl, hn.symm, h⟩
  · exact ⟨_, _, _, rfl, rfl, h⟩

theorem ownB_made {w : World} {B : Nat} {v : Value} (h : w.ownsRow B 4 1 v 0 (madeCells (Value.bool false).cells (0 * 1)).toList) : Hid (OwnB w B v []) := by
  have e : (madeCells (Value.bool false).cells (0 * 1)).toList = [] := by simp [madeCells]
  rw [e] at h
  exact h

theorem OwnB.at {w : World} {B n c q : Nat} {ao : Option Addr} {bs : List Bool} (h : OwnB w B (.slice ao n c) bs) (hq : q < bs.length) :
    ∃ g, ao = some ⟨g, 0, none⟩ ∧ B ≤ g ∧ g < w.heap.size ∧ w.cell? ⟨g, q, none⟩ = some (.bool (bs.getD q false)) ∧ w.frozen? ⟨g, q, none⟩ = false := by
  rcases h.2 with ⟨h', hn⟩ | ⟨g, cap, cur, h', hb, hg, rest⟩
  · omega
  · simp only [Value.slice.injEq] at h'
    obtain ⟨rfl, rfl, rfl⟩ := h'
    have h2 : w.ownsRow B 4 1 (.slice (some ⟨g, 0, none⟩) bs.length c) bs.length (bs.map Value.bool) := h
    refine ⟨g, rfl, hb, (Array.getElem?_eq_some_iff.1 hg).1, ?_, h2.frozenAt q⟩
    rw [h2.cellAt q (by omega)]
    simp [hq]

theorem OwnB.keep {w w' : World} {B : Nat} {v : Value} {bs : List Bool} (h : OwnB w B v bs) (b : Below w.heap.size w w') : OwnB w' B v bs := by
  refine ⟨h.1, ?_⟩
  rcases h.2 with hn | ⟨g, cap, cur, e, hb, hg, rest⟩
  · exact .inl hn
  · exact .inr ⟨g, cap, cur, e, hb, by rw [b.block g (Array.getElem?_eq_some_iff.1 hg).1]; exact hg, rest⟩

theorem OwnB.store {w : World} {B g n c q : Nat} {bs : List Bool} (h : OwnB w B (.slice (some ⟨g, 0, none⟩) n c) bs) (hn : n = bs.length) (b : Bool) : OwnB (w.setCell ⟨g, q, none⟩ (.bool b)) B (.slice (some ⟨g, 0, none⟩) n c) (bs.set q b) := by
  subst hn
  have h2 : w.ownsRow B 4 1 (.slice (some ⟨g, 0, none⟩) bs.length c) bs.length (bs.map Value.bool) := h
  have := (h2.stored q (.bool b)).1
  show World.ownsRow _ _ _ _ _ _ _
  rw [List.length_set, List.map_set]
  exact this

theorem OwnB.bools {w : World} {B n c : Nat} {ao : Option Addr} {bs : List Bool} (h : OwnB w B (.slice ao n c) bs) (hn : n = bs.length) : IsBools w ao n c (fun i => bs.getD i false) := by
  subst hn
  rcases h.2 with ⟨h', hn⟩ | ⟨g, cap, cur, h', hb, hg, hl, hm, rest⟩
  · simp only [Value.slice.injEq] at h'
    exact .inl ⟨h'.1, h'.2.1, h'.2.2⟩
  · simp only [Value.slice.injEq] at h'
    obtain ⟨rfl, _, rfl⟩ := h'
    refine .inr ⟨_, rfl, hl, hm, fun i hi => ?_⟩
    obtain ⟨g', e, _, _, hc, _⟩ := h.at hi
    cases e
    rw [← hc]
    congr 1
    by_cases h0 : i = 0
    · subst h0; rfl
    · simp [Addr.add, h0]

theorem Try.info4 : (Try.prog.info? 4).map (fun i => (i.zero, i.size, i.bytes)) = some (some (.bool false), 1, 1) := by kernel_rfl

theorem append_false {w : World} {ops : Array Oper} {rest : List Oper} {o : Oper} {a : Act} {Q : Exit → Act → World → Prop} (hgd : o.guard = none) (s x : Operand)
    (ho : o.op = .call { callee := .builtin .append, args := #[s, x], argTypes := #[31, 31] }) (B : Nat) (v : Value) (bs : List Bool) (hs : a.eval s = v) (own : OwnB w B v bs)
    (g : Nat) (hx : a.eval x = .slice (some ⟨g, 0, none⟩) 1 1) (hcell : w.cell? ⟨g, 0, none⟩ = some (.bool false)) (hbd : bs.length ≤ 5000) (hB : B ≤ w.heap.size)
    (h : ∀ ao n c w', n = bs.length + 1 → Hid (OwnB w' B (.slice ao n c) (bs ++ [false])) → Hid (Below B w w') → wpList Try.prog ops Q rest (a.put o.dst (.slice ao n c)) w') : wpList Try.prog ops Q (o :: rest) a w := by
  obtain ⟨i0, hi, hz0, hz1, hz2⟩ := info_parts Try.info4
  refine wpList_append_own (P := Try.prog) (w := w) hgd s x 31 ho B 4 i0 (.bool false) 1 1 Try.underlying31 hi hz0 hz1 hz2 rfl (by decide) v bs.length _ hs own ⟨g, 0, none⟩ 1 1 [.bool false] hx rfl ?_ ?_ (by unfold maxLen; omega) (by omega) hB ?_
  · intro j u hj
    match j, hj with
    | 0, hj => simp at hj; subst hj; simpa [Addr.add] using hcell
  · intro u hu
    rw [List.mem_singleton] at hu; subst hu; rfl
  · intro v' w' h1 h2 _
    have e : OwnB w' B v' (bs ++ [false]) := by
      show World.ownsRow _ _ _ _ _ _ _
      rw [List.length_append, List.map_append]
      exact h1
    obtain ⟨ao, n, c, rfl, hn, hs⟩ := e.shape
    exact h ao n c w' (by rw [hn]; simp) hs ((Below.refl B w).grown h2 hB fun k hk => (own.lt k hk).1)

/-! ### All literals false -/
def Falls (ys : List Int) (bs : List Bool) : Prop := ∀ x ∈ ys, bs[(varF x).toNat]? = some (negF x)

theorem falls_more {ys : List Int} {bs : List Bool} (h : Falls ys bs) : Falls ys (bs ++ [false]) := by
  intro x hx
  have := h x hx
  rw [List.getElem?_append_left (List.getElem?_eq_some_iff.1 this).1]
  exact this

theorem var_apart {cs : List Int} (hr : cs.Pairwise (· < ·)) (h0 : ∀ y ∈ cs, 0 ≤ y) (ha : alwL cs = false) {k : Nat} {y : Int} (hy : cs[k]? = some y) : ∀ x ∈ cs.take k, varF x ≠ varF y := by
  intro x hx e
  have hm := List.mem_of_mem_take hx
  have my := List.mem_of_getElem? hy
  have x0 := h0 x hm
  have y0 := h0 y my
  have hxy : x ≠ y := by
    obtain ⟨hk, ey⟩ := List.getElem?_eq_some_iff.1 hy
    obtain ⟨i, hi, ei⟩ := List.mem_iff_getElem.1 hx
    rw [List.getElem_take] at ei
    rw [List.pairwise_iff_getElem] at hr
    have := hr i k (by simp at hi; omega) hk (by simp at hi; omega)
    omega
  have e2 : x / 2 = y / 2 := by
    simp only [varF] at e
    rw [if_neg (by omega), if_neg (by omega)] at e
    exact e
  have hn : notF x = y := by
    simp only [notF]
    rw [if_neg (by omega)]
    split <;> omega
  have : alwL cs = true := List.any_eq_true.2 ⟨x, hm, by rw [hasF_mem, hn]; exact my⟩
  rw [ha] at this; simp at this

theorem falls_set {cs : List Int} {bs : List Bool} {k : Nat} {y : Int} (h : Falls (cs.take k) bs) (hy : cs[k]? = some y) (h0 : ∀ x ∈ cs, 0 ≤ x) (hq : (varF y).toNat < bs.length) (ha : ∀ x ∈ cs.take k, varF x ≠ varF y) : Falls (cs.take (k + 1)) (bs.set (varF y).toNat (negF y)) := by
  intro x hx
  rw [List.take_add_one, hy] at hx
  rcases List.mem_append.1 hx with hx | hx
  · have hne := ha x hx
    have n1 : 0 ≤ varF x := by have := h0 x (List.mem_of_mem_take hx); simp only [varF]; rw [if_neg (by omega)]; omega
    have n2 : 0 ≤ varF y := by have := h0 y (List.mem_of_getElem? hy); simp only [varF]; rw [if_neg (by omega)]; omega
    rw [List.getElem?_set_ne (by omega)]
    exact h x hx
  · simp at hx
    subst hx
    rw [List.getElem?_set_self hq]

theorem falls_end {xs cs : List Int} {bs : List Bool} (h : Falls cs bs) (h0 : ∀ x ∈ cs, 0 ≤ x) (hm : ∀ x, x ∈ xs → x ∈ cs) : holdsF xs bs.length (fun i => bs.getD i false) = false := by
  cases e : holdsF xs bs.length (fun i => bs.getD i false)
  · rfl
  · exfalso
    obtain ⟨x, hx, hh⟩ := (holds_iff _ _ _).1 e
    have hc := hm x hx
    have x0 := h0 x hc
    have hn : ¬ x < 0 := by omega
    have hf := h x hc
    have ev : varF x = x / 2 := by simp [varF, hn]
    rw [ev] at hf
    obtain ⟨hl, hv⟩ := List.getElem?_eq_some_iff.1 hf
    have ht : truF (x / 2) bs.length (fun i => bs.getD i false) = negF x := by
      have : x / 2 < (bs.length : Int) := by omega
      simp [truF, this, hl, hv]
    simp only [holF, hn, if_false, ht] at hh
    simp at hh

theorem holds_rise (xs : List Int) (len : Nat) (B : Nat → Bool) : holdsF (rise xs) len B = holdsF xs len B := by
  rw [Bool.eq_iff_iff, holds_iff, holds_iff]
  simp only [mem_rise]

theorem holds_always {xs : List Int} (h : badL xs = false) (ha : alwF xs = true) (len : Nat) (B : Nat → Bool) : holdsF xs len B = true := by
  rw [(nrm_of_good h).2.1] at ha
  obtain ⟨x, hx, hh⟩ := List.any_eq_true.1 ha
  rw [hasF_mem] at hh
  rw [holds_iff]
  cases e : holF x len B
  · exact ⟨_, hh, by rw [hol_not (good_mem h x hx), e]; rfl⟩
  · exact ⟨x, hx, e⟩

theorem normal_bad0 (ao : Option Addr) (n cap : Nat) (xs : List Int) (w : World) (h : Row w ao n cap xs) (hn : n ≤ 1000) (hx : badL xs = true) :
    Calls Try.prog 9 #[.slice ao n cap] w fun e w' => ∃ bo c, e = .returned (.tuple #[.slice bo 0 c, .bool false, .int .i64 10]) ∧ Below w.heap.size w w' := by
  refine (normal_any ao n cap xs w h hn).mono ?_
  rintro e w' ⟨bo, m, c, rfl, hr, hb⟩
  obtain ⟨e0, e1, e2⟩ := nrm_of_bad hx
  rw [e0] at hr
  have hm : m = 0 := hr.out.1.symm
  subst hm
  rw [e1, e2]
  exact ⟨_, _, rfl, hb⟩

end Go.Proofs.Ytgnoejcekbfkoaa
