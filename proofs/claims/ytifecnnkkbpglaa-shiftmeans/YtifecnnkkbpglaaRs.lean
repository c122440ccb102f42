/-
  What lies in memory while the document's Run goes on.
-/
import Derived.Test.YtifecnnkkbpglaaRl
import Derived.Laws.MakeOwn
namespace Go.Proofs.Ytifecnnkkbpglaa
open Go.RowKit
set_option linter.unusedVariables false

theorem Try.info4 : (Try.prog.info? 4).map (fun i => (i.zero, i.size, i.bytes)) = some (some (.bool false), 1, 1) := by kernel_rfl

def bC (n : Nat) : Array Value := ((List.replicate n false).map Value.bool).toArray
theorem made_bools (n : Nat) : madeCells #[.bool false] n = bC n := by
  apply Array.toList_inj.1
  apply List.ext_getElem
  · simp [madeCells, bC]
  · intro i h1 h2
    simp [madeCells, bC, Nat.mod_one]

theorem makeB (n : Nat) (hn : n ≤ 1000000) (w : World) : (Instr.makeSlice 35 (.int .i64 n) (.int .i64 n)).run Try.prog w = .ok (.slice (some ⟨w.heap.size, 0, none⟩) n n) (w.alloc (.cells (bC n) 4)) := by
  obtain ⟨i0, hi, hz0, hz1, hz2⟩ := info_parts Try.info4
  have := run_make (P := Try.prog) w 35 4 i0 (.bool false) Try.underlying35 hi hz0 .i64 .i64 n n (by omega) (Int.le_refl _) (by rw [hz2]; omega) (by omega)
  rw [this, hz1, ← made_bools]
  simp [Value.cells]

/-- A row of truths. -/
def Bl (w : World) (b n : Nat) (F : Nat → Bool) : Prop := ∃ c, w.heap[b]? = some (.cells c 4 (0, 0)) ∧ c.size = n ∧ ∀ i, i < n → c[i]? = some (.bool (F i))

theorem Bl.cell {w : World} {b n : Nat} {F : Nat → Bool} (h : Bl w b n F) {i : Nat} (hi : i < n) : w.cell? ⟨b, i, none⟩ = some (.bool (F i)) := by
  obtain ⟨c, e, hs, hc⟩ := h
  rw [cell_of e]; exact hc i hi
theorem Bl.frozen {w : World} {b n : Nat} {F : Nat → Bool} (h : Bl w b n F) (i : Nat) : w.frozen? ⟨b, i, none⟩ = false := by
  obtain ⟨c, e, _⟩ := h; exact frozen_of e
theorem Bl.same {w w' : World} {b n : Nat} {F : Nat → Bool} (h : Bl w b n F) (e : w'.heap[b]? = w.heap[b]?) : Bl w' b n F := by
  obtain ⟨c, e1, h2⟩ := h; exact ⟨c, e.trans e1, h2⟩
theorem Bl.set {w : World} {b n : Nat} {F : Nat → Bool} (h : Bl w b n F) (j : Nat) (t : Bool) : Bl (w.setCell ⟨b, j, none⟩ (.bool t)) b n (upV F j t) := by
  obtain ⟨c, e, hs, hc⟩ := h
  refine ⟨_, set_same e _, by simp [hs], fun i hi => ?_⟩
  by_cases e2 : i = j
  · subst e2
    simp [upV, hs, hi]
  · rw [Array.getElem?_setIfInBounds_ne (by omega), hc i hi]
    simp [upV, e2]
theorem Bl.new {w : World} {b n : Nat} (e : w.heap[b]? = some (.cells (bC n) 4 (0, 0))) : Bl w b n (fun _ => false) :=
  ⟨_, e, by simp [bC], fun i hi => by simp [bC, hi]⟩

structure RS (w0 wx : World) (rb vb kb ib n : Nat) (K I : Nat → Bool) : Prop where
  be : Below w0.heap.size w0 wx
  r : ∃ c0 c1, wx.heap[rb]? = some (.cells #[c0, c1] 37 (0, 0))
  v : wx.heap[vb]? = some (.cells #[.slice (some ⟨kb, 0, none⟩) n n, .slice (some ⟨ib, 0, none⟩) n n] 37 (0, 0))
  k : Bl wx kb n K
  i : Bl wx ib n I
  ne1 : rb ≠ vb
  ne2 : kb ≠ ib
  lo : w0.heap.size ≤ rb ∧ w0.heap.size ≤ vb ∧ w0.heap.size ≤ kb ∧ w0.heap.size ≤ ib

theorem Bl.typ {w : World} {b n : Nat} {F : Nat → Bool} (h : Bl w b n F) : ∃ c, w.heap[b]? = some (.cells c 4 (0, 0)) := by
  obtain ⟨c, e, _⟩ := h; exact ⟨c, e⟩

section
variable {w0 wx w' : World} {rb vb kb ib n : Nat} {K I : Nat → Bool}

theorem RS.below (h : RS w0 wx rb vb kb ib n K I) (b : Below wx.heap.size wx w') : RS w0 w' rb vb kb ib n K I := by
  obtain ⟨ck, ek⟩ := h.k.typ
  obtain ⟨ci, ei⟩ := h.i.typ
  obtain ⟨c0, c1, er⟩ := h.r
  exact ⟨Below.next h.be b, ⟨c0, c1, (b.block _ (blk_lt er)).trans er⟩, (b.block _ (blk_lt h.v)).trans h.v, h.k.same (b.block _ (blk_lt ek)), h.i.same (b.block _ (blk_lt ei)), h.ne1, h.ne2, h.lo⟩
theorem RS.drew (h : RS w0 wx rb vb kb ib n K I) : RS w0 wx.drew rb vb kb ib n K I := h.below (below_drew _)

theorem RS.setk (h : RS w0 wx rb vb kb ib n K I) (j : Nat) (t : Bool) : RS w0 (wx.setCell ⟨kb, j, none⟩ (.bool t)) rb vb kb ib n (upV K j t) I := by
  obtain ⟨ck, ek⟩ := h.k.typ
  obtain ⟨ci, ei⟩ := h.i.typ
  obtain ⟨c0, c1, er⟩ := h.r
  refine ⟨h.be.setCell h.lo.2.2.1 _, ⟨c0, c1, ?_⟩, ?_, h.k.set j t, h.i.same (Below.heap_setCell _ _ _ _ (fun e => h.ne2 e.symm)), h.ne1, h.ne2, h.lo⟩
  · rw [Below.heap_setCell _ _ _ _ (fun e => blk_ne er ek (by decide) e)]; exact er
  · rw [Below.heap_setCell _ _ _ _ (fun e => blk_ne h.v ek (by decide) e)]; exact h.v
theorem RS.seti (h : RS w0 wx rb vb kb ib n K I) (j : Nat) (t : Bool) : RS w0 (wx.setCell ⟨ib, j, none⟩ (.bool t)) rb vb kb ib n K (upV I j t) := by
  obtain ⟨ck, ek⟩ := h.k.typ
  obtain ⟨ci, ei⟩ := h.i.typ
  obtain ⟨c0, c1, er⟩ := h.r
  refine ⟨h.be.setCell h.lo.2.2.2 _, ⟨c0, c1, ?_⟩, ?_, h.k.same (Below.heap_setCell _ _ _ _ (fun e => h.ne2 e)), h.i.set j t, h.ne1, h.ne2, h.lo⟩
  · rw [Below.heap_setCell _ _ _ _ (fun e => blk_ne er ei (by decide) e)]; exact er
  · rw [Below.heap_setCell _ _ _ _ (fun e => blk_ne h.v ei (by decide) e)]; exact h.v

theorem RS.vs (h : RS w0 wx rb vb kb ib n K I) : Vs wx kb ib n K I := fun i hi => ⟨h.k.cell hi, h.i.cell hi⟩
theorem RS.v0 (h : RS w0 wx rb vb kb ib n K I) : wx.cell? ⟨vb, 0, none⟩ = some (.slice (some ⟨kb, 0, none⟩) n n) := by rw [cell_of h.v]; rfl
theorem RS.v1 (h : RS w0 wx rb vb kb ib n K I) : wx.cell? ⟨vb, 1, none⟩ = some (.slice (some ⟨ib, 0, none⟩) n n) := by rw [cell_of h.v]; rfl
theorem RS.rf (h : RS w0 wx rb vb kb ib n K I) (i : Nat) : wx.frozen? ⟨rb, i, none⟩ = false := by
  obtain ⟨c0, c1, e⟩ := h.r; exact frozen_of e
theorem RS.rc (h : RS w0 wx rb vb kb ib n K I) : ∃ c0 c1, wx.cell? ⟨rb, 0, none⟩ = some c0 ∧ wx.cell? ⟨rb, 1, none⟩ = some c1 := by
  obtain ⟨c0, c1, e⟩ := h.r
  exact ⟨c0, c1, by rw [cell_of e]; rfl, by rw [cell_of e]; rfl⟩
end

theorem push_at (a : Array Obj) (o : Obj) : (a.push o)[a.size]? = some o := by simp
theorem push_old (a : Array Obj) (o : Obj) (i : Nat) (h : i < a.size) : (a.push o)[i]? = a[i]? := by rw [Array.getElem?_push, if_neg (by omega)]
theorem push4 (w : World) (o0 o1 o2 o3 : Obj) : ((((w.alloc o0).alloc o1).alloc o2).alloc o3).drew.heap[w.heap.size]? = some o0 ∧ ((((w.alloc o0).alloc o1).alloc o2).alloc o3).drew.heap[w.heap.size + 1]? = some o1 ∧
    ((((w.alloc o0).alloc o1).alloc o2).alloc o3).drew.heap[w.heap.size + 1 + 1]? = some o2 ∧ ((((w.alloc o0).alloc o1).alloc o2).alloc o3).drew.heap[w.heap.size + 1 + 1 + 1]? = some o3 := by
  have e : ((((w.alloc o0).alloc o1).alloc o2).alloc o3).drew.heap = (((w.heap.push o0).push o1).push o2).push o3 := rfl
  rw [e]
  have s1 : (w.heap.push o0).size = w.heap.size + 1 := by simp
  have s2 : ((w.heap.push o0).push o1).size = w.heap.size + 1 + 1 := by simp
  have s3 : (((w.heap.push o0).push o1).push o2).size = w.heap.size + 1 + 1 + 1 := by simp
  refine ⟨?_, ?_, ?_, ?_⟩
  · rw [push_old _ _ _ (by omega), push_old _ _ _ (by omega), push_old _ _ _ (by omega), push_at]
  · rw [push_old _ _ _ (by omega), push_old _ _ _ (by omega), ← s1, push_at]
  · rw [push_old _ _ _ (by omega), ← s2, push_at]
  · rw [← s3, push_at]

/-! ### how many are not known -/
def unkK (n : Nat) (K : Nat → Bool) : Nat := ((List.range n).filter fun i => !K i).length
def isT : Option Value → Bool
  | some (.bool true) => true
  | _ => false
def unkW (w : World) (kb n : Nat) : Nat := ((List.range n).filter fun i => !isT (w.cell? ⟨kb, i, none⟩)).length

theorem unk_eq {w0 wx : World} {rb vb kb ib n : Nat} {K I : Nat → Bool} (h : RS w0 wx rb vb kb ib n K I) : unkW wx kb n = unkK n K := by
  unfold unkW unkK
  congr 1
  apply List.filter_congr
  intro i hi
  rw [h.k.cell (List.mem_range.1 hi)]
  cases K i <;> rfl

theorem filter_lt {l : List Nat} {p q : Nat → Bool} (h : ∀ i ∈ l, q i = true → p i = true) {k : Nat} (hk : k ∈ l) (hp : p k = true) (hq : q k = false) : (l.filter q).length < (l.filter p).length := by
  induction l with
  | nil => simp at hk
  | cons x xs ih =>
    have hle : (xs.filter q).length ≤ (xs.filter p).length := by
      clear ih hk
      induction xs with
      | nil => simp
      | cons y ys ih2 =>
        have h2 := ih2 (fun i hi => h i (by rcases List.mem_cons.1 hi with e | e <;> simp [e]))
        have hy := h y (by simp)
        simp only [List.filter_cons]
        cases hq2 : q y
        · cases p y <;> simp <;> omega
        · rw [hy hq2]; simp; omega
    rcases List.mem_cons.1 hk with rfl | hk
    · simp [hp, hq]; omega
    · have h2 := ih (fun i hi => h i (by simp [hi])) hk
      have hx := h x (by simp)
      simp only [List.filter_cons]
      cases hq2 : q x
      · cases p x <;> simp <;> omega
      · rw [hx hq2]; simp; omega

theorem unk_less {n k : Nat} {K : Nat → Bool} (hk : k < n) (h : K k = false) : unkK n (upV K k true) < unkK n K := by
  refine filter_lt (k := k) ?_ (List.mem_range.2 hk) (by simp [h]) (by simp [upV])
  intro i _ hi
  by_cases e : i = k
  · subst e; simp [upV] at hi
  · simpa [upV, e] using hi

/-! ### what holds while it goes on -/
structure RJ (n : Nat) (val : Nat → Bool) (is : List Int) (w0 wx : World) (rb vb kb ib : Nat) (K I : Nat → Bool) : Prop where
  rs : RS w0 wx rb vb kb ib n K I
  j : ∀ v, v < n → K v = true → I v = val v

theorem neg_hd {val : Nat → Bool} {x : Int} (h0 : 0 ≤ x) (h : hd val x = true) : (!negF x) = val (x / 2).toNat := by
  have e : negF x = (x % 2 == 1) := by
    rw [Bool.eq_iff_iff]; simp [negF]; omega
  rw [e]
  unfold hd at h
  cases h1 : val (x / 2).toNat <;> cases h2 : (x % 2 == 1) <;> rw [h1, h2] at h <;> simp_all

/-- A literal that must hold is known from now on. -/
theorem j_up {n k : Nat} {K I val : Nat → Bool} {x : Int} (j : ∀ v, v < n → K v = true → I v = val v) (h0 : 0 ≤ x) (hk : (x / 2).toNat = k) (h : hd val x = true) :
    ∀ v, v < n → upV K k true v = true → upV I k (!negF x) v = val v := by
  intro v hv hu
  unfold upV at *
  by_cases e : v = k
  · rw [if_pos e, neg_hd h0 h, e, hk]
  · rw [if_neg e] at *
    exact j v hv hu

theorem up_keep {K : Nat → Bool} {k v : Nat} (h : K v = true) : upV K k true v = true := by
  unfold upV; split <;> simp_all

end Go.Proofs.Ytifecnnkkbpglaa
