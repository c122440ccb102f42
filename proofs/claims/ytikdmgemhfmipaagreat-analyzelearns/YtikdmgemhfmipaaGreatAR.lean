/-
  What is learned: the clause.
-/
import Derived.Test.YtikdmgemhfmipaaGreatAQ
namespace Go.Proofs.YtikdmgemhfmipaaGreat
open Go.RowKit Go.Sort
set_option linter.unusedVariables false

section
variable {k : SK} {w0 w w1 w' : World} {kt : K} {L : List E} {lev : Nat} {p : V} {cls : List (List Int)} {s s' : PS} {v v' : SV} {n : Nat}

/-- The others, in memory. -/
theorem Sr.orow (h : Sr k w s v) (hb : ∀ x ∈ s.oth, 0 ≤ x ∧ x < 2 * (n : Int)) (hn : n ≤ 4096) (hl : s.oth.length ≤ n) : ∃ a c, v.ov = .slice a s.oth.length c ∧ U.Row w a s.oth.length c s.oth := by
  have own : U.Own w (k.SB + 1) v.ov s.oth := ⟨h.ot, fun x hx => by have := hb x hx; omega⟩
  obtain ⟨a, c, e, r⟩ := own.row
  exact ⟨a, c, e, r⟩

/-- What is learned lies in a block of its own. -/
structure Ln (w w' : World) (g c : Nat) (x : Int) (es : List Int) : Prop where
  hg : w.heap.size ≤ g ∧ g < w'.heap.size
  hc : es.length + 1 ≤ c ∧ c ≤ maxLen
  cells : ∀ (j : Nat) (y : Int), (x :: es)[j]? = some y → w'.cell? ⟨g, j, none⟩ = some (.int .i64 y)

theorem Ln.row {g c : Nat} {x : Int} {es : List Int} (h : Ln w w' g c x es) (hf : U.Fit (x :: es)) : U.Row w' (some ⟨g, 0, none⟩) (es.length + 1) c (x :: es) := by
  refine ⟨by simp, h.hc.1, h.hc.2, fun e => (by cases e), hf, fun _ => ⟨g, 0, rfl, fun j hj => ?_⟩⟩
  rw [Nat.zero_add]
  refine h.cells j _ ?_
  have : j < (x :: es).length := by simpa using hj
  rw [List.getD_eq_getElem?_getD, List.getElem?_eq_getElem this]; rfl

theorem Rn.grownS (c : Cm k w0 kt L lev p cls) {g : Nat} (h : Rn k w0 n w s v) (gr : w.grownBy w' (some g)) (h1 : ∀ j, MineS k v j → j ≠ g) (h2 : w0.heap.size ≤ g) : Rn k w0 n w' s v :=
  ⟨h.r.same (fun j hj => gr.block j (h.r.mine hj).2.1 (fun e => h1 j hj (Option.some.inj e))), ⟨gr.os.trans h.b.os, gr.tape.trans h.b.tape, gr.output.trans h.b.output, Nat.le_trans h.b.size gr.size, fun j hj => (gr.block j (Nat.lt_of_lt_of_le hj h.b.size) (fun e => by have := Option.some.inj e; omega)).trans (h.b.block j hj)⟩, h.wf, h.m2⟩

theorem below_from {a b : World} {B : Nat} {o o2 : Obj} (h : Below B ((a.alloc o).alloc o2) b) (hB : B = a.heap.size) : Below a.heap.size a b := by
  subst hB
  have h0 : Below a.heap.size a ((a.alloc o).alloc o2) := by go_grown
  exact h0.trans h

theorem cw4 {k' : Addr} {o2 o3 : Obj} {w4 : World} (h : Rn k w0 n w s v) (b4 : Below (w.heap.size + 1) (((w.alloc (.cells #[.pointer (some k')] 92)).alloc o2).alloc o3) w4) : Rn k w0 n w4 s v ∧ w4.cell? ⟨w.heap.size, 0, none⟩ = some (.pointer (some k')) ∧ w.heap.size + 1 ≤ w4.heap.size := by
  have h1 : Below w.heap.size w (((w.alloc (.cells #[.pointer (some k')] 92)).alloc o2).alloc o3) := by go_grown
  have h2 : Below w.heap.size w w4 := h1.trans (b4.mono (Nat.le_succ _))
  refine ⟨h.below h2, ?_, ?_⟩
  · rw [b4.cell (p := ⟨w.heap.size, 0, none⟩) (Nat.lt_succ_self _)]
    have hb : (((w.alloc (.cells #[.pointer (some k')] 92)).alloc o2).alloc o3).heap[w.heap.size]? = some (.cells #[.pointer (some k')] 92 (0, 0)) := by
      rw [heap_alloc_old _ _ (by simp; omega), heap_alloc_old _ _ (by simp)]
      exact new_same w _
    exact (cell_of hb).trans rfl
  · have := b4.size
    simp at this
    omega

theorem cw5 {N co : Nat} {ao : Option Addr} (h : Rn k w0 n w s v) (hb : ∀ x ∈ s.oth, 0 ≤ x ∧ x < 2 * (n : Int)) (hn : n ≤ 4096) (he : v.ov = .slice ao N co) (hN : s.oth.length = N) : U.Row w ao N co s.oth := by
  obtain ⟨a, c, e, r⟩ := h.r.orow hb hn (by have := h.wf.ol; have := h.wf.len; omega)
  rw [he, hN] at e
  cases e
  rw [hN] at r
  exact r

theorem cw6 {B : Nat} {w4 w5 : World} {x : Value} (h : Rn k w0 n w4 s v) (t4 : w4.cell? ⟨B, 0, none⟩ = some x) (b5 : Below (B + 1) w4 w5) (hl : ∀ j, MineS k v j → j < B + 1) (hw : w0.heap.size ≤ B) : Rn k w0 n w5 s v ∧ w5.cell? ⟨B, 0, none⟩ = some x :=
  ⟨⟨h.r.same (fun j hj => b5.block j (hl j hj)), h.b.trans (b5.mono (by omega)), h.wf, h.m2⟩, (b5.cell (p := ⟨B, 0, none⟩) (Nat.lt_succ_self _)).trans t4⟩

theorem cw7 {g : Nat} (c : Cm k w0 kt L lev p cls) (h : Rn k w0 n w s v) (hB : w.heap.size + 1 ≤ g) : g ≠ k.SB ∧ ¬ Mine kt p g ∧ g ≠ w.heap.size ∧ (∀ j, MineS k v j → j ≠ g) ∧ w0.heap.size ≤ g := by
  have h1 := h.r.lt
  have h2 := h.b.size
  refine ⟨by omega, fun m => by have := (c.t.lt m).2; omega, by omega, fun j hj => by have := (h.r.mine hj).2.1; omega, by omega⟩

theorem cw8 {a : Nat} (h : a + 1 ≤ 1) : a = 0 := by omega

theorem cw9 {o1 o2 o3 : Obj} {w4 w5 : World} (b4 : Below (w.heap.size + 1) (((w.alloc o1).alloc o2).alloc o3) w4) (b5 : Below (w.heap.size + 1) w4 w5) : Below w.heap.size w w5 := by
  have h1 : Below w.heap.size w (((w.alloc o1).alloc o2).alloc o3) := by go_grown
  exact (h1.trans (b4.mono (Nat.le_succ _))).trans (b5.mono (Nat.le_succ _))

theorem sort_empty (m : Nat) (hm : m = 0) (q : Option Addr) (fv : Value) (w : World) : Calls Tryz.prog 54 #[.slice q m 0, fv] w fun e w' => e = .returned (.tuple #[]) ∧ w' = w := by
  subst hm; exact Tryz.slices_SortFunc_none (α := Nat) q 0 fv w

set_option maxRecDepth 20000 in
set_option maxHeartbeats 4000000 in
theorem clauseWith_is (c : Cm k w0 kt L lev p cls) (h : Rn k w0 kt.n w s v) (x : Int) (hx : 0 ≤ x ∧ x ≤ 9223372036854775807) :
    Calls Tryz.prog 35 #[.pointer (some ⟨k.SB, 0, none⟩), .int .i64 x] w fun e w' => ∃ g cc es, e = .returned (.slice (some ⟨g, 0, none⟩) (s.oth.length + 1) cc) ∧ Hid (Ln w w' g cc x es) ∧ Hid (es.Perm s.oth ∧ Fall L es) ∧ Hid (Rn k w0 kt.n w' s v) ∧ Hid (Below w.heap.size w w') := by
  have hkn := c.hn
  have hol := h.wf.ol
  have hml := h.wf.len
  have hob := h.wf.ob
  obtain ⟨N, hN⟩ : ∃ N, s.oth.length = N := ⟨_, rfl⟩
  have hb1 : Below w.heap.size w (w.alloc (.cells #[.pointer (some ⟨k.SB, 0, none⟩)] 92)) := by go_grown
  have R1 := hid (h.below hb1)
  obtain ⟨ao, co, eo, ro⟩ := R1.out.r.orow hob hkn (by omega)
  have c6 := R1.out.r.c.2.2.2.2.2.2
  rw [eo, hN] at c6
  rw [hN] at ro
  have hmk := make_ints N (by omega) (w.alloc (.cells #[.pointer (some ⟨k.SB, 0, none⟩)] 92))
  have hO := own_made (w.alloc (.cells #[.pointer (some ⟨k.SB, 0, none⟩)] 92)) N (by omega)
  rw [World.size_alloc] at hO
  have HO := hid hO
  clear hO
  have hmc := ro.2.1
  have HRo := hid ro
  have HR := hid h
  have HC := hid c
  have HN := hid hN
  have HEO : Hid (v.ov = .slice ao N co) := hid (by rw [eo, hN])
  have hx1 : -9223372036854775808 ≤ x := by omega
  have hx2 := hx.2
  have hNI : (N : Int) ≤ 4096 := by omega
  have hNw : (1 : Int) + N ≤ 9223372036854775807 := by omega
  have HB := hid hob
  have hX := U.row_one ((w.alloc (.cells #[.pointer (some ⟨k.SB, 0, none⟩)] 92)).alloc (.cells (madeCells #[.int .i64 0] (N + 1)) 3)) x hx1 hx2
  simp only [World.size_alloc] at hX
  have HX := hid hX
  clear hX
  have HB8 : Hid (∀ y ∈ s.oth, 0 ≤ y ∧ y < 8192) := hid (fun y hy => by have := hob y hy; omega)
  have HLN : Hid (s.oth.length ≤ 100000) := hid (by omega)
  have HML : Hid (∀ j, MineS k v j → j < w.heap.size + 1) := hid (fun j hj => by have := (h.r.mine hj).2.1; omega)
  have HW0 : Hid (w0.heap.size ≤ w.heap.size) := hid h.b.size
  clear hob ro h c eo hN hx
  go_enter Tryz.func35, Tryz.ntmps35
  go_wp2_with (first
    | (at_builtin; refine U.append_ints rfl _ _ rfl (w.heap.size + 1) _ [] [x] rfl (HO.out.alloc _) _ 1 1 rfl HX.out (by simp) (by simp) ?_; intro v4 w4 o4 b4; have P4 := cw4 HR.out b4.out; obtain ⟨q4, t4, z4⟩ := P4; have R4 := hid q4; clear q4; have c64 := R4.out.r.c.2.2.2.2.2.2; rw [HEO.out] at c64)
    | (at_builtin; refine U.append_ints rfl _ _ rfl (w.heap.size + 1) _ _ s.oth rfl o4.out ao N co rfl (cw5 R4.out HB.out hkn HEO.out HN.out) (by simp; omega) z4 ?_; intro v5 w5 o5 b5; have P5 := cw6 R4.out t4 b5.out HML.out HW0.out; obtain ⟨q5, t5⟩ := P5; have R5 := hid q5; clear q5; have F5 := own_filled (x := x) (xs := s.oth) o5.out; obtain ⟨g5, c5, cur5, rfl, F5⟩ := F5; have H5 := hid F5; clear F5; have N5 := hid (cw7 HC.out HR.out H5.out.1); have S5 := hid (fun cc => sortFunc_is (x := x) (xs := s.oth) (c := cc) (HC.out.lvl R5.out) t5 N5.out.1 N5.out.2.1 N5.out.2.2.1 H5.out.2.1 H5.out.2.2.2.2 HB8.out HLN.out); by_cases hc5 : c5 = 1; rotate_left; rotate_left; subst hc5; have E5 := hid (cw8 H5.out.2.2.1); rotate_left)
    | (go_at_call 54; with_reducible (refine (S5.out _).mono ?_); rintro e w6 ⟨rfl, es, p6, g6, d6⟩)
    | (go_at_call 54; with_reducible (refine (sort_empty _ E5.out _ _ _).mono ?_); rintro e w6 ⟨rfl, rfl⟩))
  · go_ret
    have b6 : Below w.heap.size w w5 := cw9 b4.out b5.out
    have hl := p6.out.1.length_eq
    refine ⟨g5, c5, es, rfl, hid ⟨⟨by have := H5.out.1; omega, Nat.lt_of_lt_of_le (blk_lt H5.out.2.1) g6.out.size⟩, ⟨by rw [hl]; exact H5.out.2.2.1, H5.out.2.2.2.1⟩, d6.out⟩, p6, hid (R5.out.grownS HC.out g6.out N5.out.2.2.2.1 N5.out.2.2.2.2), hid ?_⟩
    exact b6.trans (below_grown g6.out (fun j e => by cases e; have := H5.out.1; omega) b6.size)
  · go_ret
    have b6 := cw9 b4.out b5.out
    have e0 := cw8 H5.out.2.2.1
    have e1 : s.oth = [] := List.eq_nil_of_length_eq_zero e0
    refine ⟨g5, 1, [], rfl, hid ⟨⟨by have := H5.out.1; omega, blk_lt H5.out.2.1⟩, ⟨by simp, by unfold maxLen; omega⟩, fun j y hj => H5.out.2.2.2.2 j y (by rw [e1]; exact hj)⟩, hid ⟨by rw [e1], by simp [Fall]⟩, R5, hid b6⟩
end

end Go.Proofs.YtikdmgemhfmipaaGreat
