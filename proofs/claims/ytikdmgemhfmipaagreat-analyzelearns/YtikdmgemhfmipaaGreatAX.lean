/-
  The chapter's example.
-/
import Derived.Test.YtikdmgemhfmipaaGreatAV
import Derived.Test.YtikdmgemhfmipaaGreatAW
import Derived.Test.YtikdmgemhfmipaaGreatMT2
namespace Go.Proofs.YtikdmgemhfmipaaGreat
open Go.RowKit
set_option linter.unusedVariables false

def aL1 : List E := [⟨0, 1, -1⟩]
def aL2 : List E := [⟨0, 1, -1⟩, ⟨2, 1, 0⟩]
def aCl : List (List Int) := [[1, 2], [1, 3]]

theorem aw_cnt : cntF 2 = 2 := by decide

theorem aw_dec {n : Nat} (h : n = cntF 2) : mayF n [] 0 = true ∧ addL n [] 0 (0 + 1) (-1) = aL1 ∧ decV n [] 0 0 = 1 := by
  rw [h, aw_cnt]; exact ⟨rfl, rfl, rfl⟩
theorem aw_ass {n : Nat} (h : n = cntF 2) : mayF n aL1 2 = true ∧ addL n aL1 2 1 0 = aL2 := by
  rw [h, aw_cnt]; exact ⟨rfl, rfl⟩
theorem aw_yes : ∃ f, learnP aL2 1 aCl 1 = some (0, ⟨f, [0, 1], 1, []⟩) := ⟨_, rfl⟩
theorem aw_no : learnP aL2 1 aCl 0 = none := rfl
theorem aw_glue : (glueF aL2 [0, 2, 3]).2 = 1 := rfl
theorem aw_rise : riseI (natI [0, 1]) = [0, 1] := by
  have e : natI [0, 1] = [0, 1] := rfl
  rw [e]
  exact List.mergeSort_of_pairwise (by simp)

/-- Two clauses in three blocks. -/
structure G3 (B : Nat) (w : World) : Prop where
  a : w.heap[B]? = some (.cells #[.int .i64 1, .int .i64 2] 3 (0, 0))
  b : w.heap[B + 1]? = some (.cells #[.int .i64 1, .int .i64 3] 3 (0, 0))
  c : w.heap[B + 1 + 1]? = some (.cells #[.slice (some ⟨B, 0, none⟩) 2 2, .slice (some ⟨B + 1, 0, none⟩) 2 2] 23 (0, 0))

theorem two_row {w : World} {b : Nat} {x y : Int} (h : w.heap[b]? = some (.cells #[.int .i64 x, .int .i64 y] 3 (0, 0))) (hx : -9223372036854775808 ≤ x ∧ x ≤ 9223372036854775807) (hy : -9223372036854775808 ≤ y ∧ y ≤ 9223372036854775807) : U.Row w (some ⟨b, 0, none⟩) 2 2 [x, y] := by
  refine ⟨rfl, Nat.le_refl _, by unfold maxLen; omega, fun e => (by cases e), fun z hz => ?_, fun _ => ⟨b, 0, rfl, fun j hj => ?_⟩⟩
  · simp at hz; rcases hz with rfl | rfl
    · exact hx
    · exact hy
  · rw [cell_of h]
    match j, hj with
    | 0, _ => rfl
    | 1, _ => rfl

theorem three_row {w : World} {b : Nat} {x y z : Int} (h : w.heap[b]? = some (.cells #[.int .i64 x, .int .i64 y, .int .i64 z] 3 (0, 0))) (hx : -9223372036854775808 ≤ x ∧ x ≤ 9223372036854775807) (hy : -9223372036854775808 ≤ y ∧ y ≤ 9223372036854775807) (hz : -9223372036854775808 ≤ z ∧ z ≤ 9223372036854775807) : U.Row w (some ⟨b, 0, none⟩) 3 3 [x, y, z] := by
  refine ⟨rfl, Nat.le_refl _, by unfold maxLen; omega, fun e => (by cases e), fun u hu => ?_, fun _ => ⟨b, 0, rfl, fun j hj => ?_⟩⟩
  · simp at hu; rcases hu with rfl | rfl | rfl
    · exact hx
    · exact hy
    · exact hz
  · rw [cell_of h]
    match j, hj with
    | 0, _ => rfl
    | 1, _ => rfl
    | 2, _ => rfl

theorem G3.grid {B : Nat} {w : World} (h : G3 B w) : U.Grid w (some ⟨B + 1 + 1, 0, none⟩) 2 2 aCl := by
  refine ⟨rfl, Nat.le_refl _, by unfold maxLen; omega, fun e => (by cases e), fun _ => ⟨_, 0, rfl, fun j hj => ?_⟩⟩
  match j, hj with
  | 0, _ => exact ⟨_, _, _, (cell_of h.c).trans rfl, two_row h.a (by omega) (by omega)⟩
  | 1, _ => exact ⟨_, _, _, (cell_of h.c).trans rfl, two_row h.b (by omega) (by omega)⟩

theorem G3.new (w : World) : G3 w.heap.size (((w.alloc (.cells #[.int .i64 1, .int .i64 2] 3)).alloc (.cells #[.int .i64 1, .int .i64 3] 3)).alloc (.cells #[.slice (some ⟨w.heap.size, 0, none⟩) 2 2, .slice (some ⟨w.heap.size + 1, 0, none⟩) 2 2] 23)) := by
  refine ⟨?_, ?_, ?_⟩
  · rw [heap_alloc_old _ _ (by simp; omega), heap_alloc_old _ _ (by simp)]; exact new_same w _
  · rw [heap_alloc_old _ _ (by simp)]
    have := new_same (w.alloc (.cells #[.int .i64 1, .int .i64 2] 3)) (.cells #[.int .i64 1, .int .i64 3] 3)
    rw [World.size_alloc] at this
    exact this
  · have := new_same ((w.alloc (.cells #[.int .i64 1, .int .i64 2] 3)).alloc (.cells #[.int .i64 1, .int .i64 3] 3)) (.cells #[.slice (some ⟨w.heap.size, 0, none⟩) 2 2, .slice (some ⟨w.heap.size + 1, 0, none⟩) 2 2] 23)
    rw [World.size_alloc, World.size_alloc] at this
    exact this

section
variable {k : K} {w w1 w' : World} {L : List E} {lev : Nat} {p p' : V} {B : Nat}

/-- They, and that they are not the trail's. -/
structure A3 (k : K) (p : V) (B : Nat) (w : World) : Prop where
  g : G3 B w
  n : ∀ j, B ≤ j → j < B + 3 → ¬ Mine k p j

theorem A3.fr (h : A3 k p B w) (f : Fr k p p' w w') : A3 k p' B w' := by
  have h0 := blk_lt h.g.a
  have h1 := blk_lt h.g.b
  have h2 := blk_lt h.g.c
  refine ⟨⟨?_, ?_, ?_⟩, fun j hj hj2 hm => h.n j hj hj2 (f.new j ?_ hm)⟩
  · rw [f.block _ h0 (h.n _ (by omega) (by omega))]; exact h.g.a
  · rw [f.block _ h1 (h.n _ (by omega) (by omega))]; exact h.g.b
  · rw [f.block _ h2 (h.n _ (by omega) (by omega))]; exact h.g.c
  · have : j = B ∨ j = B + 1 ∨ j = B + 1 + 1 := by omega
    rcases this with rfl | rfl | rfl <;> assumption

theorem A3.new (t : Trl k w L lev p) : A3 k p w.heap.size (((w.alloc (.cells #[.int .i64 1, .int .i64 2] 3)).alloc (.cells #[.int .i64 1, .int .i64 3] 3)).alloc (.cells #[.slice (some ⟨w.heap.size, 0, none⟩) 2 2, .slice (some ⟨w.heap.size + 1, 0, none⟩) 2 2] 23)) :=
  ⟨G3.new w, fun j hj _ hm => by have := (t.lt hm).2; omega⟩

theorem A3.below (h : A3 k p B w) (b : Below w.heap.size w w') : A3 k p B w' := h.fr (Fr.below b)

theorem aw_three (w : World) (o1 o2 o3 : Obj) : Below w.heap.size w (((w.alloc o1).alloc o2).alloc o3) := by go_grown

/-- Learn, where it teaches. -/
theorem aw_learn1 (t : Trl k w aL2 1 p) (a : A3 k p B w) (hn : k.n = cntF 2) :
    Calls Tryz.prog 14 #[.pointer (some ⟨k.OB, 0, none⟩), .slice (some ⟨B + 1 + 1, 0, none⟩) 2 2, .int .i64 1] w fun e w' => ∃ g cc va vn vc, e = .returned (.tuple #[.slice (some ⟨g, 0, none⟩) 1 cc, .int .i64 0, .slice va vn vc, .bool true]) ∧ Hid (U.Row w' (some ⟨g, 0, none⟩) 1 cc [1]) ∧ Hid (U.Row w' va vn vc [0, 1]) ∧ Hid (Below w.heap.size w w') := by
  refine (learn_is t a.g.grid (by rw [hn, aw_cnt]; omega) 1).mono fun e w' h => ?_
  obtain ⟨f, hf⟩ := aw_yes
  rcases h with ⟨h, _⟩ | ⟨x, s1, g, cc, m, bk, va, vn, vc, es, h1, h2, h3⟩
  · rw [hf] at h; cases h
  · rw [hf] at h1
    cases h1
    have he : es = [] := List.Perm.eq_nil h3.perm
    subst he
    have hm := h3.row.1
    simp at hm
    subst hm
    have hb := h3.bk
    simp only [backF] at hb
    subst hb
    have hr := h3.met
    rw [aw_rise] at hr
    exact ⟨g, cc, va, vn, vc, h2, h3.row, hr, h3.be⟩

theorem aw_learn0 (t : Trl k w aL2 1 p) (a : A3 k p B w) (hn : k.n = cntF 2) :
    Calls Tryz.prog 14 #[.pointer (some ⟨k.OB, 0, none⟩), .slice (some ⟨B + 1 + 1, 0, none⟩) 2 2, .int .i64 0] w fun e w' => e = .returned (.tuple #[.slice none 0 0, .int .i64 0, .slice none 0 0, .bool false]) ∧ Hid (Below w.heap.size w w') := by
  refine (learn_is t a.g.grid (by rw [hn, aw_cnt]; omega) 0).mono fun e w' h => ?_
  rcases h with ⟨_, h1, h2⟩ | ⟨x, s1, g, cc, m, bk, va, vn, vc, es, h1, _⟩
  · exact ⟨h1, h2⟩
  · rw [aw_no] at h1; cases h1

theorem aw_glue1 (t : Trl k w aL2 1 p) (hn : k.n = cntF 2) {q : Nat} (hq : w.heap[q]? = some (.cells #[.int .i64 0, .int .i64 2, .int .i64 3] 3 (0, 0))) :
    Calls Tryz.prog 16 #[.pointer (some ⟨k.OB, 0, none⟩), .slice (some ⟨q, 0, none⟩) 3 3] w fun e w' => e = .returned (.int .i64 1) ∧ Hid (Below w.heap.size w w') := by
  refine (glue_is t (by rw [hn, aw_cnt]; omega) (three_row hq (by omega) (by omega) (by omega)) (fun x hx => by simp at hx; omega) (by omega)).mono fun e w' h => ?_
  rw [aw_glue] at h
  exact ⟨h.1, h.2⟩

theorem same_yes {w : World} {ao bo : Option Addr} {n m cap cbp : Nat} {xs : List Int} (h : U.Row w ao n cap xs) (g : U.Row w bo m cbp xs) :
    Calls Tryz.prog 15 #[.slice ao n cap, .slice bo m cbp] w fun e w' => e = .returned (.bool true) ∧ Hid (Below w.heap.size w w') := by
  refine (U.same_any ao bo n m cap cbp xs xs w h g).mono fun e w' q => ?_
  have : U.sameF xs xs = true := by simp [U.sameF]
  rw [this] at q
  exact ⟨q.1, q.2⟩
end

theorem aw_one (w : World) (o : Obj) : Below w.heap.size w (w.alloc o) := by go_grown
theorem aw_two (w : World) : U.Row (w.alloc (.cells #[.int .i64 0, .int .i64 1] 3)) (some ⟨w.heap.size, 0, none⟩) 2 2 [0, 1] := two_row (new_same w _) (by omega) (by omega)
theorem aw_thr (w : World) : (w.alloc (.cells #[.int .i64 0, .int .i64 2, .int .i64 3] 3)).heap[w.heap.size]? = some (.cells #[.int .i64 0, .int .i64 2, .int .i64 3] 3 (0, 0)) := new_same w _

set_option maxHeartbeats 4000000 in
set_option maxRecDepth 20000 in
theorem awake_is (w : World) : Calls Tryz.prog 5 #[] w fun e w' => e = .returned (.bool true) ∧ Hid (Below w.heap.size w w') := by
  have I1 : Hid ((-9223372036854775808 : Int) ≤ 1 ∧ (1 : Int) ≤ 9223372036854775807) := hid (by omega)
  have I2 : Hid ((2 : Int) ≤ 9223372036854775807) := hid (by omega)
  have I0 : Hid ((0 : Int) ≤ 9223372036854775807) := hid (by omega)
  go_enter Tryz.func5, Tryz.ntmps5
  go_wp2_with (first
    | (go_at_call 6; with_reducible (refine (new_is _ _).mono ?_); rintro e w1 ⟨k, rfl, t1, n1, bB, b1⟩; have A1 := hid (A3.new t1.out); have T4 := hid (t1.out.below (aw_three w1 (.cells #[.int .i64 1, .int .i64 2] 3) (.cells #[.int .i64 1, .int .i64 3] 3) (.cells #[.slice (some ⟨w1.heap.size, 0, none⟩) 2 2, .slice (some ⟨w1.heap.size + 1, 0, none⟩) 2 2] 23))); have D1 := hid (aw_dec n1.out); have D2 := hid (aw_ass n1.out); have B4 := hid (Below.next b1.out (aw_three w1 (.cells #[.int .i64 1, .int .i64 2] 3) (.cells #[.int .i64 1, .int .i64 3] 3) (.cells #[.slice (some ⟨w1.heap.size, 0, none⟩) 2 2, .slice (some ⟨w1.heap.size + 1, 0, none⟩) 2 2] 23))))
    | (go_at_call 10; with_reducible (refine (decide_is T4.out _ I0.out D1.out.1 D1.out.2.1 D1.out.2.2).mono ?_); rintro e w5 ⟨p5, rfl, t5, f5⟩; have A5 := hid (A1.out.fr f5.out); have B5 := hid (T4.out.be f5.out bB.out B4.out))
    | (go_at_call 13; with_reducible (refine (assign_is t5.out _ _ I2.out D2.out.1 D2.out.2).mono ?_); rintro e w6 ⟨p6, rfl, t6, f6⟩; have A6 := hid (A5.out.fr f6.out); have B6 := hid (t5.out.be f6.out bB.out B5.out))
    | (go_at_call 14; with_reducible (refine (aw_learn1 t6.out A6.out n1.out).mono ?_); rintro e w7 ⟨g7, cc7, va7, vn7, vc7, rfl, r7, m7, b7⟩; have A7 := hid (A6.out.below b7.out); have T7 := hid (t6.out.below b7.out))
    | (go_at_call 14; with_reducible (refine (aw_learn0 T7.out A7.out n1.out).mono ?_); rintro e w8 ⟨rfl, b8⟩; have T8 := hid (T7.out.below b8.out); have R8 := hid ((r7.out.keep b8.out).keep (aw_one w8 (.cells #[.int .i64 1] 3))); have M8 := hid (m7.out.keep b8.out))
    | (go_at_call 15; with_reducible (refine (same_yes R8.out (U.row_one _ _ I1.out.1 I1.out.2)).mono ?_); rintro e w9 ⟨rfl, b9⟩; have B9 := hid (Below.next (aw_one w8 (.cells #[.int .i64 1] 3)) b9.out); have M9 := hid ((M8.out.keep B9.out).keep (aw_one w9 (.cells #[.int .i64 0, .int .i64 1] 3))); have T9 := hid (T8.out.below B9.out); have Z9 := hid (aw_two w9))
    | (go_at_call 15; with_reducible (refine (same_yes M9.out Z9.out).mono ?_); rintro e w10 ⟨rfl, b10⟩; have B10 := hid (Below.next (aw_one w9 (.cells #[.int .i64 0, .int .i64 1] 3)) b10.out); have T10 := hid ((T9.out.below B10.out).below (aw_one w10 (.cells #[.int .i64 0, .int .i64 2, .int .i64 3] 3))); have Z10 := hid (aw_thr w10))
    | (go_at_call 16; with_reducible (refine (aw_glue1 T10.out n1.out Z10.out).mono ?_); rintro e w11 ⟨rfl, b11⟩))
  go_ret
  refine ⟨rfl, hid ?_⟩
  have c1 := Below.next (Below.next (Below.next B6.out b7.out) b8.out) B9.out
  exact Below.next (Below.next c1 B10.out) (Below.next (aw_one w10 (.cells #[.int .i64 0, .int .i64 2, .int .i64 3] 3)) b11.out)

end Go.Proofs.YtikdmgemhfmipaaGreat
