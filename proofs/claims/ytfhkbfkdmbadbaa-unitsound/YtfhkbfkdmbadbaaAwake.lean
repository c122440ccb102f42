/-
  The chapter's example and others, as the statements ask them; lists of clauses that came in.
-/
import Derived.Test.YtfhkbfkdmbadbaaFollows
import Derived.Deep.Matrix
import Derived.Deep.Grids
namespace Go.Proofs.Ytfhkbfkdmbadbaa
open Go.RowKit
set_option linter.unusedVariables false

/-- Whatever list of clauses came in. -/
theorem grid_of {H : Type} {enc : TypeId × Value → H} {W : World} {base : Nat} {held : Bool} {fuel : Nat} {a : Option Addr} {len cap : Nat} {x : DataW H × List MemPlace}
    (h : DataW.trod enc Try.prog W base (fun _ => true) held fuel 22 (Value.slice a len cap).cells.toList = some x) : ∃ xss, Grid W a len cap xss := by
  rcases Go.Deep.open_int_rows (k := .i64) Try.underlying22 Try.underlying23 Try.underlying3 (by kernel_rfl) (by kernel_rfl) h with ⟨hcs, _⟩ | ⟨ad, l, c, A, L, C, Z, hcs, _, hl, hm, _, hrow⟩
  · simp [Value.cells] at hcs
    obtain ⟨rfl, rfl, rfl⟩ := hcs
    exact ⟨[], rfl, Nat.le_refl _, by unfold maxLen; omega, fun _ => rfl, fun h => by omega⟩
  · simp [Value.cells] at hcs
    obtain ⟨rfl, rfl, rfl⟩ := hcs
    refine ⟨(List.range len).map fun r => (Z r).take (L r), by simp, hl, hm, fun h => by simp at h, fun h0 => ?_⟩
    obtain ⟨b, off, spot⟩ := ad
    have hsp : spot = none := by
      have := (hrow 0 (by omega)).1
      simpa [Addr.add] using World.cell?_spot this
    subst hsp
    refine ⟨b, off, rfl, fun j hj => ?_⟩
    obtain ⟨h1, h2, h3, h4, h5, h6, h7⟩ := hrow j (by omega)
    refine ⟨A j, L j, C j, ?_, ?_⟩
    · by_cases hz : j = 0
      · subst hz; simpa [Addr.add] using h1
      · simpa [Addr.add, hz] using h1
    · have e : ((List.range len).map fun r => (Z r).take (L r)).getD j [] = (Z j).take (L j) := by simp [hj]
      rw [e]
      refine ⟨by simp; omega, h2, h3, h6, fun y hy => wf_i64 (h5 y (List.mem_of_mem_take hy)), fun hp => ?_⟩
      cases ha : A j with
      | none => have := h6 ha; omega
      | some a' =>
        obtain ⟨_, hc⟩ := h7 a' ha
        obtain ⟨b', off', spot'⟩ := a'
        have hsp' : spot' = none := by
          have := hc 0 (by omega)
          simpa [Addr.add] using World.cell?_spot this
        subst hsp'
        refine ⟨b', off', rfl, fun i hi => ?_⟩
        have hi2 := hc i (by omega)
        have e2 : ((Z j).take (L j)).getD i 0 = (Z j).getD i 0 := by simp [hi]
        rw [e2]
        by_cases hz : i = 0
        · subst hz; simpa [Addr.add] using hi2
        · simpa [Addr.add, hz] using hi2

theorem few_len {xss : List (List Int)} {most : Nat} (h : ¬ fewF xss most = 0) : xss.length ≤ most := by
  by_cases hl : (most : Int) < xss.length
  · exact absurd (by simp only [fewF]; rw [if_pos hl]) h
  · omega

theorem rowL (w : World) (xs : List Int) (hx : Fit xs) (hl : xs.length ≤ 1000) : Row (w.alloc (.cells (xs.map (Value.int .i64)).toArray 3)) (some ⟨w.heap.size, 0, none⟩) xs.length xs.length xs := by
  refine ⟨rfl, Nat.le_refl _, by unfold maxLen; omega, fun h => by simp at h, hx, fun _ => ⟨_, _, rfl, fun j hj => ?_⟩⟩
  rw [Nat.zero_add, cell_of_row _ _ _ _ _ _ (heap_alloc_new w _)]
  simp [hj]

theorem fit_of {xs : List Int} (h : xs.all (fun x => decide (-9223372036854775808 ≤ x ∧ x ≤ 9223372036854775807)) = true) : Fit xs := by
  intro x hx
  have := List.all_eq_true.1 h x hx
  simpa using this

theorem grid1 (w : World) (a : Option Addr) (n c : Nat) (xs : List Int) (h : Row w a n c xs) : Grid (w.alloc (.cells #[.slice a n c] 23)) (some ⟨w.heap.size, 0, none⟩) 1 1 [xs] := by
  refine ⟨rfl, Nat.le_refl _, by unfold maxLen; omega, fun h => by simp at h, fun _ => ⟨_, _, rfl, fun j hj => ?_⟩⟩
  obtain rfl : j = 0 := by omega
  exact ⟨a, n, c, by simp, h.keep (one_new _ _)⟩

theorem grid2 (w : World) (a a' : Option Addr) (n c n' c' : Nat) (xs ys : List Int) (h : Row w a n c xs) (h' : Row w a' n' c' ys) : Grid (w.alloc (.cells #[.slice a n c, .slice a' n' c'] 23)) (some ⟨w.heap.size, 0, none⟩) 2 2 [xs, ys] := by
  refine ⟨rfl, Nat.le_refl _, by unfold maxLen; omega, fun h => by simp at h, fun _ => ⟨_, _, rfl, fun j hj => ?_⟩⟩
  match j, hj with
  | 0, _ => exact ⟨a, n, c, by simp, h.keep (one_new _ _)⟩
  | 1, _ => exact ⟨a', n', c', by simp, h'.keep (one_new _ _)⟩

theorem grid0 (w : World) : Grid w none 0 0 [] := ⟨rfl, Nat.le_refl _, by unfold maxLen; omega, fun _ => rfl, fun h => by omega⟩

theorem lit1 (w : World) (xs : List Int) (hx : Fit xs) (hl : xs.length ≤ 1000) :
    Grid ((w.alloc (.cells (xs.map (Value.int .i64)).toArray 3)).alloc (.cells #[.slice (some ⟨w.heap.size, 0, none⟩) xs.length xs.length] 23)) (some ⟨w.heap.size + 1, 0, none⟩) 1 1 [xs] := by
  have := grid1 _ _ _ _ xs (rowL w xs hx hl)
  simpa using this

theorem lit2 (w : World) (xs ys : List Int) (hx : Fit xs) (hl : xs.length ≤ 1000) (hy : Fit ys) (hm : ys.length ≤ 1000) :
    Grid (((w.alloc (.cells (xs.map (Value.int .i64)).toArray 3)).alloc (.cells (ys.map (Value.int .i64)).toArray 3)).alloc (.cells #[.slice (some ⟨w.heap.size, 0, none⟩) xs.length xs.length, .slice (some ⟨w.heap.size + 1, 0, none⟩) ys.length ys.length] 23)) (some ⟨w.heap.size + 2, 0, none⟩) 2 2 [xs, ys] := by
  have r1 := (rowL w xs hx hl).keep (one_new _ (.cells (ys.map (Value.int .i64)).toArray 3))
  have r2 := rowL (w.alloc (.cells (xs.map (Value.int .i64)).toArray 3)) ys hy hm
  have := grid2 _ _ _ _ _ _ _ xs ys r1 r2
  simpa using this

theorem two_new (w : World) (o o' : Obj) : Below w.heap.size w ((w.alloc o).alloc o') := Below.next (one_new w o) (one_new _ o')

/-! ### What the examples answer -/
theorem ex1 : Res [[1, 2], [3, 4]] [0] [0, 2, 4] true := by
  have d0 : Der [[1, 2], [3, 4]] [0] 0 := .base (by simp) (by omega)
  have d2 : Der [[1, 2], [3, 4]] [0] 2 := .unit (c := [1, 2]) (by simp) (by simp) (by omega) (fun y hy _ hne => by
    simp at hy; rcases hy with rfl | rfl
    · exact d0
    · exact absurd rfl hne)
  have d4 : Der [[1, 2], [3, 4]] [0] 4 := .unit (c := [3, 4]) (by simp) (by simp) (by omega) (fun y hy _ hne => by
    simp at hy; rcases hy with rfl | rfl
    · exact d2
    · exact absurd rfl hne)
  refine res_true (by decide) (fun x hx _ => by simp at hx; subst hx; simp) (fun x hx => ?_) (by decide) (fun c hc => ?_)
  · simp at hx; rcases hx with rfl | rfl | rfl
    · exact d0
    · exact d2
    · exact d4
  · simp at hc; rcases hc with rfl | rfl
    · exact .inl ⟨2, by simp, by simp⟩
    · exact .inl ⟨4, by simp, by simp⟩

theorem ex2 : Res [[0], [1]] [] [] false := by
  refine res_false (.inl ⟨0, ?_, ?_⟩)
  · exact .unit (c := [0]) (by simp) (by simp) (by omega) (fun y hy _ hne => by simp at hy; exact absurd hy hne)
  · exact .unit (c := [1]) (by simp) (by decide) (by decide) (fun y hy _ hne => by simp at hy; subst hy; exact absurd rfl hne)

theorem ex3 : Res [] [5, 5, -1] [5] true := by
  refine res_true (by decide) (fun x hx h0 => ?_) (fun x hx => ?_) (by decide) (fun c hc => by simp at hc)
  · simp at hx; rcases hx with rfl | rfl
    · simp
    · omega
  · simp at hx; subst hx; exact .base (by simp) (by omega)

theorem ex4 : Res [[1, 2]] [0] [0, 2] true := by
  have d0 : Der [[1, 2]] [0] 0 := .base (by simp) (by omega)
  have d2 : Der [[1, 2]] [0] 2 := .unit (c := [1, 2]) (by simp) (by simp) (by omega) (fun y hy _ hne => by
    simp at hy; rcases hy with rfl | rfl
    · exact d0
    · exact absurd rfl hne)
  refine res_true (by decide) (fun x hx _ => by simp at hx; subst hx; simp) (fun x hx => ?_) (by decide) (fun c hc => ?_)
  · simp at hx; rcases hx with rfl | rfl
    · exact d0
    · exact d2
  · simp at hc; subst hc; exact .inl ⟨2, by simp, by simp⟩

def ints (xs : List Int) : Obj := .cells (xs.map (Value.int .i64)).toArray 3

theorem short2 {a b : List Int} (ha : a.length ≤ 100) (hb : b.length ≤ 100) : ∀ c ∈ [a, b], c.length ≤ 100 := by
  intro c hc; simp at hc; rcases hc with rfl | rfl <;> assumption

theorem aw1 (w : World) : Calls Try.prog 8 #[.slice (some ⟨w.heap.size + 1 + 1, 0, none⟩) 2 2, .slice (some ⟨w.heap.size + 1 + 1 + 1, 0, none⟩) 1 1]
    ((((w.alloc (.cells #[.int .i64 1, .int .i64 2] 3)).alloc (.cells #[.int .i64 3, .int .i64 4] 3)).alloc (.cells #[.slice (some ⟨w.heap.size, 0, none⟩) 2 2, .slice (some ⟨w.heap.size + 1, 0, none⟩) 2 2] 23)).alloc (.cells #[.int .i64 0] 3))
    fun e w' => ∃ ao c, e = .returned (.tuple #[.slice ao 3 c, .bool true]) ∧ Hid (Row w' ao 3 c [0, 2, 4]) ∧ Below w.heap.size w w' := by
  have g := (lit2 w [1, 2] [3, 4] (fit_of rfl) (by decide) (fit_of rfl) (by decide)).keep (one_new _ (.cells #[.int .i64 0] 3))
  have r := rowL (((w.alloc (.cells #[.int .i64 1, .int .i64 2] 3)).alloc (.cells #[.int .i64 3, .int .i64 4] 3)).alloc (.cells #[.slice (some ⟨w.heap.size, 0, none⟩) 2 2, .slice (some ⟨w.heap.size + 1, 0, none⟩) 2 2] 23)) [0] (fit_of rfl) (by decide)
  have es : (((w.alloc (.cells #[.int .i64 1, .int .i64 2] 3)).alloc (.cells #[.int .i64 3, .int .i64 4] 3)).alloc (.cells #[.slice (some ⟨w.heap.size, 0, none⟩) 2 2, .slice (some ⟨w.heap.size + 1, 0, none⟩) 2 2] 23)).heap.size = w.heap.size + 1 + 1 + 1 := by simp
  rw [es] at r
  refine (close_at _ _ 2 2 [[1, 2], [3, 4]] g _ 1 1 [0] r (by decide) (by decide) (by decide)).mono ?_
  rintro e w' ⟨ao, m, c, xs, ok, rfl, hr, hres, _, hb⟩
  obtain ⟨e1, e2⟩ := res_same hres.out ex1
  subst e1 e2
  obtain rfl : m = 3 := hr.out.1.symm
  exact ⟨ao, c, rfl, hr, Below.next (Below.next (two_new _ _ _) (two_new _ _ _)) hb.out⟩

theorem aw2 (w : World) : Calls Try.prog 8 #[.slice (some ⟨w.heap.size + 1 + 1, 0, none⟩) 2 2, .slice none 0 0]
    (((w.alloc (.cells #[.int .i64 0] 3)).alloc (.cells #[.int .i64 1] 3)).alloc (.cells #[.slice (some ⟨w.heap.size, 0, none⟩) 1 1, .slice (some ⟨w.heap.size + 1, 0, none⟩) 1 1] 23))
    fun e w' => ∃ ao m c, e = .returned (.tuple #[.slice ao m c, .bool false]) ∧ Below w.heap.size w w' := by
  refine (close_at _ _ 2 2 [[0], [1]] (lit2 w [0] [1] (fit_of rfl) (by decide) (fit_of rfl) (by decide)) _ 0 0 [] (row_none _) (by decide) (by decide) (by decide)).mono ?_
  rintro e w' ⟨ao, m, c, xs, ok, rfl, hr, hres, _, hb⟩
  obtain ⟨e1, e2⟩ := res_same hres.out ex2
  subst e1 e2
  exact ⟨ao, m, c, rfl, Below.next (Below.next (two_new _ _ _) (one_new _ _)) hb.out⟩

theorem aw3 (w : World) : Calls Try.prog 8 #[.slice none 0 0, .slice (some ⟨w.heap.size, 0, none⟩) 3 3] (w.alloc (.cells #[.int .i64 5, .int .i64 5, .int .i64 (-1)] 3))
    fun e w' => ∃ ao c, e = .returned (.tuple #[.slice ao 1 c, .bool true]) ∧ Hid (Row w' ao 1 c [5]) ∧ Below w.heap.size w w' := by
  refine (close_at _ _ 0 0 [] (grid0 _) _ 3 3 [5, 5, -1] (rowL w [5, 5, -1] (fit_of rfl) (by decide)) (by decide) (by decide) (by decide)).mono ?_
  rintro e w' ⟨ao, m, c, xs, ok, rfl, hr, hres, _, hb⟩
  obtain ⟨e1, e2⟩ := res_same hres.out ex3
  subst e1 e2
  obtain rfl : m = 1 := hr.out.1.symm
  exact ⟨ao, c, rfl, hr, Below.next (one_new _ _) hb.out⟩

theorem aw4 (w : World) (ao : Option Addr) (c : Nat) (h : Row w ao 3 c [0, 2, 4]) : Calls Try.prog 10 #[.slice ao 3 c, .slice (some ⟨w.heap.size, 0, none⟩) 3 3] (w.alloc (.cells #[.int .i64 0, .int .i64 2, .int .i64 4] 3))
    fun e w' => e = .returned (.bool true) ∧ Below w.heap.size w w' := by
  refine (same_any ao _ 3 3 c 3 [0, 2, 4] [0, 2, 4] _ (h.keep (one_new _ _)) (rowL w [0, 2, 4] (fit_of rfl) (by decide))).mono ?_
  rintro e w' ⟨rfl, hb⟩
  exact ⟨rfl, Below.next (one_new _ _) hb⟩

theorem aw5 (w : World) (ao : Option Addr) (c : Nat) (h : Row w ao 1 c [5]) : Calls Try.prog 10 #[.slice ao 1 c, .slice (some ⟨w.heap.size, 0, none⟩) 1 1] (w.alloc (.cells #[.int .i64 5] 3))
    fun e w' => e = .returned (.bool true) ∧ Below w.heap.size w w' := by
  refine (same_any ao _ 1 1 c 1 [5] [5] _ (h.keep (one_new _ _)) (rowL w [5] (fit_of rfl) (by decide))).mono ?_
  rintro e w' ⟨rfl, hb⟩
  exact ⟨rfl, Below.next (one_new _ _) hb⟩

theorem aw6 (w : World) (x : Int) (b : Bool) (hx : hasF [0, 2] x = b) : Calls Try.prog 11 #[.slice (some ⟨w.heap.size + 1, 0, none⟩) 1 1, .slice (some ⟨w.heap.size + 1 + 1, 0, none⟩) 1 1, .int .i64 x]
    (((w.alloc (.cells #[.int .i64 1, .int .i64 2] 3)).alloc (.cells #[.slice (some ⟨w.heap.size, 0, none⟩) 2 2] 23)).alloc (.cells #[.int .i64 0] 3))
    fun e w' => e = .returned (.bool b) ∧ Below w.heap.size w w' := by
  have g := (lit1 w [1, 2] (fit_of rfl) (by decide)).keep (one_new _ (.cells #[.int .i64 0] 3))
  have r := rowL ((w.alloc (.cells #[.int .i64 1, .int .i64 2] 3)).alloc (.cells #[.slice (some ⟨w.heap.size, 0, none⟩) 2 2] 23)) [0] (fit_of rfl) (by decide)
  have es : ((w.alloc (.cells #[.int .i64 1, .int .i64 2] 3)).alloc (.cells #[.slice (some ⟨w.heap.size, 0, none⟩) 2 2] 23)).heap.size = w.heap.size + 1 + 1 := by simp
  rw [es] at r
  refine (follows_any _ _ 1 1 [[1, 2]] g _ 1 1 [0] r x (by decide) (by decide) (by decide)).mono ?_
  rintro e w' ⟨t, rfl, ht, hb⟩
  have e1 : t = hasF [0, 2] x := by rw [Bool.eq_iff_iff, ht.out, (res_up ex4).2 x]
  rw [e1, hx]
  exact ⟨rfl, Below.next (Below.next (two_new _ _ _) (one_new _ _)) hb.out⟩

set_option maxHeartbeats 4000000 in
theorem awake_any (w : World) : Calls Try.prog 7 #[] w fun e w' => e = .returned (.bool true) ∧ Below w.heap.size w w' := by
  go_enter Try.func7, Try.ntmps7
  go_wp2_with (first
    | (go_at_call 8; with_reducible (refine (aw1 _).mono ?_); rintro e w1 ⟨a1, c1, rfl, hR1, hb1⟩)
    | (go_at_call 8; with_reducible (refine (aw2 _).mono ?_); rintro e w2 ⟨a2, m2, c2, rfl, hb2⟩)
    | (go_at_call 8; with_reducible (refine (aw3 _).mono ?_); rintro e w3 ⟨a3, c3, rfl, hR3, hb3⟩)
    | (go_at_call 10; with_reducible (refine (aw4 _ _ _ (hR1.out.keep (Below.next hb2 hb3))).mono ?_); rintro e w4 ⟨rfl, hb4⟩)
    | (go_at_call 10; with_reducible (refine (aw5 _ _ _ (hR3.out.keep hb4)).mono ?_); rintro e w5 ⟨rfl, hb5⟩)
    | (go_at_call 11; with_reducible (refine (aw6 _ 2 true rfl).mono ?_); rintro e w6 ⟨rfl, hb6⟩)
    | (go_at_call 11; with_reducible (refine (aw6 _ 4 false rfl).mono ?_); rintro e w7 ⟨rfl, hb7⟩))
  go_ret
  exact ⟨rfl, Below.next (Below.next (Below.next (Below.next (Below.next (Below.next hb1 hb2) hb3) hb4) hb5) hb6) hb7⟩

end Go.Proofs.Ytfhkbfkdmbadbaa
