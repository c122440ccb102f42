/-
  The chapter's examples, as the statements ask them; lists of clauses that came in.
-/
import Derived.Test.YtogjafmpoepgbaaBrute
import Derived.Deep.Matrix
import Derived.Deep.Grids
namespace Go.Proofs.Ytogjafmpoepgbaa
open Go.RowKit
set_option linter.unusedVariables false

/-- Whatever list of clauses came in. -/
theorem grid_of {H : Type} {enc : TypeId × Value → H} {W : World} {base : Nat} {held : Bool} {fuel : Nat} {a : Option Addr} {len cap : Nat} {x : DataW H × List MemPlace}
    (h : DataW.trod enc Try.prog W base (fun _ => true) held fuel 22 (Value.slice a len cap).cells.toList = some x) : ∃ xss, Grid W a len cap xss := by
  rcases Go.Deep.open_int_rows (k := .i64) Try.underlying22 Try.underlying41 Try.underlying3 (by kernel_rfl) (by kernel_rfl) h with ⟨hcs, _⟩ | ⟨ad, l, c, A, L, C, Z, hcs, _, hl, hm, _, hrow⟩
  · simp [Value.cells] at hcs
    obtain ⟨rfl, rfl, rfl⟩ := hcs
    exact ⟨[], rfl, Nat.le_refl _, by unfold maxLen; omega, fun _ => rfl, fun h => by omega⟩
  · simp [Value.cells] at hcs
    obtain ⟨rfl, rfl, rfl⟩ := hcs
    refine ⟨(List.range len).map fun r => (Z r).take (L r), by simp, hl, hm, fun h => by simp at h, fun h0 => ?_⟩
    obtain ⟨b, off, spot⟩ := ad
    have hsp : spot = none := by
      have := (hrow 0 (by omega)).1
      simpa [Addr.add] using World.cell?_spot this
    subst hsp
    refine ⟨b, off, rfl, fun j hj => ?_⟩
    obtain ⟨h1, h2, h3, h4, h5, h6, h7⟩ := hrow j (by omega)
    refine ⟨A j, L j, C j, ?_, ?_⟩
    · by_cases hz : j = 0
      · subst hz; simpa [Addr.add] using h1
      · simpa [Addr.add, hz] using h1
    · have e : ((List.range len).map fun r => (Z r).take (L r)).getD j [] = (Z j).take (L j) := by simp [hj]
      rw [e]
      refine ⟨by simp; omega, h2, h3, h6, fun y hy => wf_i64 (h5 y (List.mem_of_mem_take hy)), fun hp => ?_⟩
      cases ha : A j with
      | none => have := h6 ha; omega
      | some a' =>
        obtain ⟨_, hc⟩ := h7 a' ha
        obtain ⟨b', off', spot'⟩ := a'
        have hsp' : spot' = none := by
          have := hc 0 (by omega)
          simpa [Addr.add] using World.cell?_spot this
        subst hsp'
        refine ⟨b', off', rfl, fun i hi => ?_⟩
        have hi2 := hc i (by omega)
        have e2 : ((Z j).take (L j)).getD i 0 = (Z j).getD i 0 := by simp [hi]
        rw [e2]
        by_cases hz : i = 0
        · subst hz; simpa [Addr.add] using hi2
        · simpa [Addr.add, hz] using hi2

theorem few_len {xss : List (List Int)} {most : Nat} (h : ¬ fewF xss most = 0) : xss.length ≤ most := by
  by_cases hl : (most : Int) < xss.length
  · exact absurd (by simp only [fewF]; rw [if_pos hl]) h
  · omega
theorem len_le (vars : Int) (xss : List (List Int)) : lenI vars xss ≤ 65536 := by
  by_cases hm : mayF vars xss = 0
  · obtain ⟨v, rfl, hv, _⟩ := may_ok hm
    simp only [lenI]
    split <;> simp <;> omega
  · rw [(len_none (vars := vars) (xss := xss) (by rw [fir_bad hm]; omega)).1]; omega

/-! ### Lists that are written out -/
theorem rowL (w : World) (xs : List Int) (hx : Fit xs) (hl : xs.length ≤ 1000) : Row (w.alloc (.cells (xs.map (Value.int .i64)).toArray 3)) (some ⟨w.heap.size, 0, none⟩) xs.length xs.length xs := by
  refine ⟨rfl, Nat.le_refl _, by unfold maxLen; omega, fun h => by simp at h, hx, fun _ => ⟨_, _, rfl, fun j hj => ?_⟩⟩
  rw [Nat.zero_add, cell_of_row _ _ _ _ _ _ (heap_alloc_new w _)]
  simp [hj]

theorem fit_of {xs : List Int} (h : xs.all (fun x => decide (-9223372036854775808 ≤ x ∧ x ≤ 9223372036854775807)) = true) : Fit xs := by
  intro x hx
  have := List.all_eq_true.1 h x hx
  simpa using this

theorem grid1 (w : World) (a : Option Addr) (n c : Nat) (xs : List Int) (h : Row w a n c xs) : Grid (w.alloc (.cells #[.slice a n c] 41)) (some ⟨w.heap.size, 0, none⟩) 1 1 [xs] := by
  refine ⟨rfl, Nat.le_refl _, by unfold maxLen; omega, fun h => by simp at h, fun _ => ⟨_, _, rfl, fun j hj => ?_⟩⟩
  obtain rfl : j = 0 := by omega
  exact ⟨a, n, c, by simp, h.keep (one_new _ _)⟩

theorem grid2 (w : World) (a a' : Option Addr) (n c n' c' : Nat) (xs ys : List Int) (h : Row w a n c xs) (h' : Row w a' n' c' ys) : Grid (w.alloc (.cells #[.slice a n c, .slice a' n' c'] 41)) (some ⟨w.heap.size, 0, none⟩) 2 2 [xs, ys] := by
  refine ⟨rfl, Nat.le_refl _, by unfold maxLen; omega, fun h => by simp at h, fun _ => ⟨_, _, rfl, fun j hj => ?_⟩⟩
  match j, hj with
  | 0, _ => exact ⟨a, n, c, by simp, h.keep (one_new _ _)⟩
  | 1, _ => exact ⟨a', n', c', by simp, h'.keep (one_new _ _)⟩

theorem grid0 (w : World) : Grid w none 0 0 [] := ⟨rfl, Nat.le_refl _, by unfold maxLen; omega, fun _ => rfl, fun h => by omega⟩
theorem noB (w : World) (B : Nat → Bool) : IsBools w none 0 0 B := .inl ⟨rfl, rfl, rfl⟩

theorem lit1 (w : World) (xs : List Int) (hx : Fit xs) (hl : xs.length ≤ 1000) :
    Grid ((w.alloc (.cells (xs.map (Value.int .i64)).toArray 3)).alloc (.cells #[.slice (some ⟨w.heap.size, 0, none⟩) xs.length xs.length] 41)) (some ⟨w.heap.size + 1, 0, none⟩) 1 1 [xs] := by
  have := grid1 _ _ _ _ xs (rowL w xs hx hl)
  simpa using this

theorem lit2 (w : World) (xs ys : List Int) (hx : Fit xs) (hl : xs.length ≤ 1000) (hy : Fit ys) (hm : ys.length ≤ 1000) :
    Grid (((w.alloc (.cells (xs.map (Value.int .i64)).toArray 3)).alloc (.cells (ys.map (Value.int .i64)).toArray 3)).alloc (.cells #[.slice (some ⟨w.heap.size, 0, none⟩) xs.length xs.length, .slice (some ⟨w.heap.size + 1, 0, none⟩) ys.length ys.length] 41)) (some ⟨w.heap.size + 2, 0, none⟩) 2 2 [xs, ys] := by
  have r1 := (rowL w xs hx hl).keep (one_new _ (.cells (ys.map (Value.int .i64)).toArray 3))
  have r2 := rowL (w.alloc (.cells (xs.map (Value.int .i64)).toArray 3)) ys hy hm
  have := grid2 _ _ _ _ _ _ _ xs ys r1 r2
  simpa using this

theorem aw1 (w : World) : Calls Try.prog 12 #[.int .i64 2, .slice (some { block := w.heap.size + 1, off := 0 }) 1 1] ((w.alloc (.cells #[.int .i64 0, .int .i64 2] 3)).alloc (.cells #[.slice (some { block := w.heap.size, off := 0 }) 2 2] 41))
    fun e w' => e = .returned (.tuple #[.int .i64 3, .int .i64 0]) ∧ Below w.heap.size w w' := by
  refine (count_any 2 _ 1 1 [[0, 2]] _ (lit1 w [0, 2] (fit_of rfl) (by decide)) (by decide)).mono ?_
  rintro e w' ⟨rfl, hb⟩
  exact ⟨by rw [show cntI 2 [[0, 2]] = 3 by decide +kernel, show mayF 2 [[0, 2]] = 0 by decide +kernel], Below.next (two_new _ _ _) hb⟩

theorem aw2 (w : World) : Calls Try.prog 14 #[.int .i64 2, .slice (some { block := w.heap.size + 1, off := 0 }) 1 1] ((w.alloc (.cells #[.int .i64 0, .int .i64 2] 3)).alloc (.cells #[.slice (some { block := w.heap.size, off := 0 }) 2 2] 41))
    fun e w' => ∃ bo c, e = .returned (.tuple #[.slice bo 2 c, .bool true, .int .i64 0]) ∧ Hid (IsBools w' bo 2 c (fun v => decide (v = 0))) ∧ Below w.heap.size w w' := by
  refine (first_any 2 _ 1 1 [[0, 2]] _ (lit1 w [0, 2] (fit_of rfl) (by decide)) (by decide)).mono ?_
  rintro e w' ⟨bo, c, rfl, hB, hb⟩
  rw [show lenI 2 [[0, 2]] = 2 by decide +kernel, show isI 2 [[0, 2]] = true by decide +kernel, show mayF 2 [[0, 2]] = 0 by decide +kernel]
  rw [show lenI 2 [[0, 2]] = 2 by decide +kernel] at hB
  refine ⟨bo, c, rfl, ?_, Below.next (two_new _ _ _) hb⟩
  have e1 : firI 2 [[0, 2]] = 1 := by decide +kernel
  rcases hB.out with hB | ⟨x, hx, h1, h2, h3⟩
  · exact .inl hB
  · refine .inr ⟨x, hx, h1, h2, fun i hi => ?_⟩
    rw [h3 i hi]
    match i, hi with
    | 0, _ => rw [show bitI 2 [[0, 2]] 0 = true by simp only [bitI, e1]; rfl]; rfl
    | 1, _ => rw [show bitI 2 [[0, 2]] 1 = false by simp only [bitI, e1]; rfl]; rfl

theorem aw3 (w : World) : Calls Try.prog 14 #[.int .i64 1, .slice (some { block := w.heap.size + 2, off := 0 }) 2 2] (((w.alloc (.cells #[.int .i64 0] 3)).alloc (.cells #[.int .i64 1] 3)).alloc (.cells #[.slice (some { block := w.heap.size, off := 0 }) 1 1, .slice (some { block := w.heap.size + 1, off := 0 }) 1 1] 41))
    fun e w' => ∃ bo c, e = .returned (.tuple #[.slice bo 0 c, .bool false, .int .i64 0]) ∧ Below w.heap.size w w' := by
  refine (first_any 1 _ 2 2 [[0], [1]] _ (lit2 w [0] [1] (fit_of rfl) (by decide) (fit_of rfl) (by decide)) (by decide)).mono ?_
  rintro e w' ⟨bo, c, rfl, hB, hb⟩
  rw [show lenI 1 [[0], [1]] = 0 by decide +kernel, show isI 1 [[0], [1]] = false by decide +kernel, show mayF 1 [[0], [1]] = 0 by decide +kernel]
  exact ⟨bo, c, rfl, Below.next (Below.next (two_new _ _ _) (one_new _ _)) hb⟩

theorem aw4 (w : World) : Calls Try.prog 12 #[.int .i64 17, .slice none 0 0] w fun e w' => e = .returned (.tuple #[.int .i64 0, .int .i64 8]) ∧ Below w.heap.size w w' := by
  refine (count_any 17 _ 0 0 [] _ (grid0 w) (by decide)).mono ?_
  rintro e w' ⟨rfl, hb⟩
  exact ⟨by rw [show cntI 17 [] = 0 by decide +kernel, show mayF 17 [] = 8 by decide +kernel], hb⟩

theorem boolsL (w : World) (bs : List Bool) (hl : bs.length ≤ 1000) : IsBools (w.alloc (.cells (bs.map Value.bool).toArray 4)) (some ⟨w.heap.size, 0, none⟩) bs.length bs.length (fun i => bs.getD i false) := by
  have h : MB (w.alloc (.cells (bs.map Value.bool).toArray 4)) w.heap.size bs := by
    unfold MB; show (w.heap.push _)[w.heap.size]? = _; simp
  exact h.bools rfl (Nat.le_refl _) (by unfold maxLen; omega)

theorem aw5 (w : World) (bo : Option Addr) (c : Nat) (h : IsBools w bo 2 c (fun v => decide (v = 0))) : Calls Try.prog 16 #[.slice bo 2 c, .slice (some { block := w.heap.size, off := 0 }) 2 2] (w.alloc (.cells #[.bool true, .bool false] 4))
    fun e w' => e = .returned (.bool true) ∧ Below w.heap.size w w' := by
  have h2 : IsBools (w.alloc (.cells #[.bool true, .bool false] 4)) (some ⟨w.heap.size, 0, none⟩) 2 2 (fun v => decide (v = 0)) := by
    rcases boolsL w [true, false] (by decide) with h3 | ⟨x, hx, h1, h2, h3⟩
    · exact .inl h3
    · refine .inr ⟨x, hx, h1, h2, fun i hi => ?_⟩
      rw [show (#[Value.bool true, Value.bool false] : Array Value) = ([true, false].map Value.bool).toArray from rfl, h3 i hi]
      match i, hi with
      | 0, _ => rfl
      | 1, _ => rfl
  refine (bools_same _ _ 2 _ _ _ _ (h.keep (one_new _ _)) h2 (by decide)).mono ?_
  rintro e w' ⟨rfl, hb⟩
  exact ⟨rfl, Below.next (one_new _ _) hb⟩

theorem aw6 (w : World) : Calls Try.prog 8 #[.int .i64 1, .slice (some { block := w.heap.size + 1, off := 0 }) 1 1] ((w.alloc (.cells #[.int .i64 2] 3)).alloc (.cells #[.slice (some { block := w.heap.size, off := 0 }) 1 1] 41))
    fun e w' => e = .returned (.int .i64 10) ∧ Below w.heap.size w w' := by
  refine (check_any 1 _ 1 1 [[2]] _ (lit1 w [2] (fit_of rfl) (by decide))).mono ?_
  rintro e w' ⟨rfl, hb⟩
  exact ⟨by rw [show chkF 1 [[2]] = 10 by decide +kernel], Below.next (two_new _ _ _) hb⟩

theorem aw7 (w : World) : Calls Try.prog 10 #[.slice (some { block := w.heap.size + 2, off := 0 }) 2 2, .slice (some { block := w.heap.size + 3, off := 0 }) 1 1]
    ((((w.alloc (.cells #[.int .i64 0] 3)).alloc (.cells #[.int .i64 2] 3)).alloc (.cells #[.slice (some { block := w.heap.size, off := 0 }) 1 1, .slice (some { block := w.heap.size + 1, off := 0 }) 1 1] 41)).alloc (.cells #[.bool true] 4))
    fun e w' => e = .returned (.int .i64 1) ∧ Below w.heap.size w w' := by
  have g := (lit2 w [0] [2] (fit_of rfl) (by decide) (fit_of rfl) (by decide)).keep (one_new _ (.cells #[.bool true] 4))
  have bb := boolsL (((w.alloc (.cells #[.int .i64 0] 3)).alloc (.cells #[.int .i64 2] 3)).alloc (.cells #[.slice (some { block := w.heap.size, off := 0 }) 1 1, .slice (some { block := w.heap.size + 1, off := 0 }) 1 1] 41)) [true] (by decide)
  simp only [World.size_alloc, Nat.add_assoc, Nat.reduceAdd] at bb
  refine (holdsG_any _ 2 2 [[0], [2]] _ g _ 1 1 _ bb).mono ?_
  rintro e w' ⟨rfl, hb⟩
  exact ⟨by rw [show fstN [[0], [2]] 1 (fun i => [true].getD i false) = 1 by decide +kernel], Below.next (Below.next (two_new _ _ _) (two_new _ _ _)) hb⟩

theorem aw8 (w : World) : Calls Try.prog 10 #[.slice none 0 0, .slice none 0 0] w fun e w' => e = .returned (.int .i64 (-1)) ∧ Below w.heap.size w w' :=
  holdsG_any none 0 0 [] w (grid0 w) none 0 0 (fun _ => false) (noB w _)

set_option maxHeartbeats 4000000 in
theorem awake_any (w : World) : Calls Try.prog 7 #[] w fun e w' => e = .returned (.bool true) ∧ Below w.heap.size w w' := by
  go_enter Try.func7, Try.ntmps7
  go_wp2_with (first
    | (go_at_call 12; with_reducible (refine (aw1 _).mono ?_); rintro e w1 ⟨rfl, hb1⟩)
    | (go_at_call 14; with_reducible (refine (aw2 _).mono ?_); rintro e w2 ⟨a2, c2, rfl, hB2, hb2⟩)
    | (go_at_call 14; with_reducible (refine (aw3 _).mono ?_); rintro e w3 ⟨a3, c3, rfl, hb3⟩)
    | (go_at_call 12; with_reducible (refine (aw4 _).mono ?_); rintro e w4 ⟨rfl, hb4⟩)
    | (go_at_call 16; with_reducible (refine (aw5 _ _ _ (hB2.out.keep (Below.next hb3 hb4))).mono ?_); rintro e w5 ⟨rfl, hb5⟩)
    | (go_at_call 8; with_reducible (refine (aw6 _).mono ?_); rintro e w6 ⟨rfl, hb6⟩)
    | (go_at_call 10; with_reducible (refine (aw7 _).mono ?_); rintro e w7 ⟨rfl, hb7⟩)
    | (go_at_call 10; with_reducible (refine (aw8 _).mono ?_); rintro e w8 ⟨rfl, hb8⟩))
  go_ret
  exact ⟨rfl, Below.next (Below.next (Below.next (Below.next (Below.next (Below.next (Below.next hb1 hb2) hb3) hb4) hb5) hb6) hb7) hb8⟩

end Go.Proofs.Ytogjafmpoepgbaa
