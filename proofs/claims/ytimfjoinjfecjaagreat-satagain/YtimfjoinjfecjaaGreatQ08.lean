/-
  DeleteFunc: clauses are taken out of a list.
-/
import Derived.Test.YtimfjoinjfecjaaGreatQ05
import Derived.LaidEqlPtr

namespace Go.Proofs.YtimfjoinjfecjaaGreat
open Go.RowKit Go.Maps
set_option linter.unusedVariables false

/-- Where the first one is. -/
def Idx (q : Nat → Bool) (xs : List Nat) (r : Int) : Prop := (r = -1 ∧ ∀ x ∈ xs, q x = false) ∨ ∃ i x : Nat, r = i ∧ xs[i]? = some x ∧ q x = true ∧ ∀ y ∈ xs.take i, q y = false

theorem Idx.out {q : Nat → Bool} {xs : List Nat} {r : Int} (h : Idx q xs r) : (r = -1 ∧ ∀ x ∈ xs, q x = false) ∨ ∃ i x : Nat, r = i ∧ xs[i]? = some x ∧ q x = true ∧ ∀ y ∈ xs.take i, q y = false := h

/-- What is left. -/
def outF (q : Nat → Bool) (xs : List Nat) : List Nat := xs.filter (fun x => !q x)

theorem out_all {q : Nat → Bool} {xs : List Nat} (h : ∀ x ∈ xs, q x = false) : outF q xs = xs := by
  unfold outF; rw [List.filter_eq_self]; intro x hx; simp [h x hx]

theorem tk_next {α : Type} {c : List α} {k : Nat} {y : α} (h : c[k]? = some y) : c.take (k + 1) = c.take k ++ [y] := by rw [List.take_add_one, h]; rfl

/-- Half way: the first i are what is left of the first j; from j on all is as it was. -/
structure Half (q : Nat → Bool) (xs M : List Nat) (i j : Nat) : Prop where
  ij : i ≤ j
  len : M.length = xs.length
  fst : M.take i = outF q (xs.take j)
  snd : M.drop j = xs.drop j

theorem Half.start {q : Nat → Bool} {xs : List Nat} {i x : Nat} (hx : xs[i]? = some x) (hq : q x = true) (h : ∀ y ∈ xs.take i, q y = false) : Half q xs xs i (i + 1) := by
  refine ⟨by omega, rfl, ?_, rfl⟩
  rw [tk_next hx]
  have : outF q (xs.take i ++ [x]) = outF q (xs.take i) := by simp [outF, hq]
  rw [this, out_all h]

theorem Half.at {q : Nat → Bool} {xs M : List Nat} {i j : Nat} (h : Half q xs M i j) : M[j]? = xs[j]? := by
  have := congrArg (fun l => l[0]?) h.snd
  simpa [List.getElem?_drop] using this

theorem Half.drop1 {q : Nat → Bool} {xs M : List Nat} {i j : Nat} (h : Half q xs M i j) : M.drop (j + 1) = xs.drop (j + 1) := by
  have := congrArg (List.drop 1) h.snd
  simpa [List.drop_drop] using this

theorem Half.skip {q : Nat → Bool} {xs M : List Nat} {i j x : Nat} (h : Half q xs M i j) (hx : xs[j]? = some x) (hq : q x = true) : Half q xs M i (j + 1) := by
  refine ⟨by have := h.ij; omega, h.len, ?_, h.drop1⟩
  rw [h.fst, tk_next hx]
  simp [outF, hq]

theorem Half.keep {q : Nat → Bool} {xs M : List Nat} {i j x : Nat} (h : Half q xs M i j) (hx : xs[j]? = some x) (hq : q x = false) : Half q xs (M.set i x) (i + 1) (j + 1) := by
  have hj := (List.getElem?_eq_some_iff.1 hx).1
  have hij := h.ij
  have hl := h.len
  refine ⟨by omega, by simpa using h.len, ?_, ?_⟩
  · have e : (M.set i x)[i]? = some x := by rw [List.getElem?_set_self (by omega)]
    rw [tk_next e, List.take_set_of_le (Nat.le_refl i), h.fst, tk_next hx]
    simp [outF, hq]
  · rw [List.drop_set_of_lt (by omega)]; exact h.drop1

theorem Half.done {q : Nat → Bool} {xs M : List Nat} {i j : Nat} (h : Half q xs M i j) (hj : xs.length ≤ j) : M.take i = outF q xs := by
  rw [h.fst, List.take_of_length_le hj]



theorem Tryz.info97 : (Tryz.prog.info? 97).map (fun i => (i.zero.isSome, i.size, i.bytes)) = some (true, 6, 64) := by kernel_rfl

theorem eql84 (w : World) (x y : Nat) {c1 c2 : Array Value} {t1 t2 : TypeId} (hx : w.heap[x]? = some (.cells c1 t1 (0, 0))) (hy : w.heap[y]? = some (.cells c2 t2 (0, 0))) :
    (binOp .eql 92 (.pointer (some ⟨x, 0, none⟩)) (.pointer (some ⟨y, 0, none⟩))).run Tryz.prog w = .ok (.bool (x == y)) w := by
  have hi := Tryz.info97
  cases hj : Tryz.prog.info? 97 with
  | none => rw [hj] at hi; cases hi
  | some j =>
    rw [hj] at hi
    simp only [Option.map_some, Option.some.injEq, Prod.mk.injEq] at hi
    by_cases e : x = y
    · subst e
      rw [run_eql_ptr_same w ⟨x, 0, none⟩ Tryz.underlying92 hj]; simp
    · rw [run_eql_ptr_other w Tryz.underlying92 hj (by omega) (by simp) hx hy]; simp [e]

theorem isF_is (w : World) (bx x y : Nat) {c1 c2 : Array Value} {t1 t2 : TypeId} (h : w.cell? ⟨bx, 0, none⟩ = some (.pointer (some ⟨y, 0, none⟩))) (hx : w.heap[x]? = some (.cells c1 t1 (0, 0))) (hy : w.heap[y]? = some (.cells c2 t2 (0, 0))) : Calls Tryz.prog 139 #[.pointer (some ⟨x, 0, none⟩), .pointer (some ⟨bx, 0, none⟩)] w fun e w' => e = .returned (.bool (x == y)) ∧ w' = w := by
  have he := eql84 w x y hx hy
  clear hx hy
  go_enter Tryz.func139, Tryz.ntmps139
  go_wp2
  go_ret
  exact ⟨rfl, rfl⟩

set_option maxHeartbeats 1000000 in
theorem indexI {cb : Nat → Nat} {q : Nat → Bool} (w : World) (bx : Nat) {ao : Option Addr} {n cap : Nat} {xs : List Nat} (own : PRow w cb (.slice ao n cap) xs) (hq : ∀ x ∈ xs, Calls Tryz.prog 139 #[.pointer (some ⟨cb x, 0, none⟩), .pointer (some ⟨bx, 0, none⟩)] w fun e w' => e = .returned (.bool (q x)) ∧ w' = w) :
    Calls Tryz.prog 154 #[.slice ao n cap, .func (.func 139) #[] #[.pointer (some ⟨bx, 0, none⟩)]] w fun e w' => (∃ r : Int, e = .returned (.int .i64 r) ∧ Hid (Idx q xs r)) ∧ w' = w := by
  have hn : n = xs.length := by obtain ⟨_, _, e, _⟩ := own.shape; cases e; rfl
  have hm : n ≤ 9223372036854775807 := by obtain ⟨_, _, e, h1, h2⟩ := own.shape; cases e; unfold maxLen at h2; omega
  have HO := hid own
  have HQ := hid hq
  have HN := hid hn
  clear own hq hn
  go_enter Tryz.func154, Tryz.ntmps154
  go_wp2
  go_loop [5, 8] (fun _ i => ∃ k : Nat, k ≤ n ∧ i = .int .i64 k ∧ Hid (∀ y ∈ xs.take k, q y = false)) (fun _ i => n - (intOf i).toNat)
  case atStart => exact ⟨0, Nat.zero_le _, rfl, hid (fun y hy => by simp at hy)⟩
  case round =>
    obtain ⟨k, hk, rfl, hno⟩ := hrel
    by_cases hlt : k < n
    · obtain ⟨x, hx⟩ : ∃ x, xs[k]? = some x := ⟨_, List.getElem?_eq_getElem (by rw [← HN.out]; exact hlt)⟩
      obtain ⟨b, off, cap', e, _⟩ := HO.out.filled (by rw [← HN.out]; omega)
      cases e
      have hc := HO.out.at hx
      have hlt' : k < xs.length := hlt
      have HX := hid hx
      have HM := hid (List.mem_of_getElem? hx)
      clear hx
      cases he : q x
      · have HV : Hid (∀ y ∈ xs.take (k + 1), q y = false) := hid (by
          rw [tk_next HX.out]
          intro y hy
          rcases List.mem_append.1 hy with h | h
          · exact hno.out y h
          · rw [List.mem_singleton] at h; rw [h]; exact he)
        go_wp2_with (go_at_call 139; with_reducible (refine (HQ.out x HM.out).mono ?_); rintro e w ⟨rfl, rfl⟩; rw [he])
        go_round
        case rel => exact ⟨k + 1, by omega, by go_num, HV⟩
        case measure => simp [intOf]; omega
      · have HV : Hid (Idx q xs k) := hid (.inr ⟨k, x, rfl, HX.out, he, hno.out⟩)
        go_wp2_with (go_at_call 139; with_reducible (refine (HQ.out x HM.out).mono ?_); rintro e w ⟨rfl, rfl⟩; rw [he])
        go_ret
        exact ⟨⟨_, rfl, HV⟩, rfl⟩
    · have HV : Hid (Idx q xs (-1)) := hid (.inl ⟨rfl, fun y hy => hno.out y (by rw [List.take_of_length_le (by rw [← HN.out]; omega)]; exact hy)⟩)
      go_wp2
      go_ret
      exact ⟨⟨_, rfl, HV⟩, rfl⟩

def DelEndI (w : World) (cb : Nat → Nat) (v : Value) (zs : List Nat) (e : Ending) (w' : World) : Prop := ∃ v', e = .returned v' ∧ PRow w' cb v' zs ∧ w.grownBy w' v.ownBlock ∧ v'.ownBlock = v.ownBlock

set_option maxHeartbeats 2000000 in
theorem deleteI {cb : Nat → Nat} {q : Nat → Bool} (w : World) (bx : Nat) {ao : Option Addr} {n cap : Nat} {xs : List Nat} (own : PRow w cb (.slice ao n cap) xs) (hq : ∀ wr, w.grownBy wr (Value.slice ao n cap).ownBlock → ∀ x ∈ xs, Calls Tryz.prog 139 #[.pointer (some ⟨cb x, 0, none⟩), .pointer (some ⟨bx, 0, none⟩)] wr fun e w' => e = .returned (.bool (q x)) ∧ w' = wr) :
    Calls Tryz.prog 132 #[.slice ao n cap, .func (.func 139) #[] #[.pointer (some ⟨bx, 0, none⟩)]] w fun e w' => DelEndI w cb (.slice ao n cap) (outF q xs) e w' := by
  have hn : n = xs.length := by obtain ⟨_, _, e, _⟩ := own.shape; cases e; rfl
  have hm : n ≤ cap ∧ (cap : Int) ≤ 9223372036854775807 := by obtain ⟨_, _, e, h1, h2⟩ := own.shape; cases e; unfold maxLen at h2; omega
  obtain ⟨hm1, hm2⟩ := hm
  have g0 : w.grownBy w (Value.slice ao n cap).ownBlock := ⟨rfl, rfl, rfl, Nat.le_refl _, fun _ _ _ => rfl⟩
  have HI := hid (indexI (q := q) w bx own (hq w g0))
  have HO := hid own
  have HQ := hid hq
  have HN := hid hn
  clear own hq hn
  go_enter Tryz.func132, Tryz.ntmps132
  go_wp2_with (go_at_call 154; with_reducible (refine (HI.out).mono ?_); rintro e w ⟨⟨r, rfl, hr⟩, rfl⟩; have hr2 := Idx.out hr.out; rcases hr2 with ⟨rfl, hall⟩ | ⟨i, x, rfl, hx, hqx, hfst⟩)
  · go_ret
    exact ⟨_, rfl, by rw [out_all hall]; exact HO.out, ⟨rfl, rfl, rfl, Nat.le_refl _, fun _ _ _ => rfl⟩, rfl⟩
  · have hil := (List.getElem?_eq_some_iff.1 hx).1
    have hin : i < n := by rw [HN.out]; exact hil
    obtain ⟨b, off, cap', e, _⟩ := HO.out.filled (by omega)
    cases e
    have HQ := hid (show ∀ wr, w.grownBy wr (some b) → ∀ x ∈ xs, Calls Tryz.prog 139 #[.pointer (some ⟨cb x, 0, none⟩), .pointer (some ⟨bx, 0, none⟩)] wr fun e w' => e = .returned (.bool (q x)) ∧ w' = wr from HQ.out)
    have hin' : (i : Int) < 9223372036854775807 := by omega
    have HH := hid (Half.start hx hqx hfst)
    clear hx hqx hfst hr
    go_wp2
    go_loopw [5, 6, 7] (fun u v _ wr => ∃ (i j : Nat) (M : List Nat), u = .int .i64 i ∧ v = .int .i64 j ∧ j ≤ xs.length ∧ Hid (Half q xs M i j) ∧ Hid (PRow wr cb (.slice (some ⟨b, off, none⟩) xs.length cap) M) ∧ Hid (w.grownBy wr (some b))) (fun _ v _ _ => xs.length - (intOf v).toNat)
    case atStart => exact ⟨i, i + 1, xs, rfl, congrArg (Value.int .i64) (by go_arith), by omega, HH, HO, hid ⟨rfl, rfl, rfl, Nat.le_refl _, fun _ _ _ => rfl⟩⟩
    case round =>
      clear HH
      obtain ⟨i, j, M, rfl, rfl, hj, hh, hrow, hgr⟩ := hrel
      have hij := hh.out.ij
      by_cases hlt : j < xs.length
      · obtain ⟨x, hx⟩ : ∃ x, xs[j]? = some x := ⟨_, List.getElem?_eq_getElem hlt⟩
        have hc := hrow.out.at (hh.out.at.trans hx)
        have HM := hid (List.mem_of_getElem? hx)
        have hi' : (i : Int) < xs.length := by omega
        have hij' : i < xs.length := by omega
        have ci : ∃ y, wr.cell? ⟨b, off + i, none⟩ = some (.pointer (some ⟨cb y, 0, none⟩)) := by
          have : i < M.length := by rw [hh.out.len]; omega
          exact ⟨_, hrow.out.at (List.getElem?_eq_getElem this)⟩
        obtain ⟨y, hcy⟩ := ci
        have hfz := hrow.out.fz (i := off + i)
        cases he : q x
        · have HH := hid (hh.out.keep hx he)
          have HR2 := hid (hrow.out.set x hij')
          go_wp2_with (go_at_call 139; with_reducible (refine (HQ.out wr hgr.out x HM.out).mono ?_); rintro e wr ⟨rfl, rfl⟩; rw [he])
          go_roundw
          case rel => exact ⟨i + 1, j + 1, _, by go_num, by go_num, by omega, HH, HR2, hid (grown_two hgr.out (grown_set wr ⟨b, off + i, none⟩ _))⟩
          case measure => simp only [intOf]; omega
        · have HH := hid (hh.out.skip hx he)
          go_wp2_with (go_at_call 139; with_reducible (refine (HQ.out wr hgr.out x HM.out).mono ?_); rintro e wr ⟨rfl, rfl⟩; rw [he])
          go_roundw
          case rel => exact ⟨i, j + 1, M, rfl, by go_num, by omega, HH, hrow, hgr⟩
          case measure => simp only [intOf]; omega
      · have hD := hid (hh.out.done (by omega))
        have hile : i ≤ xs.length := by omega
        have hi1 : (i : Int) ≤ xs.length := by omega
        have hi2 : (i : Int) ≤ cap := by omega
        by_cases hci : cap = i
        · subst hci
          have hil2 : cap = xs.length := by omega
          obtain ⟨w5, h5, r5, g5⟩ := run_pcut (m := cap) wr 0 hrow.out hile ⟨b, off, none⟩ 0 (fun h => by omega)
          have h5' : xs.length - cap = 0 := by omega
          rw [h5'] at h5
          have R5 := hid r5
          have G5 := hid (grown_two hgr.out g5)
          clear hil2 r5 g5 h5'
          go_wp2
          go_ret
          exact ⟨_, rfl, by rw [← hD.out]; exact R5.out, G5.out, rfl⟩
        · obtain ⟨w5, h5, r5, g5⟩ := run_pcut (m := i) wr 0 hrow.out hile ⟨b, off + i, none⟩ (cap - i) (fun _ => rfl)
          have R5 := hid r5
          have G5 := hid (grown_two hgr.out g5)
          clear r5 g5
          go_wp2
          go_ret
          exact ⟨_, rfl, by rw [← hD.out]; exact R5.out, G5.out, rfl⟩



end Go.Proofs.YtimfjoinjfecjaaGreat
