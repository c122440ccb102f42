/-
  DeleteFunc: clauses are taken out of a list.
  unwatch: a clause watches nothing any more.
-/
import Derived.Test.YtimfjoinjfecjaaGreatG07
import Derived.LaidEqlPtr

namespace Go.Proofs.YtimfjoinjfecjaaGreat
open Go.RowKit Go.Maps
set_option linter.unusedVariables false

/-- Where the first one is. -/
def Idx (q : Nat → Bool) (xs : List Nat) (r : Int) : Prop := (r = -1 ∧ ∀ x ∈ xs, q x = false) ∨ ∃ i x : Nat, r = i ∧ xs[i]? = some x ∧ q x = true ∧ ∀ y ∈ xs.take i, q y = false

theorem Idx.out {q : Nat → Bool} {xs : List Nat} {r : Int} (h : Idx q xs r) : (r = -1 ∧ ∀ x ∈ xs, q x = false) ∨ ∃ i x : Nat, r = i ∧ xs[i]? = some x ∧ q x = true ∧ ∀ y ∈ xs.take i, q y = false := h

/-- What is left. -/
def outF (q : Nat → Bool) (xs : List Nat) : List Nat := xs.filter (fun x => !q x)

theorem out_all {q : Nat → Bool} {xs : List Nat} (h : ∀ x ∈ xs, q x = false) : outF q xs = xs := by
  unfold outF; rw [List.filter_eq_self]; intro x hx; simp [h x hx]

theorem tk_next {α : Type} {c : List α} {k : Nat} {y : α} (h : c[k]? = some y) : c.take (k + 1) = c.take k ++ [y] := by rw [List.take_add_one, h]; rfl

/-- Half way: the first i are what is left of the first j; from j on all is as it was. -/
structure Half (q : Nat → Bool) (xs M : List Nat) (i j : Nat) : Prop where
  ij : i ≤ j
  len : M.length = xs.length
  fst : M.take i = outF q (xs.take j)
  snd : M.drop j = xs.drop j

theorem Half.start {q : Nat → Bool} {xs : List Nat} {i x : Nat} (hx : xs[i]? = some x) (hq : q x = true) (h : ∀ y ∈ xs.take i, q y = false) : Half q xs xs i (i + 1) := by
  refine ⟨by omega, rfl, ?_, rfl⟩
  rw [tk_next hx]
  have : outF q (xs.take i ++ [x]) = outF q (xs.take i) := by simp [outF, hq]
  rw [this, out_all h]

theorem Half.at {q : Nat → Bool} {xs M : List Nat} {i j : Nat} (h : Half q xs M i j) : M[j]? = xs[j]? := by
  have := congrArg (fun l => l[0]?) h.snd
  simpa [List.getElem?_drop] using this

theorem Half.drop1 {q : Nat → Bool} {xs M : List Nat} {i j : Nat} (h : Half q xs M i j) : M.drop (j + 1) = xs.drop (j + 1) := by
  have := congrArg (List.drop 1) h.snd
  simpa [List.drop_drop] using this

theorem Half.skip {q : Nat → Bool} {xs M : List Nat} {i j x : Nat} (h : Half q xs M i j) (hx : xs[j]? = some x) (hq : q x = true) : Half q xs M i (j + 1) := by
  refine ⟨by have := h.ij; omega, h.len, ?_, h.drop1⟩
  rw [h.fst, tk_next hx]
  simp [outF, hq]

theorem Half.keep {q : Nat → Bool} {xs M : List Nat} {i j x : Nat} (h : Half q xs M i j) (hx : xs[j]? = some x) (hq : q x = false) : Half q xs (M.set i x) (i + 1) (j + 1) := by
  have hj := (List.getElem?_eq_some_iff.1 hx).1
  have hij := h.ij
  have hl := h.len
  refine ⟨by omega, by simpa using h.len, ?_, ?_⟩
  · have e : (M.set i x)[i]? = some x := by rw [List.getElem?_set_self (by omega)]
    rw [tk_next e, List.take_set_of_le (Nat.le_refl i), h.fst, tk_next hx]
    simp [outF, hq]
  · rw [List.drop_set_of_lt (by omega)]; exact h.drop1

theorem Half.done {q : Nat → Bool} {xs M : List Nat} {i j : Nat} (h : Half q xs M i j) (hj : xs.length ≤ j) : M.take i = outF q xs := by
  rw [h.fst, List.take_of_length_le hj]



theorem Tryz.info97 : (Tryz.prog.info? 97).map (fun i => (i.zero.isSome, i.size, i.bytes)) = some (true, 6, 64) := by kernel_rfl

theorem eql84 (w : World) (x y : Nat) {c1 c2 : Array Value} {t1 t2 : TypeId} (hx : w.heap[x]? = some (.cells c1 t1 (0, 0))) (hy : w.heap[y]? = some (.cells c2 t2 (0, 0))) :
    (binOp .eql 92 (.pointer (some ⟨x, 0, none⟩)) (.pointer (some ⟨y, 0, none⟩))).run Tryz.prog w = .ok (.bool (x == y)) w := by
  have hi := Tryz.info97
  cases hj : Tryz.prog.info? 97 with
  | none => rw [hj] at hi; cases hi
  | some j =>
    rw [hj] at hi
    simp only [Option.map_some, Option.some.injEq, Prod.mk.injEq] at hi
    by_cases e : x = y
    · subst e
      rw [run_eql_ptr_same w ⟨x, 0, none⟩ Tryz.underlying92 hj]; simp
    · rw [run_eql_ptr_other w Tryz.underlying92 hj (by omega) (by simp) hx hy]; simp [e]

theorem isF_is (w : World) (bx x y : Nat) {c1 c2 : Array Value} {t1 t2 : TypeId} (h : w.cell? ⟨bx, 0, none⟩ = some (.pointer (some ⟨y, 0, none⟩))) (hx : w.heap[x]? = some (.cells c1 t1 (0, 0))) (hy : w.heap[y]? = some (.cells c2 t2 (0, 0))) : Calls Tryz.prog 139 #[.pointer (some ⟨x, 0, none⟩), .pointer (some ⟨bx, 0, none⟩)] w fun e w' => e = .returned (.bool (x == y)) ∧ w' = w := by
  have he := eql84 w x y hx hy
  clear hx hy
  go_enter Tryz.func139, Tryz.ntmps139
  go_wp2
  go_ret
  exact ⟨rfl, rfl⟩

set_option maxHeartbeats 1000000 in
theorem indexI {cb : Nat → Nat} {q : Nat → Bool} (w : World) (bx : Nat) {ao : Option Addr} {n cap : Nat} {xs : List Nat} (own : PRow w cb (.slice ao n cap) xs) (hq : ∀ x ∈ xs, Calls Tryz.prog 139 #[.pointer (some ⟨cb x, 0, none⟩), .pointer (some ⟨bx, 0, none⟩)] w fun e w' => e = .returned (.bool (q x)) ∧ w' = w) :
    Calls Tryz.prog 154 #[.slice ao n cap, .func (.func 139) #[] #[.pointer (some ⟨bx, 0, none⟩)]] w fun e w' => (∃ r : Int, e = .returned (.int .i64 r) ∧ Hid (Idx q xs r)) ∧ w' = w := by
  have hn : n = xs.length := by obtain ⟨_, _, e, _⟩ := own.shape; cases e; rfl
  have hm : n ≤ 9223372036854775807 := by obtain ⟨_, _, e, h1, h2⟩ := own.shape; cases e; unfold maxLen at h2; omega
  have HO := hid own
  have HQ := hid hq
  have HN := hid hn
  clear own hq hn
  go_enter Tryz.func154, Tryz.ntmps154
  go_wp2
  go_loop [5, 8] (fun _ i => ∃ k : Nat, k ≤ n ∧ i = .int .i64 k ∧ Hid (∀ y ∈ xs.take k, q y = false)) (fun _ i => n - (intOf i).toNat)
  case atStart => exact ⟨0, Nat.zero_le _, rfl, hid (fun y hy => by simp at hy)⟩
  case round =>
    obtain ⟨k, hk, rfl, hno⟩ := hrel
    by_cases hlt : k < n
    · obtain ⟨x, hx⟩ : ∃ x, xs[k]? = some x := ⟨_, List.getElem?_eq_getElem (by rw [← HN.out]; exact hlt)⟩
      obtain ⟨b, off, cap', e, _⟩ := HO.out.filled (by rw [← HN.out]; omega)
      cases e
      have hc := HO.out.at hx
      have hlt' : k < xs.length := hlt
      have HX := hid hx
      have HM := hid (List.mem_of_getElem? hx)
      clear hx
      cases he : q x
      · have HV : Hid (∀ y ∈ xs.take (k + 1), q y = false) := hid (by
          rw [tk_next HX.out]
          intro y hy
          rcases List.mem_append.1 hy with h | h
          · exact hno.out y h
          · rw [List.mem_singleton] at h; rw [h]; exact he)
        go_wp2_with (go_at_call 139; with_reducible (refine (HQ.out x HM.out).mono ?_); rintro e w ⟨rfl, rfl⟩; rw [he])
        go_round
        case rel => exact ⟨k + 1, by omega, by go_num, HV⟩
        case measure => simp [intOf]; omega
      · have HV : Hid (Idx q xs k) := hid (.inr ⟨k, x, rfl, HX.out, he, hno.out⟩)
        go_wp2_with (go_at_call 139; with_reducible (refine (HQ.out x HM.out).mono ?_); rintro e w ⟨rfl, rfl⟩; rw [he])
        go_ret
        exact ⟨⟨_, rfl, HV⟩, rfl⟩
    · have HV : Hid (Idx q xs (-1)) := hid (.inl ⟨rfl, fun y hy => hno.out y (by rw [List.take_of_length_le (by rw [← HN.out]; omega)]; exact hy)⟩)
      go_wp2
      go_ret
      exact ⟨⟨_, rfl, HV⟩, rfl⟩

def DelEndI (w : World) (cb : Nat → Nat) (v : Value) (zs : List Nat) (e : Ending) (w' : World) : Prop := ∃ v', e = .returned v' ∧ PRow w' cb v' zs ∧ w.grownBy w' v.ownBlock ∧ v'.ownBlock = v.ownBlock

set_option maxHeartbeats 2000000 in
theorem deleteI {cb : Nat → Nat} {q : Nat → Bool} (w : World) (bx : Nat) {ao : Option Addr} {n cap : Nat} {xs : List Nat} (own : PRow w cb (.slice ao n cap) xs) (hq : ∀ wr, w.grownBy wr (Value.slice ao n cap).ownBlock → ∀ x ∈ xs, Calls Tryz.prog 139 #[.pointer (some ⟨cb x, 0, none⟩), .pointer (some ⟨bx, 0, none⟩)] wr fun e w' => e = .returned (.bool (q x)) ∧ w' = wr) :
    Calls Tryz.prog 132 #[.slice ao n cap, .func (.func 139) #[] #[.pointer (some ⟨bx, 0, none⟩)]] w fun e w' => DelEndI w cb (.slice ao n cap) (outF q xs) e w' := by
  have hn : n = xs.length := by obtain ⟨_, _, e, _⟩ := own.shape; cases e; rfl
  have hm : n ≤ cap ∧ (cap : Int) ≤ 9223372036854775807 := by obtain ⟨_, _, e, h1, h2⟩ := own.shape; cases e; unfold maxLen at h2; omega
  obtain ⟨hm1, hm2⟩ := hm
  have g0 : w.grownBy w (Value.slice ao n cap).ownBlock := ⟨rfl, rfl, rfl, Nat.le_refl _, fun _ _ _ => rfl⟩
  have HI := hid (indexI (q := q) w bx own (hq w g0))
  have HO := hid own
  have HQ := hid hq
  have HN := hid hn
  clear own hq hn
  go_enter Tryz.func132, Tryz.ntmps132
  go_wp2_with (go_at_call 154; with_reducible (refine (HI.out).mono ?_); rintro e w ⟨⟨r, rfl, hr⟩, rfl⟩; have hr2 := Idx.out hr.out; rcases hr2 with ⟨rfl, hall⟩ | ⟨i, x, rfl, hx, hqx, hfst⟩)
  · go_ret
    exact ⟨_, rfl, by rw [out_all hall]; exact HO.out, ⟨rfl, rfl, rfl, Nat.le_refl _, fun _ _ _ => rfl⟩, rfl⟩
  · have hil := (List.getElem?_eq_some_iff.1 hx).1
    have hin : i < n := by rw [HN.out]; exact hil
    obtain ⟨b, off, cap', e, _⟩ := HO.out.filled (by omega)
    cases e
    have HQ := hid (show ∀ wr, w.grownBy wr (some b) → ∀ x ∈ xs, Calls Tryz.prog 139 #[.pointer (some ⟨cb x, 0, none⟩), .pointer (some ⟨bx, 0, none⟩)] wr fun e w' => e = .returned (.bool (q x)) ∧ w' = wr from HQ.out)
    have hin' : (i : Int) < 9223372036854775807 := by omega
    have HH := hid (Half.start hx hqx hfst)
    clear hx hqx hfst hr
    go_wp2
    go_loopw [5, 6, 7] (fun u v _ wr => ∃ (i j : Nat) (M : List Nat), u = .int .i64 i ∧ v = .int .i64 j ∧ j ≤ xs.length ∧ Hid (Half q xs M i j) ∧ Hid (PRow wr cb (.slice (some ⟨b, off, none⟩) xs.length cap) M) ∧ Hid (w.grownBy wr (some b))) (fun _ v _ _ => xs.length - (intOf v).toNat)
    case atStart => exact ⟨i, i + 1, xs, rfl, congrArg (Value.int .i64) (by go_arith), by omega, HH, HO, hid ⟨rfl, rfl, rfl, Nat.le_refl _, fun _ _ _ => rfl⟩⟩
    case round =>
      clear HH
      obtain ⟨i, j, M, rfl, rfl, hj, hh, hrow, hgr⟩ := hrel
      have hij := hh.out.ij
      by_cases hlt : j < xs.length
      · obtain ⟨x, hx⟩ : ∃ x, xs[j]? = some x := ⟨_, List.getElem?_eq_getElem hlt⟩
        have hc := hrow.out.at (hh.out.at.trans hx)
        have HM := hid (List.mem_of_getElem? hx)
        have hi' : (i : Int) < xs.length := by omega
        have hij' : i < xs.length := by omega
        have ci : ∃ y, wr.cell? ⟨b, off + i, none⟩ = some (.pointer (some ⟨cb y, 0, none⟩)) := by
          have : i < M.length := by rw [hh.out.len]; omega
          exact ⟨_, hrow.out.at (List.getElem?_eq_getElem this)⟩
        obtain ⟨y, hcy⟩ := ci
        have hfz := hrow.out.fz (i := off + i)
        cases he : q x
        · have HH := hid (hh.out.keep hx he)
          have HR2 := hid (hrow.out.set x hij')
          go_wp2_with (go_at_call 139; with_reducible (refine (HQ.out wr hgr.out x HM.out).mono ?_); rintro e wr ⟨rfl, rfl⟩; rw [he])
          go_roundw
          case rel => exact ⟨i + 1, j + 1, _, by go_num, by go_num, by omega, HH, HR2, hid (grown_two hgr.out (grown_set wr ⟨b, off + i, none⟩ _))⟩
          case measure => simp only [intOf]; omega
        · have HH := hid (hh.out.skip hx he)
          go_wp2_with (go_at_call 139; with_reducible (refine (HQ.out wr hgr.out x HM.out).mono ?_); rintro e wr ⟨rfl, rfl⟩; rw [he])
          go_roundw
          case rel => exact ⟨i, j + 1, M, rfl, by go_num, by omega, HH, hrow, hgr⟩
          case measure => simp only [intOf]; omega
      · have hD := hid (hh.out.done (by omega))
        have hile : i ≤ xs.length := by omega
        have hi1 : (i : Int) ≤ xs.length := by omega
        have hi2 : (i : Int) ≤ cap := by omega
        by_cases hci : cap = i
        · subst hci
          have hil2 : cap = xs.length := by omega
          obtain ⟨w5, h5, r5, g5⟩ := run_pcut (m := cap) wr 0 hrow.out hile ⟨b, off, none⟩ 0 (fun h => by omega)
          have h5' : xs.length - cap = 0 := by omega
          rw [h5'] at h5
          have R5 := hid r5
          have G5 := hid (grown_two hgr.out g5)
          clear hil2 r5 g5 h5'
          go_wp2
          go_ret
          exact ⟨_, rfl, by rw [← hD.out]; exact R5.out, G5.out, rfl⟩
        · obtain ⟨w5, h5, r5, g5⟩ := run_pcut (m := i) wr 0 hrow.out hile ⟨b, off + i, none⟩ (cap - i) (fun _ => rfl)
          have R5 := hid r5
          have G5 := hid (grown_two hgr.out g5)
          clear r5 g5
          go_wp2
          go_ret
          exact ⟨_, rfl, by rw [← hD.out]; exact R5.out, G5.out, rfl⟩



def DelEndG (w : World) (cb : Nat → Nat) (v : Value) (zs : List Nat) (e : Ending) (w' : World) : Prop := ∃ v', e = .returned v' ∧ PRow w' cb v' zs ∧ w.grownBy w' v.ownBlock ∧ v'.ownBlock = v.ownBlock



end Go.Proofs.YtimfjoinjfecjaaGreat

namespace Go.Proofs.YtimfjoinjfecjaaGreat
open Go.RowKit Go.Maps
set_option linter.unusedVariables false

theorem nw_same {w : World} {v v' : Value} (h : v'.ownBlock = v.ownBlock) : Nw w v v' := fun j hj => .inl (h ▸ hj)

section
variable {k : WK} {w w1 : World} {g : G}

theorem St.setw {w5 : World} {v5 : Value} {x : Nat} {zs : List Nat} (s : St k w1 g) (hx : x < 2 * k.n) (hz : ∀ i ∈ zs, i < g.nx) (own : PRow w5 g.cb v5 zs) (gr : w1.grownBy w5 (g.pv x).ownBlock) (nw : Nw w1 (g.pv x) v5) :
    w5.cell? ⟨k.OB, 2, none⟩ = some (.slice (some ⟨k.WB, 0, none⟩) (2 * k.n) (2 * k.n)) ∧ w5.cell? ⟨k.WB, x, none⟩ = some (g.pv x) ∧ w5.frozen? ⟨k.WB, x, none⟩ = false ∧ Hid (St k (w5.setCell ⟨k.WB, x, none⟩ v5) (g.slot x zs v5)) ∧ Hid (FW k.B w1 (w5.setCell ⟨k.WB, x, none⟩ v5)) := by
  have hs : x ≤ 3 * k.n := by omega
  obtain ⟨c5, l5⟩ := s.list hs gr own nw hz
  refine ⟨c5.c2, c5.wc hx, c5.wf x, c5.putw hx _ _ l5, (FW.grown gr (s.ty hs) (s.l.lo.p _ hs)).trans (FW.grown (grown_set w5 ⟨k.WB, x, none⟩ v5) (fun j T e t => ?_) (fun j e => by cases e; exact c5.lo.2.1))⟩
  cases e
  obtain ⟨cc, q1, _⟩ := c5.wb
  rw [t.one ⟨_, _, q1⟩]; simp [Wt]

theorem out_sub {q : Nat → Bool} {xs : List Nat} {nx : Nat} (h : ∀ i ∈ xs, i < nx) : ∀ i ∈ outF q xs, i < nx := fun i hi => h i (List.mem_filter.1 hi).1

theorem del_is (s : St k w g) {c : Nat} (hc : c < g.nx) (bx : Nat) (hbx : w.cell? ⟨bx, 0, none⟩ = some (.pointer (some ⟨g.cb c, 0, none⟩))) {x : Nat} (hx : x ≤ 3 * k.n) (hb : (g.pv x).ownBlock ≠ some bx) {ao : Option Addr} {n cap : Nat} (ev : g.pv x = .slice ao n cap) :
    Calls Tryz.prog 132 #[.slice ao n cap, .func (.func 139) #[] #[.pointer (some ⟨bx, 0, none⟩)]] w fun e w' => ∃ ao' n' cap', e = .returned (.slice ao' n' cap') ∧ Hid (PRow w' g.cb (.slice ao' n' cap') (outF (fun i => i == c) (g.P x))) ∧ Hid (w.grownBy w' (g.pv x).ownBlock) ∧ Hid ((Value.slice ao' n' cap').ownBlock = (g.pv x).ownBlock) := by
  have own := s.l.rw x hx
  rw [ev] at own
  refine (deleteI (q := fun i => i == c) w bx own ?_).mono ?_
  · intro wr gr i hi
    rw [← ev] at gr
    have hlt := s.l.sub x hx i hi
    have ty := s.ty hx
    have key : ∀ j T, Typ w j T → T ≠ 92 → wr.heap[j]? = w.heap[j]? := fun j T t hne => gr.block j t.lt (fun e => hne (t.one ((s.l.rw x hx).typ e.symm)))
    have h1 := s.l.cl i hlt
    have h2 := s.l.cl c hc
    have e1 : wr.cell? ⟨bx, 0, none⟩ = some (.pointer (some ⟨g.cb c, 0, none⟩)) := by
      rw [← hbx]
      exact World.cell?_of_block (gr.block bx (cell_lt hbx) (fun e => hb e.symm))
    have := isF_is wr bx (g.cb i) (g.cb c) e1 (by rw [key _ 97 ⟨_, _, h1⟩ (by decide)]; exact h1) (by rw [key _ 97 ⟨_, _, h2⟩ (by decide)]; exact h2)
    have e2 : (g.cb i == g.cb c) = (i == c) := by
      by_cases e : i = c
      · subst e; rw [beq_self_eq_true, beq_self_eq_true]
      · have : g.cb i ≠ g.cb c := fun q => e (s.l.inj i c hlt hc q)
        rw [beq_eq_false_iff_ne.2 this, beq_eq_false_iff_ne.2 e]
    rw [e2] at this
    exact this
  · rintro e w' ⟨v', rfl, h1, h2, h3⟩
    obtain ⟨a', p', e, _⟩ := h1.shape
    subst e
    rw [← ev] at h2 h3
    exact ⟨_, _, _, rfl, h1, h2, h3⟩

theorem unwatch_none (s : St k w g) {c : Nat} (hc : c < g.nx) (hg : g.gn c = false) (ha : g.a c = -1) : Calls Tryz.prog 111 #[.pointer (some ⟨k.OB, 0, none⟩), .pointer (some ⟨g.cb c, 0, none⟩)] w fun e w' => e = .returned (.tuple #[]) ∧ Hid (Below w.heap.size w w') := by
  have B1 : Below w.heap.size w (w.alloc (.cells #[.pointer (some ⟨g.cb c, 0, none⟩)] 92)) := by go_grown
  obtain ⟨c0, c1, c2, c3, c4⟩ := (s.below B1).l.ks hc hg
  rw [ha] at c2
  clear s
  go_enter Tryz.func111, Tryz.ntmps111
  go_wp2
  refine bodyPost_ret (results_none rfl _ _ _) rfl ?_
  exact ⟨rfl, B1⟩

theorem index86a (x y : Value) (w : World) : (Instr.index 95 (.agg #[x, y]) (.int .i64 0)).run Tryz.prog w = .ok x w := by kernel_rfl
theorem index86b (x y : Value) (w : World) : (Instr.index 95 (.agg #[x, y]) (.int .i64 1)).run Tryz.prog w = .ok y w := by kernel_rfl

theorem box_keep {W w5 : World} {B b x : Nat} {r : Option Nat} {v v5 : Value} (h : W.cell? ⟨B, 0, none⟩ = some v) (gr : W.grownBy w5 r) (hr : r ≠ some B) (hb : b ≠ B) : (w5.setCell ⟨b, x, none⟩ v5).cell? ⟨B, 0, none⟩ = some v := by
  have g2 := grown_set w5 ⟨b, x, none⟩ v5
  have hlt := cell_lt h
  rw [World.cell?_of_block (a := ⟨B, 0, none⟩) (g2.block B (Nat.lt_of_lt_of_le hlt gr.size) (fun e => hb (Option.some.inj e).symm)), World.cell?_of_block (a := ⟨B, 0, none⟩) (gr.block B hlt (fun e => hr e.symm))]
  exact h

/-- What two rounds do. -/
def UW (g : G) (c a b q : Nat) (g1 : G) : Prop :=
  (q = 0 ∧ g1 = g) ∨ (q = 1 ∧ ∃ v : Value, v.ownBlock = (g.pv a).ownBlock ∧ g1 = g.slot a (outF (fun i => i == c) (g.P a)) v) ∨
  (q = 2 ∧ ∃ v v' : Value, g1 = (g.slot a (outF (fun i => i == c) (g.P a)) v).slot b (outF (fun i => i == c) (g.P b)) v')

def UnwEnd (k : WK) (g : G) (c a b : Nat) (w w' : World) : Prop := ∃ v1 v2, St k w' (((g.slot a (outF (fun i => i == c) (g.P a)) v1).slot b (outF (fun i => i == c) (g.P b)) v2).watch c (-1) (-1)) ∧ FW k.B w w'

theorem UW.at {g g1 : G} {c a b q : Nat} (h : UW g c a b q g1) : g1.cb = g.cb ∧ g1.nx = g.nx ∧ g1.gn = g.gn := by
  rcases h with ⟨_, rfl⟩ | ⟨_, v, _, rfl⟩ | ⟨_, v, v', rfl⟩ <;> exact ⟨rfl, rfl, rfl⟩

set_option maxHeartbeats 2000000 in
theorem unwatch_is (s : St k w g) {c : Nat} (hc : c < g.nx) (hg : g.gn c = false) (a b : Nat) (ea : g.a c = a) (eb : g.b c = b) (ha : a < 2 * k.n) (hb : b < 2 * k.n) (hab : a ≠ b) :
    Calls Tryz.prog 111 #[.pointer (some ⟨k.OB, 0, none⟩), .pointer (some ⟨g.cb c, 0, none⟩)] w fun e w' => e = .returned (.tuple #[]) ∧ UnwEnd k g c a b w w' := by
  have B1 : Below w.heap.size w (w.alloc (.cells #[.pointer (some ⟨g.cb c, 0, none⟩)] 92)) := by go_grown
  obtain ⟨c0, c1, c2, c3, c4⟩ := (s.below B1).l.ks hc hg
  rw [ea] at c2
  rw [eb] at c3
  have bx : (w.alloc (.cells #[.pointer (some ⟨g.cb c, 0, none⟩)] 92)).cell? ⟨w.heap.size, 0, none⟩ = some (.pointer (some ⟨g.cb c, 0, none⟩)) := by rw [cell_of (new_same w _)]; rfl
  have hn := s.l.hn
  have ha0 : ((a : Int) == -1) = false := beq_eq_false_iff_ne.2 (by omega)
  have HS := hid (s.below B1)
  have lta : ∀ j, (g.pv a).ownBlock = some j → j < w.heap.size := fun j e => (s.l.rw a (by omega)).lt e
  have ltb : ∀ j, (g.pv b).ownBlock = some j → j < w.heap.size := fun j e => (s.l.rw b (by omega)).lt e
  have HLA := hid lta
  have HLB := hid ltb
  have HB1 := hid B1
  have HWB : Hid (k.WB ≠ w.heap.size) := hid (by obtain ⟨cc, q1, _⟩ := s.c.wb; have := blk_lt q1; omega)
  have ha' : (a : Int) < 2 * k.n := by omega
  have hb' : (b : Int) < 2 * k.n := by omega
  clear s c0 c1 c4 lta ltb
  go_enter Tryz.func111, Tryz.ntmps111
  go_wp2
  go_loopw [6, 18] (fun _ i wr => ∃ (q : Nat) (g1 : G), i = .int .i64 q ∧ q ≤ 2 ∧ Hid (UW g c a b q g1) ∧ Hid (St k wr g1) ∧ Hid (FW k.B w wr) ∧ wr.cell? ⟨w.heap.size, 0, none⟩ = some (.pointer (some ⟨g.cb c, 0, none⟩))) (fun _ i _ => 2 - (intOf i).toNat)
  case atStart => exact ⟨0, g, rfl, by omega, hid (.inl ⟨rfl, rfl⟩), HS, hid (FW.below HB1.out), bx⟩
  case round =>
    clear bx c2 c3 HS
    obtain ⟨q, g1, rfl, hq, huw, hs, hfw, hbx⟩ := hrel
    by_cases h0 : q = 0
    · subst h0
      have e1 : g1 = g := by rcases huw.out with ⟨_, h⟩ | ⟨h, _⟩ | ⟨h, _⟩ <;> first | exact h | omega
      subst e1
      obtain ⟨aa, pa, eva, _⟩ := (hs.out.l.rw a (by omega)).shape
      have d2 := hs.out.c2
      have d3 := hs.out.c.wc ha
      rw [eva] at d3
      rw [show ((0 : Nat) : Int) = 0 from rfl]
      have ix := index86a (.int .i64 a) (.int .i64 b)
      have hbn : (g1.pv a).ownBlock ≠ some w.heap.size := fun e => by have := HLA.out _ e; omega
      have HBN := hid hbn
      clear huw hq hbn
      have hbx' : wr.drew.cell? ⟨w.heap.size, 0, none⟩ = some (.pointer (some ⟨g1.cb c, 0, none⟩)) := hbx
      have HX := hid hbx'
      have ha3 : a ≤ 3 * k.n := by omega
      go_wp2
      go_region_with (go_at_call 132; with_reducible (refine (del_is hs.out.drew hc _ HX.out ha3 HBN.out eva).mono ?_); rintro e w5 ⟨a5, n5, p5, rfl, own5, g5, o5⟩; have m5 := hs.out.drew.setw ha (out_sub (hs.out.l.sub a ha3)) own5.out g5.out (nw_same o5.out); obtain ⟨q0, q1, q2, s6, F6⟩ := m5; rw [eva] at q1)
      all_goals go_wp2
      all_goals go_roundw
      all_goals first
        | exact ⟨1, _, rfl, by omega, hid (.inr (.inl ⟨rfl, _, o5.out, rfl⟩)), s6, hid ((hfw.out.trans (FW.below (below_drew _))).trans F6.out), box_keep HX.out g5.out HBN.out HWB.out⟩
        | (simp [intOf])
    · by_cases h1 : q = 1
      · subst h1
        have huw' := huw.out
        have e1 : ∃ v : Value, v.ownBlock = (g.pv a).ownBlock ∧ g1 = g.slot a (outF (fun i => i == c) (g.P a)) v := by
          rcases huw' with ⟨h, _⟩ | ⟨_, h⟩ | ⟨h, _⟩
          · omega
          · exact h
          · omega
        obtain ⟨v, hv, rfl⟩ := e1
        have hpv : (g.slot a (outF (fun i => i == c) (g.P a)) v).pv b = g.pv b := up_ne _ _ (fun e => hab e.symm)
        have hP : (g.slot a (outF (fun i => i == c) (g.P a)) v).P b = g.P b := up_ne _ _ (fun e => hab e.symm)
        obtain ⟨ab, pb, evb, _⟩ := (hs.out.l.rw b (by omega)).shape
        have d2 := hs.out.c2
        have d3 := hs.out.c.wc hb
        rw [evb] at d3
        rw [show ((1 : Nat) : Int) = 1 from rfl]
        have ix := index86b (.int .i64 a) (.int .i64 b)
        have hbn : ((g.slot a (outF (fun i => i == c) (g.P a)) v).pv b).ownBlock ≠ some w.heap.size := fun e => by rw [hpv] at e; have := HLB.out _ e; omega
        have HBN := hid hbn
        have hbx' : wr.drew.cell? ⟨w.heap.size, 0, none⟩ = some (.pointer (some ⟨g.cb c, 0, none⟩)) := hbx
        have HX := hid hbx'
        have hb3 : b ≤ 3 * k.n := by omega
        have HP := hid hP
        have HC : Hid (c < (g.slot a (outF (fun i => i == c) (g.P a)) v).nx) := hid hc
        clear huw hq hbn hpv hP huw' h0
        go_wp2
        go_region_with (go_at_call 132; with_reducible (refine (del_is hs.out.drew HC.out _ HX.out hb3 HBN.out evb).mono ?_); rintro e w5 ⟨a5, n5, p5, rfl, own5, g5, o5⟩; have m5 := hs.out.drew.setw hb (out_sub (hs.out.l.sub b hb3)) own5.out g5.out (nw_same o5.out); obtain ⟨q0, q1, q2, s6, F6⟩ := m5; rw [evb] at q1)
        all_goals go_wp2
        all_goals go_roundw
        all_goals first
          | exact ⟨2, _, rfl, by omega, hid (.inr (.inr ⟨rfl, _, _, by rw [HP.out]⟩)), s6, hid ((hfw.out.trans (FW.below (below_drew _))).trans F6.out), box_keep HX.out g5.out HBN.out HWB.out⟩
          | (simp [intOf])
      · have hq2 : q = 2 := by omega
        subst hq2
        have huw' := huw.out
        have e1 : ∃ v v' : Value, g1 = (g.slot a (outF (fun i => i == c) (g.P a)) v).slot b (outF (fun i => i == c) (g.P b)) v' := by
          rcases huw' with ⟨h, _⟩ | ⟨h, _⟩ | ⟨_, h⟩
          · omega
          · omega
          · exact h
        obtain ⟨v, v', rfl⟩ := e1
        obtain ⟨k0, k1, k2, k3, k4⟩ := hs.out.l.ks (i := c) hc hg
        have k2' : wr.cell? ⟨g.cb c, 2, none⟩ = some (.int .i64 (g.a c)) := k2
        have k3' : wr.cell? ⟨g.cb c, 3, none⟩ = some (.int .i64 (g.b c)) := k3
        have f2 : wr.frozen? ⟨g.cb c, 2, none⟩ = false := hs.out.l.kf (i := c) hc 2
        have f3 : wr.frozen? ⟨g.cb c, 3, none⟩ = false := hs.out.l.kf (i := c) hc 3
        have s9 : Hid (St k ((wr.setCell ⟨g.cb c, 2, none⟩ (.int .i64 (-1))).setCell ⟨g.cb c, 3, none⟩ (.int .i64 (-1))) (((g.slot a (outF (fun i => i == c) (g.P a)) v).slot b (outF (fun i => i == c) (g.P b)) v').watch c (-1) (-1))) := hid (hs.out.putwatch (i := c) hc hg (-1) (-1))
        have F9 : Hid (FW k.B wr ((wr.setCell ⟨g.cb c, 2, none⟩ (.int .i64 (-1))).setCell ⟨g.cb c, 3, none⟩ (.int .i64 (-1)))) := hid (hs.out.watchFW (c := c) hc (.int .i64 (-1)) (.int .i64 (-1)))
        clear k0 k1 k2 k3 k4
        rw [show ((2 : Nat) : Int) = 2 from rfl]
        clear huw hq huw' h0 h1
        go_wp2
        go_end0
        exact ⟨rfl, v, v', s9.out, hfw.out.trans F9.out⟩

end

end Go.Proofs.YtimfjoinjfecjaaGreat
