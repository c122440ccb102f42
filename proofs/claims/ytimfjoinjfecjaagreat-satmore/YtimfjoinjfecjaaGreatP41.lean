/-
  The walk of SatSound.
  Clauses that are gone are taken out of a list.
  sweep: the clauses that are gone are taken out of all lists.
-/
import Derived.Test.YtimfjoinjfecjaaGreatP40
import Derived.Test.YtimfjoinjfecjaaGreatP25

namespace Go.Proofs.YtimfjoinjfecjaaGreat
open Go.RowKit Go.Maps
set_option linter.unusedVariables false

/-- Clauses that may be, as their literals are. -/
theorem chk_parts {vars : Int} {l : List (List Int)} (h : U.chkF vars l = 0) : ∃ n : Nat, vars = n ∧ ∀ c ∈ l, ∀ y ∈ c, 0 ≤ y ∧ y < 2 * (n : Int) := by
  have h1 : ¬ (vars < 0 ∨ 1048576 < vars) := fun q => by rw [U.chk_low l q] at h; omega
  have h2 : ¬ 1048576 < l.length := fun q => by rw [U.chk_many (by omega) (by omega) q] at h; omega
  have h3 : U.badG vars l = false := by
    cases q : U.badG vars l
    · rfl
    · rw [U.chk_bad (by omega) (by omega) h2 q] at h; omega
  obtain ⟨n, rfl⟩ : ∃ n : Nat, vars = n := ⟨vars.toNat, by omega⟩
  refine ⟨n, rfl, fun c hc y hy => ?_⟩
  have h4 : U.badC n c = false := by
    have := List.any_eq_false.1 (show l.any (U.badC n) = false from h3) c hc
    simpa using this
  obtain ⟨a1, a2, a3, a4⟩ := U.good_lit h4 hy
  omega

theorem model_holds {n : Nat} {l : List (List Int)} {tr : List Bool} (hl : tr.length = n) (h : ∀ c ∈ l, ∃ x ∈ c, tr[vl x]? = some (!decide (x % 2 = 1)) ∧ 0 ≤ x) : ∀ c ∈ l, U.holdsF c n (fun i => tr.getD i false) = true := by
  intro c hc
  obtain ⟨x, hx, h1, h0⟩ := h c hc
  refine List.any_eq_true.2 ⟨x, hx, ?_⟩
  have hi := (List.getElem?_eq_some_iff.1 h1).1
  have e1 : (x / 2).toNat = vl x := by unfold vl; omega
  have e2 : x / 2 < (n : Int) := by unfold vl at hi; omega
  unfold U.holF U.truF U.negF
  rw [if_neg (by omega), e1]
  simp only [List.getD_eq_getElem?_getD, h1, Option.getD_some, e2, decide_true, Bool.true_and, h0, true_and]
  cases decide (x % 2 = 1) <;> rfl

theorem few_parts {z : List (List Int)} {m : Nat} (h : ¬ U.fewF z (m : Nat) = 0) : z.length ≤ m ∧ ∀ c ∈ z, c.length ≤ 40 := ⟨U.few_len h, U.few_short h⟩

section
variable {w : World} {a : Option Addr} {len cap : Nat} {z : List (List Int)}

theorem SolEnd.out {al : Bool} {n bud : Nat} {r : Value} {w' : World} (h : SolEnd al n z bud w r w') :
  (∃ (tb cf : Nat) (tr : List Bool), r = .agg #[.int .i64 1, .slice (some ⟨tb, 0, none⟩) n n, .int .i64 cf, .slice none 0 0] ∧ Hid (Below w.heap.size w w') ∧ Hid (w'.heap[tb]? = some (.cells (tr.map Value.bool).toArray 4 (0, 0))) ∧ Hid (tr.length = n ∧ cf ≤ bud ∧ ∀ c ∈ z, ∃ x ∈ c, tr[vl x]? = some (!decide (x % 2 = 1)) ∧ 0 ≤ x)) ∨
  (∃ (a : Option Addr) (k cp cf : Nat) (P : List (List Int)), r = .agg #[.int .i64 2, .slice none 0 0, .int .i64 cf, .slice a k cp] ∧ Hid (Below w.heap.size w w') ∧ Hid (U.Grid w' a k cp (P ++ [[]])) ∧ Hid (cf = P.length ∧ cf ≤ bud ∧ Fin al n z P ∧ U.Stp (z ++ P) [])) ∨
  (∃ P : List (List Int), r = .agg #[.int .i64 0, .slice none 0 0, .int .i64 bud, .slice none 0 0] ∧ Hid (Below w.heap.size w w') ∧ Hid (P.length = bud ∧ Fin al n z P)) := h

theorem BEnd.yes {p : Prop} {e : Ending} {w w' : World} (h : BEnd w p e w') (hp : p) : e = .returned (.bool true) ∧ Hid (Below w.heap.size w w') := by
  obtain ⟨b, rfl, h1, h2⟩ := h
  rw [h1.out.2 hp]
  exact ⟨rfl, h2⟩

end
end Go.Proofs.YtimfjoinjfecjaaGreat

namespace Go.Proofs.YtimfjoinjfecjaaGreat
open Go.RowKit Go.Maps
set_option linter.unusedVariables false

set_option maxHeartbeats 1000000 in
theorem indexG {cb : Nat → Nat} {q : Nat → Bool} (w : World) {ao : Option Addr} {n cap : Nat} {xs : List Nat} (own : PRow w cb (.slice ao n cap) xs) (hq : ∀ x ∈ xs, Calls Tryz.prog 131 #[.pointer (some ⟨cb x, 0, none⟩)] w fun e w' => e = .returned (.bool (q x)) ∧ w' = w) :
    Calls Tryz.prog 154 #[.slice ao n cap, .func (.func 131) #[] #[]] w fun e w' => (∃ r : Int, e = .returned (.int .i64 r) ∧ Hid (Idx q xs r)) ∧ w' = w := by
  have hn : n = xs.length := by obtain ⟨_, _, e, _⟩ := own.shape; cases e; rfl
  have hm : n ≤ 9223372036854775807 := by obtain ⟨_, _, e, h1, h2⟩ := own.shape; cases e; unfold maxLen at h2; omega
  have HO := hid own
  have HQ := hid hq
  have HN := hid hn
  clear own hq hn
  go_enter Tryz.func154, Tryz.ntmps154
  go_wp2
  go_loop [5, 8] (fun _ i => ∃ k : Nat, k ≤ n ∧ i = .int .i64 k ∧ Hid (∀ y ∈ xs.take k, q y = false)) (fun _ i => n - (intOf i).toNat)
  case atStart => exact ⟨0, Nat.zero_le _, rfl, hid (fun y hy => by simp at hy)⟩
  case round =>
    obtain ⟨k, hk, rfl, hno⟩ := hrel
    by_cases hlt : k < n
    · obtain ⟨x, hx⟩ : ∃ x, xs[k]? = some x := ⟨_, List.getElem?_eq_getElem (by rw [← HN.out]; exact hlt)⟩
      obtain ⟨b, off, cap', e, _⟩ := HO.out.filled (by rw [← HN.out]; omega)
      cases e
      have hc := HO.out.at hx
      have hlt' : k < xs.length := hlt
      have HX := hid hx
      have HM := hid (List.mem_of_getElem? hx)
      clear hx
      cases he : q x
      · have HV : Hid (∀ y ∈ xs.take (k + 1), q y = false) := hid (by
          rw [tk_next HX.out]
          intro y hy
          rcases List.mem_append.1 hy with h | h
          · exact hno.out y h
          · rw [List.mem_singleton] at h; rw [h]; exact he)
        go_wp2_with (go_at_call 131; with_reducible (refine (HQ.out x HM.out).mono ?_); rintro e w ⟨rfl, rfl⟩; rw [he])
        go_round
        case rel => exact ⟨k + 1, by omega, by go_num, HV⟩
        case measure => simp [intOf]; omega
      · have HV : Hid (Idx q xs k) := hid (.inr ⟨k, x, rfl, HX.out, he, hno.out⟩)
        go_wp2_with (go_at_call 131; with_reducible (refine (HQ.out x HM.out).mono ?_); rintro e w ⟨rfl, rfl⟩; rw [he])
        go_ret
        exact ⟨⟨_, rfl, HV⟩, rfl⟩
    · have HV : Hid (Idx q xs (-1)) := hid (.inl ⟨rfl, fun y hy => hno.out y (by rw [List.take_of_length_le (by rw [← HN.out]; omega)]; exact hy)⟩)
      go_wp2
      go_ret
      exact ⟨⟨_, rfl, HV⟩, rfl⟩

set_option maxHeartbeats 2000000 in
theorem deleteG {cb : Nat → Nat} {q : Nat → Bool} (w : World) {ao : Option Addr} {n cap : Nat} {xs : List Nat} (own : PRow w cb (.slice ao n cap) xs) (hq : ∀ wr, w.grownBy wr (Value.slice ao n cap).ownBlock → ∀ x ∈ xs, Calls Tryz.prog 131 #[.pointer (some ⟨cb x, 0, none⟩)] wr fun e w' => e = .returned (.bool (q x)) ∧ w' = wr) :
    Calls Tryz.prog 132 #[.slice ao n cap, .func (.func 131) #[] #[]] w fun e w' => DelEndG w cb (.slice ao n cap) (outF q xs) e w' := by
  have hn : n = xs.length := by obtain ⟨_, _, e, _⟩ := own.shape; cases e; rfl
  have hm : n ≤ cap ∧ (cap : Int) ≤ 9223372036854775807 := by obtain ⟨_, _, e, h1, h2⟩ := own.shape; cases e; unfold maxLen at h2; omega
  obtain ⟨hm1, hm2⟩ := hm
  have g0 : w.grownBy w (Value.slice ao n cap).ownBlock := ⟨rfl, rfl, rfl, Nat.le_refl _, fun _ _ _ => rfl⟩
  have HI := hid (indexG (q := q) w own (hq w g0))
  have HO := hid own
  have HQ := hid hq
  have HN := hid hn
  clear own hq hn
  go_enter Tryz.func132, Tryz.ntmps132
  go_wp2_with (go_at_call 154; with_reducible (refine (HI.out).mono ?_); rintro e w ⟨⟨r, rfl, hr⟩, rfl⟩; have hr2 := Idx.out hr.out; rcases hr2 with ⟨rfl, hall⟩ | ⟨i, x, rfl, hx, hqx, hfst⟩)
  · go_ret
    exact ⟨_, rfl, by rw [out_all hall]; exact HO.out, ⟨rfl, rfl, rfl, Nat.le_refl _, fun _ _ _ => rfl⟩, rfl⟩
  · have hil := (List.getElem?_eq_some_iff.1 hx).1
    have hin : i < n := by rw [HN.out]; exact hil
    obtain ⟨b, off, cap', e, _⟩ := HO.out.filled (by omega)
    cases e
    have HQ := hid (show ∀ wr, w.grownBy wr (some b) → ∀ x ∈ xs, Calls Tryz.prog 131 #[.pointer (some ⟨cb x, 0, none⟩)] wr fun e w' => e = .returned (.bool (q x)) ∧ w' = wr from HQ.out)
    have hin' : (i : Int) < 9223372036854775807 := by omega
    have HH := hid (Half.start hx hqx hfst)
    clear hx hqx hfst hr
    go_wp2
    go_loopw [5, 6, 7] (fun u v _ wr => ∃ (i j : Nat) (M : List Nat), u = .int .i64 i ∧ v = .int .i64 j ∧ j ≤ xs.length ∧ Hid (Half q xs M i j) ∧ Hid (PRow wr cb (.slice (some ⟨b, off, none⟩) xs.length cap) M) ∧ Hid (w.grownBy wr (some b))) (fun _ v _ _ => xs.length - (intOf v).toNat)
    case atStart => exact ⟨i, i + 1, xs, rfl, congrArg (Value.int .i64) (by go_arith), by omega, HH, HO, hid ⟨rfl, rfl, rfl, Nat.le_refl _, fun _ _ _ => rfl⟩⟩
    case round =>
      clear HH
      obtain ⟨i, j, M, rfl, rfl, hj, hh, hrow, hgr⟩ := hrel
      have hij := hh.out.ij
      by_cases hlt : j < xs.length
      · obtain ⟨x, hx⟩ : ∃ x, xs[j]? = some x := ⟨_, List.getElem?_eq_getElem hlt⟩
        have hc := hrow.out.at (hh.out.at.trans hx)
        have HM := hid (List.mem_of_getElem? hx)
        have hi' : (i : Int) < xs.length := by omega
        have hij' : i < xs.length := by omega
        have ci : ∃ y, wr.cell? ⟨b, off + i, none⟩ = some (.pointer (some ⟨cb y, 0, none⟩)) := by
          have : i < M.length := by rw [hh.out.len]; omega
          exact ⟨_, hrow.out.at (List.getElem?_eq_getElem this)⟩
        obtain ⟨y, hcy⟩ := ci
        have hfz := hrow.out.fz (i := off + i)
        cases he : q x
        · have HH := hid (hh.out.keep hx he)
          have HR2 := hid (hrow.out.set x hij')
          go_wp2_with (go_at_call 131; with_reducible (refine (HQ.out wr hgr.out x HM.out).mono ?_); rintro e wr ⟨rfl, rfl⟩; rw [he])
          go_roundw
          case rel => exact ⟨i + 1, j + 1, _, by go_num, by go_num, by omega, HH, HR2, hid (grown_two hgr.out (grown_set wr ⟨b, off + i, none⟩ _))⟩
          case measure => simp only [intOf]; omega
        · have HH := hid (hh.out.skip hx he)
          go_wp2_with (go_at_call 131; with_reducible (refine (HQ.out wr hgr.out x HM.out).mono ?_); rintro e wr ⟨rfl, rfl⟩; rw [he])
          go_roundw
          case rel => exact ⟨i, j + 1, M, rfl, by go_num, by omega, HH, hrow, hgr⟩
          case measure => simp only [intOf]; omega
      · have hD := hid (hh.out.done (by omega))
        have hile : i ≤ xs.length := by omega
        have hi1 : (i : Int) ≤ xs.length := by omega
        have hi2 : (i : Int) ≤ cap := by omega
        by_cases hci : cap = i
        · subst hci
          have hil2 : cap = xs.length := by omega
          obtain ⟨w5, h5, r5, g5⟩ := run_pcut (m := cap) wr 0 hrow.out hile ⟨b, off, none⟩ 0 (fun h => by omega)
          have h5' : xs.length - cap = 0 := by omega
          rw [h5'] at h5
          have R5 := hid r5
          have G5 := hid (grown_two hgr.out g5)
          clear hil2 r5 g5 h5'
          go_wp2
          go_ret
          exact ⟨_, rfl, by rw [← hD.out]; exact R5.out, G5.out, rfl⟩
        · obtain ⟨w5, h5, r5, g5⟩ := run_pcut (m := i) wr 0 hrow.out hile ⟨b, off + i, none⟩ (cap - i) (fun _ => rfl)
          have R5 := hid r5
          have G5 := hid (grown_two hgr.out g5)
          clear r5 g5
          go_wp2
          go_ret
          exact ⟨_, rfl, by rw [← hD.out]; exact R5.out, G5.out, rfl⟩

end Go.Proofs.YtimfjoinjfecjaaGreat

namespace Go.Proofs.YtimfjoinjfecjaaGreat
open Go.RowKit Go.Maps
set_option linter.unusedVariables false

theorem goneF_at (w : World) (b : Nat) (v : Bool) (h : w.cell? ⟨b, 5, none⟩ = some (.bool v)) : Calls Tryz.prog 131 #[.pointer (some ⟨b, 0, none⟩)] w fun e w' => e = .returned (.bool v) ∧ w' = w := by
  go_enter Tryz.func131, Tryz.ntmps131
  go_wp2
  go_ret
  exact ⟨rfl, rfl⟩

/-- Its lists up to q hold no clause that is gone. -/
def SwI (g : G) (q : Nat) (g1 : G) : Prop := ∃ f, g1 = { g with P := fun s => if s < q then outF g.gn (g.P s) else g.P s, pv := f }

theorem SwI.start (g : G) : SwI g 0 g := ⟨g.pv, by cases g; simp⟩

theorem SwI.next {g g1 : G} {q : Nat} (h : SwI g q g1) (v : Value) : SwI g (q + 1) (g1.slot q (outF g1.gn (g1.P q)) v) := by
  obtain ⟨f, rfl⟩ := h
  refine ⟨up f q v, ?_⟩
  have e : up (fun s => if s < q then outF g.gn (g.P s) else g.P s) q (outF g.gn (if q < q then outF g.gn (g.P q) else g.P q)) = fun s => if s < q + 1 then outF g.gn (g.P s) else g.P s := by
    funext s
    by_cases e : s = q
    · subst e
      rw [up_same, if_neg (Nat.lt_irrefl s), if_pos (Nat.lt_succ_self s)]
    · rw [up_ne _ _ e]
      by_cases h1 : s < q
      · rw [if_pos h1, if_pos (by omega)]
      · rw [if_neg h1, if_neg (by omega)]
  show G.mk _ _ _ _ _ _ _ _ (up (fun s => if s < q then outF g.gn (g.P s) else g.P s) q (outF g.gn (if q < q then outF g.gn (g.P q) else g.P q))) _ _ _ _ _ _ = _
  rw [e]

theorem SwI.nx {g g1 : G} {q : Nat} (h : SwI g q g1) : g1.nx = g.nx := by obtain ⟨f, rfl⟩ := h; rfl

section
variable {k : WK} {w w1 : World} {g : G}

theorem delG_is (s : St k w g) {x : Nat} (hx : x ≤ 3 * k.n) {ao : Option Addr} {n cap : Nat} (ev : g.pv x = .slice ao n cap) :
    Calls Tryz.prog 132 #[.slice ao n cap, .func (.func 131) #[] #[]] w fun e w' => ∃ ao' n' cap', e = .returned (.slice ao' n' cap') ∧ Hid (PRow w' g.cb (.slice ao' n' cap') (outF g.gn (g.P x))) ∧ Hid (w.grownBy w' (g.pv x).ownBlock) ∧ Hid ((Value.slice ao' n' cap').ownBlock = (g.pv x).ownBlock) := by
  have own := s.l.rw x hx
  rw [ev] at own
  refine (deleteG (q := g.gn) w own ?_).mono ?_
  · intro wr gr i hi
    rw [← ev] at gr
    have hlt := s.l.sub x hx i hi
    have h1 := s.l.cl i hlt
    have t1 : Typ w (g.cb i) 97 := ⟨_, _, h1⟩
    have e1 : wr.heap[g.cb i]? = w.heap[g.cb i]? := gr.block _ t1.lt (fun e => by have := t1.one ((s.l.rw x hx).typ e.symm); cases this)
    exact goneF_at wr (g.cb i) (g.gn i) ((World.cell?_of_block (a := ⟨g.cb i, 5, none⟩) e1).trans (s.l.k5 hlt))
  · rintro e w' ⟨v', rfl, h1, h2, h3⟩
    obtain ⟨a', p', e, _⟩ := h1.shape
    subst e
    rw [← ev] at h2 h3
    exact ⟨_, _, _, rfl, h1, h2, h3⟩

theorem St.setl {w5 : World} {v5 : Value} {u : Nat} {zs : List Nat} (s : St k w1 g) (hu : u < k.n) (hc : ∀ i ∈ zs, i < g.nx) (own : PRow w5 g.cb v5 zs) (gr : w1.grownBy w5 (g.pv (2 * k.n + u)).ownBlock) (nw : Nw w1 (g.pv (2 * k.n + u)) v5) :
    w5.cell? ⟨k.OB, 3, none⟩ = some (.slice (some ⟨k.FB, 0, none⟩) k.n k.n) ∧ w5.cell? ⟨k.FB, u * 2 + 1, none⟩ = some (g.pv (2 * k.n + u)) ∧ w5.frozen? ⟨k.FB, u * 2 + 1, none⟩ = false ∧ Hid (St k (w5.setCell ⟨k.FB, u * 2 + 1, none⟩ v5) (g.slot (2 * k.n + u) zs v5)) ∧ Hid (FW k.B w1 (w5.setCell ⟨k.FB, u * 2 + 1, none⟩ v5)) := by
  have hs : 2 * k.n + u ≤ 3 * k.n := by omega
  exact ⟨(s.list hs gr own nw hc).1.c3, s.pushl hu hc own gr nw⟩

def SweepEnd (k : WK) (g : G) (w w' : World) : Prop := ∃ g1, SwI g (3 * k.n + 1) g1 ∧ St k w' { g1 with rm := 0 } ∧ FW k.B w w'

set_option maxHeartbeats 4000000 in
theorem sweep_is (s : St k w g) : Calls Tryz.prog 96 #[.pointer (some ⟨k.OB, 0, none⟩)] w fun e w' => e = .returned (.tuple #[]) ∧ SweepEnd k g w w' := by
  have hn := s.l.hn
  have HS := hid s
  have c2 := s.c2
  obtain ⟨n2, hn2⟩ : ∃ n2, n2 = 2 * k.n := ⟨_, rfl⟩
  rw [← hn2] at c2
  have HN2 := hid hn2
  have hn2b : (n2 : Int) ≤ 2097152 := by omega
  clear s hn2
  go_enter Tryz.func96, Tryz.ntmps96
  go_wp2
  go_loopw [3, 4, 11] (fun _ _ i wr => ∃ (q : Nat) (g1 : G), q ≤ n2 ∧ i = .int .i64 q ∧ Hid (SwI g q g1) ∧ Hid (St k wr g1) ∧ Hid (FW k.B w wr)) (fun _ _ i _ => n2 - (intOf i).toNat)
  case atStart => exact ⟨0, g, Nat.zero_le _, rfl, hid (SwI.start g), HS, hid (FW.refl _)⟩
  case round =>
    clear c2
    obtain ⟨q, g1, hq, rfl, hsw, hs, hfw⟩ := hrel
    by_cases hltn : q < n2
    · have hlt' : (q : Int) < n2 := by omega
      have hlt : q < 2 * k.n := by rw [← HN2.out]; exact hltn
      have hq3 : q ≤ 3 * k.n := by omega
      obtain ⟨aa, pa, eva, _⟩ := (hs.out.l.rw q hq3).shape
      have d2 := hs.out.c2
      have d3 := hs.out.c.wc hlt
      rw [eva] at d3
      rw [← HN2.out] at d2
      go_wp2
      go_region_with (go_at_call 132; with_reducible (refine (delG_is hs.out.drew hq3 eva).mono ?_); rintro e w5 ⟨a5, n5, p5, rfl, own5, g5, o5⟩; have m5 := hs.out.drew.setw hlt (out_sub (hs.out.l.sub q hq3)) own5.out g5.out (nw_same o5.out); obtain ⟨q0, q1, q2, s6, F6⟩ := m5; rw [eva] at q1; rw [← HN2.out] at q0)
      all_goals go_wp2
      all_goals go_roundw
      all_goals first
        | exact ⟨q + 1, _, by omega, by go_num, hid (hsw.out.next _), s6, hid ((hfw.out.trans (FW.below (below_drew _))).trans F6.out)⟩
        | (simp only [intOf]; omega)
    · obtain rfl : q = n2 := by omega
      have d3 := hs.out.c3
      have H0 := hs
      have HF0 := hfw
      rw [HN2.out] at hsw
      clear hltn hq HS
      go_wp2
      go_loopw [5, 31] (fun _ i wx => ∃ (q : Nat) (g2 : G), q ≤ k.n ∧ i = .int .i64 q ∧ Hid (SwI g (2 * k.n + q) g2) ∧ Hid (St k wx g2) ∧ Hid (FW k.B w wx)) (fun _ i _ => k.n - (intOf i).toNat)
      case atStart => exact ⟨0, g1, Nat.zero_le _, rfl, hsw, H0, HF0⟩
      case round =>
        clear d3 H0 HF0 hs hfw hsw
        obtain ⟨q, g2, hq, rfl, hsw, hs, hfw⟩ := hrel
        by_cases hlt : q < k.n
        · have hlt' : (q : Int) < k.n := by omega
          have hq3 : 2 * k.n + q ≤ 3 * k.n := by omega
          obtain ⟨aa, pa, eva, _⟩ := (hs.out.l.rw (2 * k.n + q) hq3).shape
          have d3 := hs.out.c3
          have d4 := hs.out.c.fl hlt
          rw [eva] at d4
          go_wp2
          go_region_with (go_at_call 132; with_reducible (refine (delG_is hs.out.drew hq3 eva).mono ?_); rintro e w5 ⟨a5, n5, p5, rfl, own5, g5, o5⟩; have m5 := hs.out.drew.setl hlt (out_sub (hs.out.l.sub (2 * k.n + q) hq3)) own5.out g5.out (nw_same o5.out); obtain ⟨q0, q1, q2, s6, F6⟩ := m5; rw [eva] at q1)
          all_goals go_wp2
          all_goals go_roundw
          all_goals first
            | exact ⟨q + 1, _, by omega, by go_num, hid (hsw.out.next _), s6, hid ((hfw.out.trans (FW.below (below_drew _))).trans F6.out)⟩
            | (simp only [intOf]; omega)
        · obtain rfl : q = k.n := by omega
          have hq3 : 3 * k.n ≤ 3 * k.n := Nat.le_refl _
          obtain ⟨aa, pa, eva, _⟩ := (hs.out.l.rw (3 * k.n) hq3).shape
          have d4 := hs.out.c4
          have HEV := hid eva
          rw [eva] at d4
          clear eva
          go_wp2_with (go_at_call 132; with_reducible (refine (delG_is hs.out hq3 HEV.out).mono ?_); rintro e w5 ⟨a5, n5, p5, rfl, own5, g5, o5⟩; have m5 := hs.out.pusha (out_sub (hs.out.l.sub (3 * k.n) hq3)) own5.out g5.out (nw_same o5.out); obtain ⟨q1, q2, s6, F6⟩ := m5; rw [HEV.out] at q1; have f7 := s6.out.of 7; have c7 := s6.out.c7)
          go_end0
          refine ⟨rfl, _, ?_, s6.out.putr 0, ?_⟩
          · have h1 := hsw.out.next (Value.slice a5 n5 p5)
            rw [show 2 * k.n + k.n = 3 * k.n by omega] at h1
            exact h1
          · exact (hfw.out.trans F6.out).trans (FW.grown (grown_set _ ⟨k.OB, 7, none⟩ _) (fun j T e t => by cases e; rw [t.one ⟨_, _, s6.out.c.ob⟩]; simp [Wt]) (fun j e => by cases e; exact s6.out.c.lo.1))
end

end Go.Proofs.YtimfjoinjfecjaaGreat
