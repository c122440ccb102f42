/-
  Clauses, all together (stage 4): what the statements of stage 14 ask of the document.
  Solve.
-/
import Derived.Test.YtimfjoinjfecjaaGreatP16
import Derived.Deep.Grids
import Derived.BigQuiet
import Derived.Laws.BitsLemmas
import Derived.ProofKit
import Derived.Test.YtimfjoinjfecjaaGreatP38

namespace Go.Proofs.YtimfjoinjfecjaaGreat.U
open Go.RowKit
set_option linter.unusedVariables false

theorem Tryz.info4 : (Tryz.prog.info? 4).map (fun i => (i.zero, i.size, i.bytes)) = some (some (.bool false), 1, 1) := by kernel_rfl

/-- A cell of the list, by its block and place. -/
theorem IsBools.at {w : World} {a : Option Addr} {len cap : Nat} {B : Nat → Bool} (h : IsBools w a len cap B) {k : Nat} (hk : k < len) : ∃ b off, a = some ⟨b, off, none⟩ ∧ w.cell? ⟨b, off + k, none⟩ = some (.bool (B k)) := by
  rcases h with ⟨_, h, _⟩ | ⟨⟨b, off, spot⟩, rfl, hl, hm, hc⟩
  · omega
  · have hz := hc 0 (by omega)
    have hk := hc k hk
    have hspot : spot = none := by simpa [Addr.add] using World.cell?_spot hz
    subst hspot
    refine ⟨b, off, rfl, ?_⟩
    by_cases h0 : k = 0
    · subst h0; simpa [Addr.add] using hk
    · simpa [Addr.add, h0] using hk


def badV (vars x : Int) : Bool := decide (varF x < 0) || decide (vars ≤ varF x)
def badC (vars : Int) (xs : List Int) : Bool := xs.any (badV vars)
def badG (vars : Int) (xss : List (List Int)) : Bool := xss.any (badC vars)
def chkF (vars : Int) (xss : List (List Int)) : Int := if vars < 0 ∨ 1048576 < vars then 10 else if 1048576 < xss.length then 8 else if badG vars xss = true then 10 else 0
def mayF (vars : Int) (xss : List (List Int)) : Int := if chkF vars xss = 0 then (if 16 < vars then 8 else 0) else chkF vars xss

def cntF (p : Nat → Bool) (n : Nat) : Nat := (List.range n).countP p
/-! ### Any, place by place -/






/-! ### Count and first -/
/-! ### Truths by bits -/
/-! ### The sides of a clause -/
theorem good_lit {vars : Int} {xs : List Int} (h : badC vars xs = false) {x : Int} (hx : x ∈ xs) : 0 ≤ x ∧ varF x = x / 2 ∧ 0 ≤ varF x ∧ varF x < vars := by
  have := List.any_eq_false.1 h x hx
  simp only [badV, Bool.or_eq_true, decide_eq_true_eq, not_or] at this
  have h0 : ¬ x < 0 := by
    intro hn
    have : varF x = -1 := by simp [varF, hn]
    omega
  have e : varF x = x / 2 := by simp [varF, h0]
  omega

/-! ### All parts of the free variables -/
/-! ### One clause more, that a literal holds -/
theorem chk_low {vars : Int} (xss : List (List Int)) (h : vars < 0 ∨ 1048576 < vars) : chkF vars xss = 10 := by simp only [chkF]; rw [if_pos h]

theorem chk_many {vars : Int} {xss : List (List Int)} (h : ¬ vars < 0) (h2 : ¬ 1048576 < vars) (h3 : 1048576 < xss.length) : chkF vars xss = 8 := by simp only [chkF]; rw [if_neg (by omega), if_pos h3]

theorem chk_bad {vars : Int} {xss : List (List Int)} (h : ¬ vars < 0) (h2 : ¬ 1048576 < vars) (h3 : ¬ 1048576 < xss.length) (h4 : badG vars xss = true) : chkF vars xss = 10 := by simp only [chkF]; rw [if_neg (by omega), if_neg h3, if_pos h4]

theorem chk_good {vars : Int} {xss : List (List Int)} (h : ¬ vars < 0) (h2 : ¬ 1048576 < vars) (h3 : ¬ 1048576 < xss.length) (h4 : badG vars xss = false) : chkF vars xss = 0 := by simp only [chkF]; rw [if_neg (by omega), if_neg h3, h4]; rfl

theorem bad_one {vars y : Int} {ys : List Int} {xss : List (List Int)} {k j : Nat} (hk : xss[k]? = some ys) (hj : ys[j]? = some y) (h : badV vars y = true) : badG vars xss = true :=
  gany_hit hk (gany_hit hj h)

set_option maxHeartbeats 4000000 in
theorem check_any (vars : Int) (ao : Option Addr) (n cap : Nat) (xss : List (List Int)) (w : World) (h : Grid w ao n cap xss) :
    Calls Tryz.prog 16 #[.int .i64 vars, .slice ao n cap] w fun e w' => e = .returned (.int .i64 (chkF vars xss)) ∧ Below w.heap.size w w' := by
  have HR : Hid (Grid w ao n cap xss) := h
  have HN : Hid (xss.length = n) := h.1
  have hm := h.max
  clear h
  by_cases h0 : vars < 0
  · have HV : Hid (chkF vars xss = 10) := chk_low xss (.inl h0)
    go_enter Tryz.func16, Tryz.ntmps16
    go_wp2
    go_step3
    go_wp2
    rw [Exit.noGoto_ret]
    go_ret
    exact ⟨by rw [HV.out]; rfl, Below.refl _ _⟩
  by_cases h1 : 1048576 < vars
  · have HV : Hid (chkF vars xss = 10) := chk_low xss (.inr h1)
    go_enter Tryz.func16, Tryz.ntmps16
    go_wp2
    go_step3
    go_wp2
    rw [Exit.noGoto_ret]
    go_ret
    exact ⟨by rw [HV.out]; rfl, Below.refl _ _⟩
  by_cases h2 : 1048576 < n
  · have HV : Hid (chkF vars xss = 8) := chk_many h0 h1 (by rw [HN.out]; exact h2)
    have h2' : (1048576 : Int) < n := by omega
    go_enter Tryz.func16, Tryz.ntmps16
    go_wp2
    go_step3
    go_wp2
    rw [Exit.noGoto_ret]
    go_ret
    exact ⟨by rw [HV.out]; rfl, Below.refl _ _⟩
  have H3 : Hid (¬ 1048576 < xss.length) := by show ¬ _; rw [HN.out]; exact h2
  have h2' : ¬ (1048576 : Int) < n := by omega
  go_enter Tryz.func16, Tryz.ntmps16
  go_wp2
  go_step3
  go_wp2
  go_step3
  go_wp2
  go_loopw [5, 22] (fun e i wr => ∃ k : Nat, k ≤ n ∧ e = .int .i64 0 ∧ i = .int .i64 k ∧ Hid ((xss.take k).any (badC vars) = false) ∧ Below w.heap.size w wr) (fun _ i _ => n - (intOf i).toNat)
  case atStart => exact ⟨0, Nat.zero_le _, rfl, rfl, rfl, Below.refl _ _⟩
  case round =>
    obtain ⟨k, hk, rfl, rfl, hno, hb⟩ := hrel
    by_cases hlt : k < n
    · obtain ⟨b, off, a1, m1, c1, ys, rfl, hc, hy, hr⟩ := HR.out.at hlt
      have hc1 := (hb.cell (cell_lt hc)).trans hc
      have hm2 := hr.out.max
      clear hc
      go_wp2
      go_loopw [5, 28] (fun e i wr => ∃ j : Nat, j ≤ m1 ∧ e = .int .i64 0 ∧ i = .int .i64 j ∧ Hid ((ys.take j).any (badV vars) = false) ∧ Below w.heap.size w wr) (fun _ i _ => m1 - (intOf i).toNat)
      case atStart => exact ⟨0, Nat.zero_le _, rfl, rfl, rfl, hb⟩
      case round =>
        clear hc1
        obtain ⟨j, hj, rfl, rfl, hnj, hbj⟩ := hrel
        by_cases hjt : j < m1
        · obtain ⟨b2, off2, y, rfl, hc2, hz, _, hu⟩ := (hr.out.keep hbj).at hjt
          by_cases v0 : varF y < 0
          · have HV : Hid (chkF vars xss = 10) := chk_bad (by omega) (by omega) H3.out (bad_one hy.out hz.out (by simp [badV, v0]))
            go_wp2_with (go_at_call 24; with_reducible (refine (var_any _ _ hu).mono ?_); rintro e w1 ⟨rfl, hb1⟩)
            rw [Exit.noGoto_ret]
            go_ret
            exact ⟨by rw [HV.out]; rfl, Below.next hbj hb1⟩
          by_cases v1 : vars ≤ varF y
          · have HV : Hid (chkF vars xss = 10) := chk_bad (by omega) (by omega) H3.out (bad_one hy.out hz.out (by simp [badV, v1]))
            go_wp2_with (go_at_call 24; with_reducible (refine (var_any _ _ hu).mono ?_); rintro e w1 ⟨rfl, hb1⟩)
            rw [Exit.noGoto_ret]
            go_ret
            exact ⟨by rw [HV.out]; rfl, Below.next hbj hb1⟩
          have HV : Hid ((ys.take (j + 1)).any (badV vars) = false) := gany_step hnj.out hz.out (by simp [badV, v0, v1])
          go_wp2_with (go_at_call 24; with_reducible (refine (var_any _ _ hu).mono ?_); rintro e w1 ⟨rfl, hb1⟩)
          go_roundw
          case rel => exact ⟨j + 1, by omega, rfl, by go_num, HV, Below.next hbj hb1⟩
          case measure => simp [intOf]; omega
        · have HV : Hid ((xss.take (k + 1)).any (badC vars) = false) := gany_step hno.out hy.out (gany_end hnj.out (by rw [hr.out.1]; omega))
          go_wp2
          go_roundw
          case rel => exact ⟨k + 1, by omega, rfl, by go_num, HV, hbj⟩
          case measure => simp [intOf]; omega
    · have HV : Hid (chkF vars xss = 0) := chk_good (by omega) (by omega) H3.out (gany_end hno.out (by rw [HN.out]; omega))
      go_wp2
      rw [Exit.noGoto_ret]
      go_ret
      exact ⟨by rw [HV.out]; rfl, hb⟩

theorem bad_lit (vars y : Int) : badV vars y = (decide (y < 0) || decide (vars ≤ y / 2)) ∨ vars < 0 := by
  by_cases h : vars < 0
  · exact .inr h
  · left
    by_cases hy : y < 0
    · have : varF y = -1 := by simp [varF, hy]
      simp [badV, this, hy]
    · have e : varF y = y / 2 := by simp [varF, hy]
      have : ¬ y / 2 < 0 := by omega
      simp only [badV, hy, e, this, decide_false, Bool.false_or]

set_option maxHeartbeats 4000000 in
theorem rcheck_any (vars : Int) (ao : Option Addr) (n cap : Nat) (xss : List (List Int)) (w : World) (h : Grid w ao n cap xss) :
    Calls Tryz.prog 10 #[.int .i64 vars, .slice ao n cap] w fun e w' => e = .returned (.int .i64 (chkF vars xss)) ∧ w' = w := by
  have HR : Hid (Grid w ao n cap xss) := h
  have HN : Hid (xss.length = n) := h.1
  have hm := h.max
  clear h
  by_cases h0 : vars < 0
  · have HV : Hid (chkF vars xss = 10) := chk_low xss (.inl h0)
    go_enter Tryz.func10, Tryz.ntmps10
    go_wp2
    go_ret
    exact ⟨by rw [HV.out]; rfl, rfl⟩
  by_cases h1 : 1048576 < vars
  · have HV : Hid (chkF vars xss = 10) := chk_low xss (.inr h1)
    go_enter Tryz.func10, Tryz.ntmps10
    go_wp2
    go_ret
    exact ⟨by rw [HV.out]; rfl, rfl⟩
  by_cases h2 : 1048576 < n
  · have HV : Hid (chkF vars xss = 8) := chk_many h0 h1 (by rw [HN.out]; exact h2)
    have h2' : (1048576 : Int) < n := by omega
    go_enter Tryz.func10, Tryz.ntmps10
    go_wp2
    go_ret
    exact ⟨by rw [HV.out]; rfl, rfl⟩
  have H3 : Hid (¬ 1048576 < xss.length) := by show ¬ _; rw [HN.out]; exact h2
  have h2' : ¬ (1048576 : Int) < n := by omega
  have HL : Hid (∀ y, badV vars y = (decide (y < 0) || decide (vars ≤ y / 2))) := fun y => (bad_lit vars y).resolve_right h0
  go_enter Tryz.func10, Tryz.ntmps10
  go_wp2
  go_loop [5] (fun i => ∃ k : Nat, k ≤ n ∧ i = .int .i64 k ∧ Hid ((xss.take k).any (badC vars) = false)) (fun i => n - (intOf i).toNat)
  case atStart => exact ⟨0, Nat.zero_le _, rfl, rfl⟩
  case round =>
    obtain ⟨k, hk, rfl, hno⟩ := hrel
    by_cases hlt : k < n
    · obtain ⟨b, off, a1, m1, c1, ys, rfl, hc, hy, hr⟩ := HR.out.at hlt
      have hm2 := hr.out.max
      go_wp2
      go_loop [6] (fun i => ∃ j : Nat, j ≤ m1 ∧ i = .int .i64 j ∧ Hid ((ys.take j).any (badV vars) = false)) (fun i => m1 - (intOf i).toNat)
      case atStart => exact ⟨0, Nat.zero_le _, rfl, rfl⟩
      case round =>
        obtain ⟨j, hj, rfl, hnj⟩ := hrel
        by_cases hjt : j < m1
        · obtain ⟨b2, off2, y, rfl, hc2, hz, _, hu⟩ := hr.out.at hjt
          by_cases v0 : y < 0
          · have HV : Hid (chkF vars xss = 10) := chk_bad (by omega) (by omega) H3.out (bad_one hy.out hz.out (by rw [HL.out]; simp [v0]))
            go_wp2
            go_ret
            exact ⟨by rw [HV.out]; rfl, rfl⟩
          by_cases v1 : vars ≤ y / 2
          · have HV : Hid (chkF vars xss = 10) := chk_bad (by omega) (by omega) H3.out (bad_one hy.out hz.out (by rw [HL.out]; simp [v1]))
            go_wp2
            go_ret
            exact ⟨by rw [HV.out]; rfl, rfl⟩
          have HV : Hid ((ys.take (j + 1)).any (badV vars) = false) := gany_step hnj.out hz.out (by rw [HL.out]; simp [v0, v1])
          go_wp2
          go_round
          case rel => exact ⟨j + 1, by omega, by go_num, HV⟩
          case measure => simp [intOf]; omega
        · have HV : Hid ((xss.take (k + 1)).any (badC vars) = false) := gany_step hno.out hy.out (gany_end hnj.out (by rw [hr.out.1]; omega))
          go_wp2
          go_round
          case rel => exact ⟨k + 1, by omega, by go_num, HV⟩
          case measure => simp [intOf]; omega
    · have HV : Hid (chkF vars xss = 0) := chk_good (by omega) (by omega) H3.out (gany_end hno.out (by rw [HN.out]; omega))
      go_wp2
      go_ret
      exact ⟨by rw [HV.out]; rfl, rfl⟩

set_option maxHeartbeats 1000000 in
theorem bools_same (ao bo : Option Addr) (n cap cbp : Nat) (B : Nat → Bool) (w : World) (h : IsBools w ao n cap B) (g : IsBools w bo n cbp B) (hn : n ≤ 65536) :
    Calls Tryz.prog 14 #[.slice ao n cap, .slice bo n cbp] w fun e w' => e = .returned (.bool true) ∧ Below w.heap.size w w' := by
  have HR : Hid (IsBools w ao n cap B) := h
  have GR : Hid (IsBools w bo n cbp B) := g
  clear h g
  go_enter Tryz.func14, Tryz.ntmps14
  go_wp2
  go_loopw [5] (fun i wr => ∃ k : Nat, k ≤ n ∧ i = .int .i64 k ∧ Below w.heap.size w wr) (fun i _ => n - (intOf i).toNat)
  case atStart => exact ⟨0, Nat.zero_le _, rfl, Below.refl _ _⟩
  case round =>
    obtain ⟨k, hk, rfl, hb⟩ := hrel
    by_cases hlt : k < n
    · obtain ⟨b, off, rfl, hc⟩ := (HR.out.keep hb).at hlt
      obtain ⟨c, ogg, rfl, gc⟩ := (GR.out.keep hb).at hlt
      go_wp2
      go_region
      all_goals go_wp2
      all_goals go_roundw
      all_goals first | exact ⟨k + 1, by omega, by go_num, by first | exact hb | exact hb.drew | exact hb.drew.drew⟩ | (simp [intOf]; omega)
    · go_wp2
      go_ret
      exact ⟨rfl, hb⟩

def OwnB (w : World) (B : Nat) (v : Value) (bs : List Bool) : Prop := w.ownsRow B 4 1 v bs.length (bs.map Value.bool)

theorem OwnB.bools {w : World} {B : Nat} {v : Value} {bs : List Bool} (h : OwnB w B v bs) : ∃ ao c, v = .slice ao bs.length c ∧ IsBools w ao bs.length c (fun i => bs.getD i false) := by
  rcases h.2 with ⟨rfl, hn⟩ | ⟨g, cap, cur, rfl, hb, hg, hl, hm, rest⟩
  · rw [hn]; exact ⟨none, 0, rfl, .inl ⟨rfl, rfl, rfl⟩⟩
  · refine ⟨_, _, rfl, .inr ⟨_, rfl, hl, hm, fun i hi => ?_⟩⟩
    have h2 : w.ownsRow B 4 1 (.slice (some ⟨g, 0, none⟩) bs.length cap) bs.length (bs.map Value.bool) := h
    have hc : w.cell? ⟨g, i, none⟩ = some (.bool (bs.getD i false)) := by
      rw [h2.cellAt i (by omega)]; simp [hi]
    rw [← hc]
    congr 1
    by_cases h0 : i = 0
    · subst h0; rfl
    · simp [Addr.add, h0]

end Go.Proofs.YtimfjoinjfecjaaGreat.U

namespace Go.Proofs.YtimfjoinjfecjaaGreat
open Go.RowKit Go.Maps
set_option linter.unusedVariables false

/-- What Solve tells of clauses that may be. -/
def SolEnd (al : Bool) (n : Nat) (l : List (List Int)) (bud : Nat) (w : World) (r : Value) (w' : World) : Prop :=
  (∃ (tb cf : Nat) (tr : List Bool), r = .agg #[.int .i64 1, .slice (some ⟨tb, 0, none⟩) n n, .int .i64 cf, .slice none 0 0] ∧ Hid (Below w.heap.size w w') ∧ Hid (w'.heap[tb]? = some (.cells (tr.map Value.bool).toArray 4 (0, 0))) ∧ Hid (tr.length = n ∧ cf ≤ bud ∧ ∀ c ∈ l, ∃ x ∈ c, tr[vl x]? = some (!decide (x % 2 = 1)) ∧ 0 ≤ x)) ∨
  (∃ (a : Option Addr) (k cp cf : Nat) (P : List (List Int)), r = .agg #[.int .i64 2, .slice none 0 0, .int .i64 cf, .slice a k cp] ∧ Hid (Below w.heap.size w w') ∧ Hid (U.Grid w' a k cp (P ++ [[]])) ∧ Hid (cf = P.length ∧ cf ≤ bud ∧ Fin al n l P ∧ U.Stp (l ++ P) [])) ∨
  (∃ P : List (List Int), r = .agg #[.int .i64 0, .slice none 0 0, .int .i64 bud, .slice none 0 0] ∧ Hid (Below w.heap.size w w') ∧ Hid (P.length = bud ∧ Fin al n l P))

theorem SEnd.out {al : Bool} {n : Nat} {l : List (List Int)} {bud : Nat} {w0 w' : World} {e : Ending} (h : SEnd al n l bud w0 e w') :
    (∃ (tb cf : Nat) (tr : List Bool), e = .returned (.agg #[.int .i64 1, .slice (some ⟨tb, 0, none⟩) n n, .int .i64 cf, .slice none 0 0]) ∧ Hid (Below w0.heap.size w0 w') ∧ Hid (w'.heap[tb]? = some (.cells (tr.map Value.bool).toArray 4 (0, 0))) ∧ Hid (tr.length = n ∧ cf ≤ bud ∧ ∀ c ∈ l, ∃ x ∈ c, tr[vl x]? = some (!decide (x % 2 = 1)) ∧ 0 ≤ x)) ∨
    (∃ (pa : Option Addr) (k pp cf : Nat) (P : List (List Int)) (F : Nat → Prop) (s : SS), e = .returned (.agg #[.int .i64 2, .slice none 0 0, .int .i64 cf, .slice pa k pp]) ∧ Hid (UnsEnd F w0 s (.slice pa k pp) w' ∧ s.prf = P) ∧ Hid (cf = P.length ∧ cf ≤ bud ∧ Fin al n l P ∧ U.Stp (l ++ P) [])) ∨
    (∃ P : List (List Int), e = .returned (.agg #[.int .i64 0, .slice none 0 0, .int .i64 bud, .slice none 0 0]) ∧ Hid (Below w0.heap.size w0 w') ∧ Hid (P.length = bud ∧ Fin al n l P)) := by
  rcases h with h | ⟨v, F, s, h1, h2, h3⟩ | h
  · exact .inl h
  · obtain ⟨pa, pp, hv, _⟩ := h2.out.gr _ (fun _ _ => rfl)
    subst hv
    exact .inr (.inl ⟨pa, _, pp, s.cf, s.prf, F, s, h1, hid ⟨h2.out, rfl⟩, h3⟩)
  · exact .inr (.inr h)

theorem SEnd.below {al : Bool} {n : Nat} {l : List (List Int)} {bud : Nat} {w0 w' : World} {e : Ending} (h : SEnd al n l bud w0 e w') : Below w0.heap.size w0 w' := by
  rcases h with ⟨_, _, _, _, h, _⟩ | ⟨_, _, _, _, h, _⟩ | ⟨_, _, h, _⟩
  · exact h.out
  · exact h.out.b0
  · exact h.out

theorem old_blk {w1 w3 : World} {r : Nat} {o : Obj} (b : Below w1.heap.size w1 w3) (h : w1.heap[r]? = some o) : w3.heap[r]? = some o := (b.block _ (blk_lt h)).trans h

/-- A new round where no clause is given up. -/
theorem anew_plain {al : Bool} {l : List (List Int)} {bud : Nat} {c : SC} {w0 : World} (hc : c.all = true ∨ bud < 1000) (hb : bud ≤ 1000000) : Anew al l bud c w0 := by
  intro g s m w h iv he hcf
  have h1 := iv.ns
  have h2 := iv.cf
  have h3 := iv.lm
  have h4 := iv.rd
  obtain ⟨la, lw, _⟩ := h.o.lens
  have hn := h.hn
  obtain ⟨a1, a2, a3, a4⟩ := iv.anew h.W.j.t h.W.j.n (by omega) he
  refine (anew_nil h (hc.elim Or.inl (fun _ => Or.inr (by omega))) (by omega) (by omega)).mono fun e w' q => ?_
  exact ⟨q.1, g, _, q.2, hid ⟨a1, a4, a3, Nat.le_refl _⟩⟩

theorem beg_hd {al : Bool} {l : List (List Int)} {bud K0 n : Nat} {c : SC} {g : G} (hg : Gb n l g) (hn : c.kw.n = n) (hx : ∀ c ∈ l, ∀ y ∈ c, 0 ≤ y ∧ y < 2 * (n : Int)) (hK : l.length + (bud * (3 * n + 9) + (n + 1)) * (n * (l.length + bud) + 2) ≤ K0) : Hd al l bud K0 c g (nextF (begF n l)) := by
  subst hn
  obtain ⟨iv, e1, e2, e3, e4, e5, e6, e7⟩ := Iv.begin al hg hx
  refine ⟨iv, by omega, ?_⟩
  rw [hg.su]
  have : muF c.kw.n bud (nextF (begF c.kw.n l)) = bud * (3 * c.kw.n + 9) + (c.kw.n + 1) := by
    unfold muF muN
    rw [if_neg (by omega), e1, e7]
    simp
  rw [this]
  exact hK

structure BegC (n : Nat) (all : Bool) (l : List (List Int)) (w : World) (SB : Nat) (c : SC) (g : G) (m : MV) (w' : World) : Prop where
  sb : c.SB = SB
  fst : c.fst = l.length
  all : c.all = all
  sm : Sm c w g (nextF (begF n l)) m w'
  gb : Gb n l g
  kn : c.kw.n = n

theorem BegEnd.out {w w' : World} {n : Nat} {all : Bool} {l : List (List Int)} {SB : Nat} (h : BegEnd w n all l SB w') : ∃ c g m, Hid (BegC n all l w SB c g m w') := by
  obtain ⟨c, g, m, h1, h2, h3, h4, h5, h6⟩ := h
  exact ⟨c, g, m, hid ⟨h1, h2, h3, h5.out, h6.out, h4⟩⟩

/-- search, of a new solver. -/
theorem beg_search {al : Bool} {n : Nat} {all : Bool} {l : List (List Int)} {bud SB : Nat} {c : SC} {g : G} {m : MV} {w0 w : World} (h : BegC n all l w0 SB c g m w) (hx : ∀ c ∈ l, ∀ y ∈ c, 0 ≤ y ∧ y < 2 * (n : Int)) (hn : n ≤ 900) (hN : l.length + bud ≤ 20000) (hK : l.length + (bud * (3 * n + 9) + (n + 1)) * (n * (l.length + bud) + 2) ≤ 250000000000) (HA : ∀ c w0, c.all = all → c.kw.n = n → c.fst = l.length → Anew al l bud c w0) :
    Calls Tryz.prog 18 #[.pointer (some ⟨SB, 0, none⟩), .int .i64 (bud : Nat)] w fun e w' => SEnd al n l bud w0 e w' := by
  have hs := search_is h.sm (beg_hd h.gb h.kn hx (Nat.le_refl _)) h.fst (by have := h.kn; omega) hN hK (HA c w0 h.all h.kn h.fst)
  rw [h.sb, h.kn] at hs
  exact hs

section
variable {al : Bool} {n : Nat} {l : List (List Int)} {bud : Nat} {w : World}

set_option maxRecDepth 20000 in
set_option maxHeartbeats 4000000 in
theorem solve_good (ao : Option Addr) (len cap : Nat) (hl : U.Grid w ao len cap l) (hchk : U.chkF n l = 0) (hx : ∀ c ∈ l, c.length ≤ 1000 ∧ ∀ y ∈ c, 0 ≤ y ∧ y < 2 * (n : Int)) (hlen : len ≤ 1000) (hn : n ≤ 900) (hN : l.length + bud ≤ 20000) (hK : l.length + (bud * (3 * n + 9) + (n + 1)) * (n * (l.length + bud) + 2) ≤ 250000000000) (HA : ∀ c w0, c.all = decide ((n : Int) ≤ 8) → c.kw.n = n → c.fst = l.length → Anew al l bud c w0) :
    Calls Tryz.prog 9 #[.int .i64 n, .slice ao len cap, .int .i64 bud] w fun e w' => ∃ r, e = .returned (.tuple #[r, .int .i64 0]) ∧ SolEnd al n l bud w r w' := by
  have hal : Below w.heap.size w (w.alloc (.cells #[.int .i64 0, .slice none 0 0, .int .i64 0, .slice none 0 0] 27)) := by go_grown
  have HL := hid (hl.keep hal)
  have HR : Hid ((w.alloc (.cells #[.int .i64 0, .slice none 0 0, .int .i64 0, .slice none 0 0] 27)).heap[w.heap.size]? = some (.cells #[.int .i64 0, .slice none 0 0, .int .i64 0, .slice none 0 0] 27 (0, 0))) := hid (new_same w _)
  have HX := hid hx
  have HX2 : Hid (∀ c ∈ l, ∀ y ∈ c, 0 ≤ y ∧ y < 2 * (n : Int)) := hid (fun c hc => (hx c hc).2)
  have HHA := hid HA
  have HC := hid hchk
  have hn2 : n ≤ 1048576 := by omega
  have HBA := hid hal
  have hb0 : ¬ (bud : Int) < 0 := by omega
  have hbm : (bud : Int) ≤ 9223372036854775807 := by omega
  clear hl hx HA hchk hal
  go_enter Tryz.func9, Tryz.ntmps9
  go_wp2_with (first
    | (go_at_call 16; with_reducible (refine (U.check_any _ _ _ _ l _ HL.out).mono ?_); rw [HC.out]; rintro e w1 ⟨rfl, b1⟩; have HL1 := hid (HL.out.keep b1); have hr1 := hid (old_blk b1 HR.out); have B1 := hid (Below.next HBA.out b1))
    | (go_at_call 17; with_reducible (refine (begin_is n hn2 ao len cap l _ HL1.out hlen HX.out).mono ?_); rintro e w2 ⟨SB, rfl, be⟩; have be2 := BegEnd.out be; obtain ⟨cc, gg, mm, BE⟩ := be2)
    | (go_at_call 18; with_reducible (refine (beg_search BE.out HX2.out hn hN hK HHA.out).mono ?_); intro e w3 hS; have b3 := SEnd.below hS; have hr3 := old_blk b3 hr1.out; have z0 := cell_of (o := 0) hr3; have z1 := cell_of (o := 1) hr3; have z2 := cell_of (o := 2) hr3; have z3 := cell_of (o := 3) hr3; have y0 := frozen_of (o := 0) hr3; have y1 := frozen_of (o := 1) hr3; have y2 := frozen_of (o := 2) hr3; have y3 := frozen_of (o := 3) hr3; have HR3 := hid hr3; have B3 := hid (Below.next B1.out b3); have hS2 := SEnd.out hS; clear hr3 b3 hS; rcases hS2 with ⟨tb, cf, tr, rfl, b3, M3, F3⟩ | ⟨pa, kk, pp, cf, P, F, ss, rfl, UE, F3⟩ | ⟨P, rfl, b3, F3⟩))
  · have H8 := hid (res_blk (a' := .int .i64 1) (b' := .slice (some ⟨tb, 0, none⟩) n n) (cc' := .int .i64 cf) (d' := .slice none 0 0) HR3.out)
    have HE := hid (res_bel (a' := .int .i64 1) (b' := .slice (some ⟨tb, 0, none⟩) n n) (cc' := .int .i64 cf) (d' := .slice none 0 0) B3.out (Nat.le_refl _))
    have hne : tb ≠ w.heap.size := fun q => by
      have t1 : Typ w3 tb 4 := ⟨_, _, M3.out⟩
      rw [q] at t1
      exact absurd (t1.one ⟨_, _, HR3.out⟩) (by decide)
    have HM := hid ((res_oth (a' := .int .i64 1) (b' := .slice (some ⟨tb, 0, none⟩) n n) (cc' := .int .i64 cf) (d' := .slice none 0 0) hne).trans M3.out)
    generalize hW9 : ((((w3.setCell ⟨w.heap.size, 0, none⟩ (.int .i64 1)).setCell ⟨w.heap.size, 1, none⟩ (.slice (some ⟨tb, 0, none⟩) n n)).setCell ⟨w.heap.size, 2, none⟩ (.int .i64 cf)).setCell ⟨w.heap.size, 3, none⟩ (.slice none 0 0)) = w9 at *
    have r0 : w9.cell? ⟨w.heap.size, 0, none⟩ = some (.int .i64 1) := cell_of H8.out
    have r1 : w9.cell? ⟨w.heap.size, 1, none⟩ = some (.slice (some ⟨tb, 0, none⟩) n n) := cell_of H8.out
    have r2 : w9.cell? ⟨w.heap.size, 2, none⟩ = some (.int .i64 cf) := cell_of H8.out
    have r3 : w9.cell? ⟨w.heap.size, 3, none⟩ = some (.slice none 0 0) := cell_of H8.out
    refine bodyPost_ret (by simp [results, Tryz.results9, go_sem, r0, r1, r2, r3]; try rfl) rfl ?_
    exact ⟨_, rfl, .inl ⟨tb, cf, tr, rfl, HE, HM, F3⟩⟩
  · have H8 := hid (res_blk (a' := .int .i64 2) (b' := .slice none 0 0) (cc' := .int .i64 cf) (d' := .slice pa kk pp) HR3.out)
    have HE := hid (res_bel (a' := .int .i64 2) (b' := .slice none 0 0) (cc' := .int .i64 cf) (d' := .slice pa kk pp) B3.out (Nat.le_refl _))
    have HG := hid (UE.out.1.gr _ (fun i hi => res_oth (a' := .int .i64 2) (b' := .slice none 0 0) (cc' := .int .i64 cf) (d' := .slice pa kk pp) (r := w.heap.size) (fun q => by have := UE.out.1.fn i hi; have := blk_lt hr1.out; omega)))
    generalize hW9 : ((((w3.setCell ⟨w.heap.size, 0, none⟩ (.int .i64 2)).setCell ⟨w.heap.size, 1, none⟩ (.slice none 0 0)).setCell ⟨w.heap.size, 2, none⟩ (.int .i64 cf)).setCell ⟨w.heap.size, 3, none⟩ (.slice pa kk pp)) = w9 at *
    have r0 : w9.cell? ⟨w.heap.size, 0, none⟩ = some (.int .i64 2) := cell_of H8.out
    have r1 : w9.cell? ⟨w.heap.size, 1, none⟩ = some (.slice none 0 0) := cell_of H8.out
    have r2 : w9.cell? ⟨w.heap.size, 2, none⟩ = some (.int .i64 cf) := cell_of H8.out
    have r3 : w9.cell? ⟨w.heap.size, 3, none⟩ = some (.slice pa kk pp) := cell_of H8.out
    refine bodyPost_ret (by simp [results, Tryz.results9, go_sem, r0, r1, r2, r3]; try rfl) rfl ?_
    refine ⟨_, rfl, .inr (.inl ⟨pa, kk, pp, cf, P, rfl, HE, ?_, F3⟩)⟩
    obtain ⟨a, cp, e, gr⟩ := HG.out
    have hp := UE.out.2
    subst hp
    cases e
    exact hid gr
  · have H8 := hid (res_blk (a' := .int .i64 0) (b' := .slice none 0 0) (cc' := .int .i64 bud) (d' := .slice none 0 0) HR3.out)
    have HE := hid (res_bel (a' := .int .i64 0) (b' := .slice none 0 0) (cc' := .int .i64 bud) (d' := .slice none 0 0) B3.out (Nat.le_refl _))
    generalize hW9 : ((((w3.setCell ⟨w.heap.size, 0, none⟩ (.int .i64 0)).setCell ⟨w.heap.size, 1, none⟩ (.slice none 0 0)).setCell ⟨w.heap.size, 2, none⟩ (.int .i64 bud)).setCell ⟨w.heap.size, 3, none⟩ (.slice none 0 0)) = w9 at *
    have r0 : w9.cell? ⟨w.heap.size, 0, none⟩ = some (.int .i64 0) := cell_of H8.out
    have r1 : w9.cell? ⟨w.heap.size, 1, none⟩ = some (.slice none 0 0) := cell_of H8.out
    have r2 : w9.cell? ⟨w.heap.size, 2, none⟩ = some (.int .i64 bud) := cell_of H8.out
    have r3 : w9.cell? ⟨w.heap.size, 3, none⟩ = some (.slice none 0 0) := cell_of H8.out
    refine bodyPost_ret (by simp [results, Tryz.results9, go_sem, r0, r1, r2, r3]; try rfl) rfl ?_
    exact ⟨_, rfl, .inr (.inr ⟨P, rfl, HE, F3⟩)⟩

set_option maxRecDepth 20000 in
set_option maxHeartbeats 4000000 in
/-- Clauses that may not be. -/
theorem solve_bad (vars bd : Int) (ao : Option Addr) (len cap : Nat) (hl : U.Grid w ao len cap l) (hchk : ¬ U.chkF vars l = 0) :
    Calls Tryz.prog 9 #[.int .i64 vars, .slice ao len cap, .int .i64 bd] w fun e w' => e = .returned (.tuple #[.agg #[.int .i64 0, .slice none 0 0, .int .i64 0, .slice none 0 0], .int .i64 (U.chkF vars l)]) ∧ Hid (Below w.heap.size w w') := by
  have hal : Below w.heap.size w (w.alloc (.cells #[.int .i64 0, .slice none 0 0, .int .i64 0, .slice none 0 0] 27)) := by go_grown
  have HL := hid (hl.keep hal)
  have HR : Hid ((w.alloc (.cells #[.int .i64 0, .slice none 0 0, .int .i64 0, .slice none 0 0] 27)).heap[w.heap.size]? = some (.cells #[.int .i64 0, .slice none 0 0, .int .i64 0, .slice none 0 0] 27 (0, 0))) := hid (new_same w _)
  have HBA := hid hal
  obtain ⟨ck, hck⟩ : ∃ ck, U.chkF vars l = ck := ⟨_, rfl⟩
  rw [hck] at hchk
  have HC := hid hck
  have hne : (ck == 0) = false := by rw [beq_eq_false_iff_ne]; exact hchk
  rw [hck]
  clear hl hal hck
  go_enter Tryz.func9, Tryz.ntmps9
  go_wp2_with (first
    | (go_at_call 16; with_reducible (refine (U.check_any _ _ _ _ l _ HL.out).mono ?_); rw [HC.out]; rintro e w1 ⟨rfl, b1⟩; have hr3 := old_blk b1 HR.out; have z0 := cell_of (o := 0) hr3; have z1 := cell_of (o := 1) hr3; have z2 := cell_of (o := 2) hr3; have z3 := cell_of (o := 3) hr3; have y0 := frozen_of (o := 0) hr3; have y1 := frozen_of (o := 1) hr3; have y2 := frozen_of (o := 2) hr3; have y3 := frozen_of (o := 3) hr3; have HR3 := hid hr3; have B1 := hid (Below.next HBA.out b1); clear hr3 b1))
  have H8 := hid (res_blk (a' := .int .i64 0) (b' := .slice none 0 0) (cc' := .int .i64 0) (d' := .slice none 0 0) HR3.out)
  have HE := hid (res_bel (a' := .int .i64 0) (b' := .slice none 0 0) (cc' := .int .i64 0) (d' := .slice none 0 0) B1.out (Nat.le_refl _))
  generalize hW9 : ((((w1.setCell ⟨w.heap.size, 0, none⟩ (.int .i64 0)).setCell ⟨w.heap.size, 1, none⟩ (.slice none 0 0)).setCell ⟨w.heap.size, 2, none⟩ (.int .i64 0)).setCell ⟨w.heap.size, 3, none⟩ (.slice none 0 0)) = w9 at *
  have r0 : w9.cell? ⟨w.heap.size, 0, none⟩ = some (.int .i64 0) := cell_of H8.out
  have r1 : w9.cell? ⟨w.heap.size, 1, none⟩ = some (.slice none 0 0) := cell_of H8.out
  have r2 : w9.cell? ⟨w.heap.size, 2, none⟩ = some (.int .i64 0) := cell_of H8.out
  have r3 : w9.cell? ⟨w.heap.size, 3, none⟩ = some (.slice none 0 0) := cell_of H8.out
  refine bodyPost_ret (by simp [results, Tryz.results9, go_sem, r0, r1, r2, r3]; try rfl) rfl ?_
  exact ⟨rfl, HE⟩

set_option maxRecDepth 20000 in
set_option maxHeartbeats 4000000 in
/-- A budget that is none. -/
theorem solve_neg (vars bd : Int) (ao : Option Addr) (len cap : Nat) (hl : U.Grid w ao len cap l) (hchk : U.chkF vars l = 0) (hbd : bd < 0) :
    Calls Tryz.prog 9 #[.int .i64 vars, .slice ao len cap, .int .i64 bd] w fun e w' => e = .returned (.tuple #[.agg #[.int .i64 0, .slice none 0 0, .int .i64 0, .slice none 0 0], .int .i64 1]) ∧ Hid (Below w.heap.size w w') := by
  have hal : Below w.heap.size w (w.alloc (.cells #[.int .i64 0, .slice none 0 0, .int .i64 0, .slice none 0 0] 27)) := by go_grown
  have HL := hid (hl.keep hal)
  have HR : Hid ((w.alloc (.cells #[.int .i64 0, .slice none 0 0, .int .i64 0, .slice none 0 0] 27)).heap[w.heap.size]? = some (.cells #[.int .i64 0, .slice none 0 0, .int .i64 0, .slice none 0 0] 27 (0, 0))) := hid (new_same w _)
  have HBA := hid hal
  have HC := hid hchk
  clear hl hal hchk
  go_enter Tryz.func9, Tryz.ntmps9
  go_wp2_with (first
    | (go_at_call 16; with_reducible (refine (U.check_any _ _ _ _ l _ HL.out).mono ?_); rw [HC.out]; rintro e w1 ⟨rfl, b1⟩; have hr3 := old_blk b1 HR.out; have z0 := cell_of (o := 0) hr3; have z1 := cell_of (o := 1) hr3; have z2 := cell_of (o := 2) hr3; have z3 := cell_of (o := 3) hr3; have y0 := frozen_of (o := 0) hr3; have y1 := frozen_of (o := 1) hr3; have y2 := frozen_of (o := 2) hr3; have y3 := frozen_of (o := 3) hr3; have HR3 := hid hr3; have B1 := hid (Below.next HBA.out b1); clear hr3 b1))
  have H8 := hid (res_blk (a' := .int .i64 0) (b' := .slice none 0 0) (cc' := .int .i64 0) (d' := .slice none 0 0) HR3.out)
  have HE := hid (res_bel (a' := .int .i64 0) (b' := .slice none 0 0) (cc' := .int .i64 0) (d' := .slice none 0 0) B1.out (Nat.le_refl _))
  generalize hW9 : ((((w1.setCell ⟨w.heap.size, 0, none⟩ (.int .i64 0)).setCell ⟨w.heap.size, 1, none⟩ (.slice none 0 0)).setCell ⟨w.heap.size, 2, none⟩ (.int .i64 0)).setCell ⟨w.heap.size, 3, none⟩ (.slice none 0 0)) = w9 at *
  have r0 : w9.cell? ⟨w.heap.size, 0, none⟩ = some (.int .i64 0) := cell_of H8.out
  have r1 : w9.cell? ⟨w.heap.size, 1, none⟩ = some (.slice none 0 0) := cell_of H8.out
  have r2 : w9.cell? ⟨w.heap.size, 2, none⟩ = some (.int .i64 0) := cell_of H8.out
  have r3 : w9.cell? ⟨w.heap.size, 3, none⟩ = some (.slice none 0 0) := cell_of H8.out
  refine bodyPost_ret (by simp [results, Tryz.results9, go_sem, r0, r1, r2, r3]; try rfl) rfl ?_
  exact ⟨rfl, HE⟩
end
end Go.Proofs.YtimfjoinjfecjaaGreat
