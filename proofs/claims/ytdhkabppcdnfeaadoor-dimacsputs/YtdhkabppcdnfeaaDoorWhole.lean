/-
  The whole text, read.
-/
import Derived.Test.YtdhkabppcdnfeaaDoorLines
namespace Go.Proofs.YtdhkabppcdnfeaaDoor
open Go.RowKit
open Go.Lib (decDigits itoa hasPrefix trimPrefix)
set_option linter.unusedVariables false

/-- The values are lists that lie in memory. -/
def GV (w : World) (vs : List Value) (xss : List (List Int)) : Prop := vs.length = xss.length ∧ ∀ j, j < vs.length → ∃ a m c, vs[j]? = some (.slice a m c) ∧ Row w a m c (xss.getD j [])

theorem own_grid {w : World} {B : Nat} {v : Value} {vs : List Value} {xss : List (List Int)} (own : w.ownsRow B 37 1 v vs.length vs) (g : GV w vs xss) : ∃ ao c, v = .slice ao vs.length c ∧ Grid w ao vs.length c xss := by
  rcases own.2 with ⟨rfl, hn⟩ | ⟨gb, cap, cur, rfl, hb, hg, hl, hm, rest⟩
  · rw [hn]
    refine ⟨none, 0, rfl, ⟨by have := g.1; omega, Nat.le_refl _, by unfold maxLen; omega, fun _ => rfl, fun h => by omega⟩⟩
  · refine ⟨_, _, rfl, g.1.symm, hl, hm, fun h => by simp at h, fun _ => ⟨gb, 0, rfl, fun j hj => ?_⟩⟩
    obtain ⟨a, m, c, h1, h2⟩ := g.2 j hj
    have h3 : w.ownsRow B 37 1 (.slice (some ⟨gb, 0, none⟩) vs.length cap) vs.length vs := own
    refine ⟨a, m, c, ?_, h2⟩
    rw [Nat.zero_add, h3.cellAt j (by omega)]
    exact h1

/-- The values are lists that the call has made. -/
def GVO (w : World) (B : Nat) (vs : List Value) (xss : List (List Int)) : Prop := vs.length = xss.length ∧ ∀ j, j < vs.length → ∃ x, vs[j]? = some x ∧ w.ownsRow B 3 1 x (xss.getD j []).length (intsV (xss.getD j []))

theorem GVO.past {w w' : World} {B S : Nat} {vs : List Value} {xss : List (List Int)} (h : GVO w B vs xss) (g : w.grownBy w' (some S)) (hS : S < B) : GVO w' B vs xss := by
  refine ⟨h.1, fun j hj => ?_⟩
  obtain ⟨x, h1, h2⟩ := h.2 j hj
  exact ⟨x, h1, own_past h2 g hS⟩

theorem GVO.app {w w' : World} {B n : Nat} {lv : Value} {us vs : List Value} {xss : List (List Int)} (h : GVO w B vs xss) (own : w.ownsRow B 37 1 lv n us) (g : w.grownBy w' lv.ownBlock) : GVO w' B vs xss := by
  refine ⟨h.1, fun j hj => ?_⟩
  obtain ⟨x, h1, h2⟩ := h.2 j hj
  refine ⟨x, h1, h2.kept g ?_⟩
  rcases h2.2 with ⟨rfl, _⟩ | ⟨g1, cap1, cur1, rfl, _, e1, _⟩
  · exact .inl rfl
  · right
    intro e
    rcases own.2 with ⟨rfl, _⟩ | ⟨g2, cap2, cur2, rfl, _, e2, _⟩
    · simp [Value.ownBlock] at e
    · simp [Value.ownBlock] at e
      subst e
      rw [e1] at e2
      simp at e2

theorem GVO.snoc {w : World} {B : Nat} {vs : List Value} {xss : List (List Int)} {cv : Value} {c : List Int} (h : GVO w B vs xss) (hc : w.ownsRow B 3 1 cv c.length (intsV c)) : GVO w B (vs ++ [cv]) (xss ++ [c]) := by
  refine ⟨by simp [h.1], fun j hj => ?_⟩
  by_cases hjl : j < vs.length
  · obtain ⟨x, h1, h2⟩ := h.2 j hjl
    have e : (xss ++ [c]).getD j [] = xss.getD j [] := by
      simp only [List.getD_eq_getElem?_getD]; rw [List.getElem?_append_left (by rw [← h.1]; exact hjl)]
    exact ⟨x, by rw [List.getElem?_append_left hjl]; exact h1, by rw [e]; exact h2⟩
  · have ej : j = vs.length := by simp at hj; omega
    subst ej
    have e : (xss ++ [c]).getD vs.length [] = c := by rw [h.1]; simp
    exact ⟨cv, by simp, by rw [e]; exact hc⟩

theorem GVO.gv {w : World} {B : Nat} {vs : List Value} {xss : List (List Int)} (h : GVO w B vs xss) (hf : ∀ c ∈ xss, Fit c) : GV w vs xss := by
  refine ⟨h.1, fun j hj => ?_⟩
  obtain ⟨x, h1, h2⟩ := h.2 j hj
  have hm : xss.getD j [] ∈ xss := by
    have hl : j < xss.length := by rw [← h.1]; exact hj
    simp [hl]
  obtain ⟨ao, cap, rfl, hr⟩ := row_own h2 (hf _ hm)
  exact ⟨ao, _, cap, h1, hr⟩

theorem fit_ok {v : Nat} {c : List Int} (h : okC v c) (hv : v ≤ 1048576) : Fit c := fun x hx => by
  obtain ⟨h0, h1⟩ := h x hx; omega

theorem below_own {w w' : World} {B : Nat} {v : Option Nat} (g : w.grownBy w' v) (hv : ∀ j, v = some j → B ≤ j) (hB : B ≤ w.heap.size) : Below B w w' :=
  ⟨g.os, g.tape, g.output, g.size, fun k hk => g.block k (by omega) (fun e => by have := hv k e.symm; omega)⟩

theorem one_of_own {w : World} {B : Nat} {E : TypeId} {v : Value} {n : Nat} {xs : List Value} (h : w.ownsRow B E 1 v n xs) : v.oneCell' = true := by
  rcases h.2 with ⟨rfl, _⟩ | ⟨g, cap, cur, rfl, _⟩ <;> rfl

def ReadEnd (s : List UInt8) (w : World) (e : Ending) (w' : World) : Prop :=
  (∃ v l, readP s = some (v, l) ∧ ∃ ao cap, e = .returned (.tuple #[.int .i64 (v : Nat), .slice ao l.length cap, .nilIface]) ∧ Grid w' ao l.length cap l ∧ Below w.heap.size w w') ∨
  (readP s = none ∧ ∃ m, e = .returned (.tuple #[.int .i64 0, .slice none 0 0, .iface 50 (.agg #[.string m])]) ∧ Below w.heap.size w w')

theorem rows_step {v k : Nat} {r rest : List UInt8} {ls : List (List Int)} (h : rowsP v k r = some (ls, rest)) {c : List Int} {r' : List UInt8} (hc : clauseP v rest = some (c, r')) : rowsP v (k + 1) r = some (ls ++ [c], r') := by
  simp only [rowsP]; rw [h]; simp only []; rw [hc]
theorem rows_fail {v k : Nat} {r rest : List UInt8} {ls : List (List Int)} (h : rowsP v k r = some (ls, rest)) (hc : clauseP v rest = none) : rowsP v (k + 1) r = none := by
  simp only [rowsP]; rw [h]; simp only []; rw [hc]
theorem read_none {s r : List UInt8} {v n : Nat} (h : headP s = some (v, n, r)) (h1 : rowsP v n r = none) : readP s = none := by unfold readP; rw [h]; simp only []; rw [h1]
theorem read_more {s r rest : List UInt8} {v n : Nat} {l : List (List Int)} (h : headP s = some (v, n, r)) (h1 : rowsP v n r = some (l, rest)) (h2 : rest ≠ []) : readP s = none := by unfold readP; rw [h]; simp only []; rw [h1]; simp [h2]
theorem read_some {s r : List UInt8} {v n : Nat} {l : List (List Int)} (h : headP s = some (v, n, r)) (h1 : rowsP v n r = some (l, [])) : readP s = some (v, l) := by unfold readP; rw [h]; simp only []; rw [h1]; simp

set_option maxHeartbeats 4000000 in
theorem read_all (s : List UInt8) (w : World) (hb : s.length ≤ 1000000) :
    Calls Tryd.prog 19 #[.string ⟨s.toArray⟩] w fun e w' => ReadEnd s w e w' := by
  have HS : Hid (Src (w.alloc (.cells #[.string ⟨s.toArray⟩] 60)) w.heap.size s) := heap_alloc_new w _
  have HB0 : Hid (Below w.heap.size w (w.alloc (.cells #[.string ⟨s.toArray⟩] 60))) := (Below.refl _ _).alloc (Nat.le_refl _) _
  rcases hh : headP s with _ | ⟨v, n, r⟩
  · have HH := hid hh
    have HE : Hid (readP s = none) := by show _ = _; unfold readP; rw [hh]
    clear hh
    go_enter Tryd.func19, Tryd.ntmps19
    go_wp2_with (go_at_call 29; with_reducible (refine (head_bad w.heap.size s _ HS.out hb HH.out).mono ?_); rintro e w1 ⟨m, rfl, hg1⟩)
    go_ret3
    exact .inr ⟨HE.out, _, rfl, HB0.out.trans (below_own hg1.out (fun j hj => by cases hj; exact Nat.le_refl _) (by simp))⟩
  have HH := hid hh
  obtain ⟨hv, hn, hst⟩ := headP_some hh
  have hrl : r.length ≤ 1000000 := by rw [hst] at hb; simp at hb; omega
  clear hh hst
  go_enter Tryd.func19, Tryd.ntmps19
  go_wp2_with (go_at_call 29; with_reducible (refine (head_ok w.heap.size v n s r _ HS.out hb HH.out).mono ?_); rintro e w1 ⟨rfl, hs1, hg1⟩)
  have HB1 : Hid (Below w.heap.size w w1) := HB0.out.trans (below_own hg1.out (fun j hj => by cases hj; exact Nat.le_refl _) (by simp))
  go_loopw [9, 25] (fun lv i wr => ∃ (k : Nat) (ls : List (List Int)) (rest : List UInt8) (vs : List Value), k ≤ n ∧ i = .int .i64 k ∧ vs.length = k ∧ rest.length ≤ 1000000 ∧ Hid (wr.ownsRow (w.heap.size + 1) 37 1 lv vs.length vs) ∧ Hid (GVO wr (w.heap.size + 1) vs ls) ∧ Hid (Src wr w.heap.size rest) ∧ Hid (Below w.heap.size w wr) ∧ Hid (rowsP v k r = some (ls, rest))) (fun _ i _ => n - (intOf i).toNat)
  case atStart => exact ⟨0, [], r, [], Nat.zero_le _, rfl, rfl, hrl, World.ownsRow_nil _ _ _ _, ⟨rfl, fun j hj => by simp at hj⟩, hs1, HB1, rfl⟩
  case round =>
    clear hs1 HB1 hg1
    obtain ⟨k, ls, rest, vs, hk, rfl, hvl, hrest, hown, hgv, hs, hbel, hrow⟩ := hrel
    by_cases hlt : k < n
    · rcases hc : clauseP v rest with _ | ⟨c, r'⟩
      · have HC := hid hc
        have HE : Hid (readP s = none) := read_none HH.out (rowsP_none (rows_fail hrow.out hc) (by omega))
        clear hc
        go_wp2_with (go_at_call 30; with_reducible (refine (clause_bad w.heap.size v rest _ hs.out hv hrest HC.out).mono ?_); rintro e w2 ⟨m, rfl, hg2⟩)
        go_ret3
        exact .inr ⟨HE.out, _, rfl, hbel.out.trans (below_own hg2.out (fun j hj => by cases hj; exact Nat.le_refl _) hbel.out.size)⟩
      · have HC := hid hc
        have HR := hid (rows_step hrow.out hc)
        have hr2 : r'.length ≤ 1000000 := by
          have e := (clP_some hc).2
          rw [e] at hrest; simp at hrest; omega
        clear hc
        go_wp2_with (first
          | (go_at_call 30; with_reducible (refine (clause_ok w.heap.size v rest r' c _ hs.out hv hrest HC.out).mono ?_); rintro e w2 ⟨ao, cap, rfl, hc2, hs2, hg2⟩)
          | (at_builtin; (refine append_fresh (w1 := w2) rfl _ _ 22 37 rfl Tryd.underlying22 (.slice none 0 0) 24 rfl Tryd.info37 (by omega) (.slice ao c.length cap) rfl (one_of_own hc2.out) (w.heap.size + 1) vs.length _ vs rfl (own_past hown.out hg2.out (by omega)) rfl (by omega) (by have := hs2.out.lt; omega) ?_; intro v4 w4 hown4 hg4)))
        have hg4' : w2.grownBy w4 u9.ownBlock := hg4.out
        have hlow : ∀ j, u9.ownBlock = some j → w.heap.size + 1 ≤ j := fun j hj => (hown.out.lt j hj).1
        have HS4 : Hid (Src w4 w.heap.size r') := hs2.out.past hg4' (fun j hj => by have := hlow j hj; omega)
        have hsz2 := hs2.out.lt
        have HB4 : Hid (Below w.heap.size w w4) := (hbel.out.trans (below_own hg2.out (fun j hj => by cases hj; exact Nat.le_refl _) hbel.out.size)).trans (below_own hg4' (fun j hj => by have := hlow j hj; omega) (by omega))
        have HG4 : Hid (GVO w4 (w.heap.size + 1) (vs ++ [Value.slice ao c.length cap]) (ls ++ [c])) := ((hgv.out.past hg2.out (by omega)).snoc (own_low hc2.out hs.out.lt)).app (own_past hown.out hg2.out (by omega)) hg4'
        have HO4 : Hid (w4.ownsRow (w.heap.size + 1) 37 1 v4 (vs ++ [Value.slice ao c.length cap]).length (vs ++ [Value.slice ao c.length cap])) := by show World.ownsRow _ _ _ _ _ _ _; have := hown4.out; simpa using this
        go_roundw
        case rel => exact ⟨k + 1, ls ++ [c], r', vs ++ [.slice ao c.length cap], by omega, by go_num, by simp [hvl], hr2, HO4, HG4, HS4, HB4, HR⟩
        case measure => simp [intOf]; omega
    · obtain rfl : k = n := by omega
      have hcell := hs.out.cell
      by_cases hz : rest = []
      · subst hz
        have HE := hid (read_some HH.out hrow.out)
        go_wp2
        go_ret3
        have hgood := (readP_some HE.out).1
        obtain ⟨ao, cap, e1, gr⟩ := own_grid hown.out (hgv.out.gv (fun c hc => fit_ok (hgood.2.2 c hc) hgood.1))
        have e2 : vs.length = ls.length := hgv.out.1
        refine .inl ⟨v, ls, HE.out, ao, cap, ?_, by rw [← e2]; exact gr, hbel.out⟩
        rw [← e2, ← e1]; rfl
      · have HE := hid (read_more HH.out hrow.out hz)
        have hz' : (rest == []) = false := by simpa using hz
        go_wp2
        go_ret3
        exact .inr ⟨HE.out, _, rfl, hbel.out⟩

end Go.Proofs.YtdhkabppcdnfeaaDoor
