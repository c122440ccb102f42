/-
  What Run has assigned is what follows by clauses of one literal.
-/
import Derived.Test.YtbfaigeopkonbaaWLawA
namespace Go.Proofs.Ytbfaigeopkonbaa
open Go.RowKit Go.Maps
set_option linter.unusedVariables false

section
variable {g : G} {L L' : List E} {lev : Nat} {xss : List (List Int)} {ths : List Bool}

theorem lits_pos {L : List E} {q : Nat} {x : Int} (h : (litsF L)[q]? = some x) : 0 ≤ x := by
  obtain ⟨e, _, rfl⟩ := lits_at.1 h; omega

theorem der_step (mt : Match g xss ths) (ex : Ext L L' lev) (rs : Rs g L') (n : Nat) (ih : ∀ q', q' < n → ∀ x, (litsF L')[q']? = some x → U.Der (allQ xss ths xss.length) (litsF L) x) (q : Nat) (hq : q ≤ n) (x : Int) (hx : (litsF L')[q]? = some x) : U.Der (allQ xss ths xss.length) (litsF L) x := by
  obtain ⟨M, rfl, hM⟩ := ex
  by_cases hl : q < L.length
  · have : (litsF L)[q]? = some x := by
      rw [litsF_app, List.getElem?_append_left (by rw [litsF_len]; exact hl)] at hx
      exact hx
    exact U.Der.base (List.mem_of_getElem? this) (lits_pos this)
  · obtain ⟨e, he, rfl⟩ := lits_at.1 hx
    have hm : e ∈ M := by
      rw [List.getElem?_append_right (by omega)] at he
      exact List.mem_of_getElem? he
    obtain ⟨c, h1, h2, h3, h4, h5⟩ := rs q e he (hM e hm).2
    refine U.Der.unit (mt.all.2 ⟨c, h2, h3, rfl⟩) h4 (by omega) (fun y hy y0 hne => ?_)
    obtain ⟨r, r1, r2⟩ := h5 y hy hne
    exact ih r (by omega) _ r2

theorem der_all (mt : Match g xss ths) (ex : Ext L L' lev) (rs : Rs g L') : ∀ (n q : Nat), q ≤ n → ∀ x, (litsF L')[q]? = some x → U.Der (allQ xss ths xss.length) (litsF L) x := by
  intro n
  induction n with
  | zero => exact fun q hq x hx => der_step mt ex rs 0 (fun q' h => absurd h (Nat.not_lt_zero _)) q (by omega) x hx
  | succ n ih => exact fun q hq x hx => der_step mt ex rs (n + 1) (fun q' h => ih q' (by omega)) q hq x hx

theorem der_mem (mt : Match g xss ths) (ex : Ext L L' lev) (rs : Rs g L') {x : Int} (hx : x ∈ litsF L') : U.Der (allQ xss ths xss.length) (litsF L) x := by
  obtain ⟨q, hq⟩ := List.mem_iff_getElem?.1 hx
  exact der_all mt ex rs q q (Nat.le_refl _) x hq

theorem run_true (mt : Match g xss ths) (ex : Ext L L' lev) (rs : Rs g L') (hnd : ND L') (hc : Closed g L') (hr : ∀ i, i < g.nx → g.gn i = false → ∀ x ∈ g.lt i, 0 ≤ x) : U.Res (allQ xss ths xss.length) (litsF L) (U.rise (litsF L')) true := by
  have hsub : ∀ x ∈ litsF L, x ∈ litsF L' := fun x hx => by
    obtain ⟨q, hq⟩ := List.mem_iff_getElem?.1 hx
    exact List.mem_of_getElem? (ex.at hq)
  refine U.res_true (U.up_rise _) (fun x hx _ => (U.mem_rise _ _).2 (hsub x hx)) (fun x hx => der_mem mt ex rs ((U.mem_rise _ _).1 hx)) (fun x hx hn => ?_) (fun c hcm => ?_)
  · obtain ⟨q, hq⟩ := List.mem_iff_getElem?.1 ((U.mem_rise _ _).1 hx)
    obtain ⟨r, hr⟩ := List.mem_iff_getElem?.1 ((U.mem_rise _ _).1 hn)
    exact both_no hnd (lits_pos hq) hq hr
  · obtain ⟨i, hi, hg, rfl⟩ := mt.all.1 hcm
    have no : ∀ x ∈ g.lt i, valueF L' x = 0 → ¬ U.notF x ∈ U.rise (litsF L') := fun x hx hv hm => by
      obtain ⟨q, hq⟩ := List.mem_iff_getElem?.1 ((U.mem_rise _ _).1 hm)
      have := val_not hnd (hr i hi hg x hx) hq
      omega
    rcases hc i hi hg with ⟨x, hx, hv⟩ | ⟨x, hx, y, hy, hne, hv1, hv2⟩
    · obtain ⟨_, q, hq⟩ := val_one hv
      exact .inl ⟨x, hx, (U.mem_rise _ _).2 (List.mem_of_getElem? hq)⟩
    · exact .inr ⟨x, hx, y, hy, hne, hr i hi hg x hx, hr i hi hg y hy, no x hx hv1, no y hy hv2⟩

theorem run_false (mt : Match g xss ths) (ex : Ext L L' lev) (rs : Rs g L') {c : Nat} (hc : c < g.nx) (hg : g.gn c = false) (hv : ∀ y ∈ g.lt c, valueF L' y = -1) : U.Res (allQ xss ths xss.length) (litsF L) [] false := by
  refine U.res_false (.inr ⟨g.lt c, mt.all.2 ⟨c, hc, hg, rfl⟩, fun y hy y0 => ?_⟩)
  obtain ⟨_, _, q, hq⟩ := val_neg (L := L') (x := y) (by rw [hv y hy]; omega)
  exact der_all mt ex rs q q (Nat.le_refl _) _ hq

theorem rise_rise (l : List Int) : U.rise (U.rise l) = U.rise l := U.rise_congr (fun z => U.mem_rise l z)

theorem Match.sm {g' : G} (m : Match g xss ths) (s : Sm0 g g') : Match g' xss ths := ⟨by rw [s.nx]; exact m.nx, by rw [s.nx]; exact m.tl, by rw [s.nx, s.gn]; exact m.th, by rw [s.nx, s.gn, s.lt]; exact m.lt⟩
end

/-- What Run tells, in one form. -/
def RunV (g g' : G) (L' : List E) (i : Int) (ok : Bool) : Prop := (ok = true ∧ i = -1 ∧ Closed g' L') ∨ ∃ c : Nat, ok = false ∧ i = c ∧ c < g.nx ∧ g.gn c = false ∧ ∀ y ∈ g.lt c, valueF L' y = -1

theorem run_one {k : K} {kw : WK} {w : World} {g : G} {L : List E} {lev : Nat} {p : V} {H : List Int} (W : Wa k kw w g L lev p H) (hnx : g.nx ≤ 1000000) (hsu : tot kw.n g + kw.n * g.nx ≤ 3000000) :
    Calls Try.prog 18 #[.pointer (some ⟨kw.OB, 0, none⟩), .pointer (some ⟨k.OB, 0, none⟩)] w fun e w' => ∃ i ok g' L' p', e = .returned (.tuple #[.int .i64 i, .bool ok]) ∧ Hid (RunV g g' L' i ok) ∧ Hid (Wa k kw w' g' L' lev p' (litsF L')) ∧ Hid (Sm0 g g' ∧ tot kw.n g' ≤ tot kw.n g + (kw.n * g.nx + 1)) ∧ Hid (Ext L L' lev) ∧ Hid (FT k kw.B p p' w w') := by
  refine (run_is W hnx hsu).mono fun e w' h => ?_
  obtain ⟨g', L', p', h1, h2, h3, h4, h5, h6⟩ := h
  rcases h6 with ⟨rfl, h7⟩ | ⟨c, rfl, h7, h8, h9⟩
  · exact ⟨_, _, g', L', p', rfl, .inl ⟨rfl, rfl, h7⟩, h1, ⟨h2, h4⟩, h3, h5⟩
  · exact ⟨_, _, g', L', p', rfl, .inr ⟨c, rfl, rfl, h7, h8, h9⟩, h1, ⟨h2, h4⟩, h3, h5⟩

/-- What the document's Run tells then. -/
theorem run_doc {g g' : G} {L L' : List E} {lev : Nat} {xss : List (List Int)} {ths : List Bool} {i : Int} {ok ok' : Bool} {xs : List Int} (h : RunV g g' L' i ok) (mt : Match g xss ths) (s : Sm0 g g') (ex : Ext L L' lev) (rs : Rs g' L') (hnd : ND L') (hr : ∀ i, i < g'.nx → g'.gn i = false → ∀ x ∈ g'.lt i, 0 ≤ x) (hd : U.Res (allQ xss ths xss.length) (litsF L) xs ok') : ok' = ok ∧ (ok = true → xs = U.rise (litsF L')) := by
  have mt' := mt.sm s
  rcases h with ⟨rfl, _, h⟩ | ⟨c, rfl, _, h1, h2, h3⟩
  · obtain ⟨e1, e2⟩ := U.res_same hd (run_true mt' ex rs hnd h hr)
    exact ⟨e2, fun _ => e1⟩
  · obtain ⟨e1, e2⟩ := U.res_same hd (run_false mt' ex rs (by rw [s.nx]; exact h1) (by rw [s.gn]; exact h2) (by rw [s.lt]; exact h3))
    exact ⟨e2, fun e => by cases e⟩

end Go.Proofs.Ytbfaigeopkonbaa
