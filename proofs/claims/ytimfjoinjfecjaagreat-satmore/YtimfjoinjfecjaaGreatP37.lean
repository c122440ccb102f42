/-
  What a solver keeps: a new round, a decision, the beginning, an answer.
  unsat.
-/
import Derived.Test.YtimfjoinjfecjaaGreatP36
import Derived.Test.YtimfjoinjfecjaaGreatP31

namespace Go.Proofs.YtimfjoinjfecjaaGreat
open Go.RowKit Go.Maps
set_option linter.unusedVariables false

theorem luby_pos (i : Nat) (h : 1 ≤ i) : 1 ≤ Ly.luby i := by
  induction i using Nat.strongRecOn with
  | _ i ih =>
    cases e : Ly.isW i with
    | true => rw [Ly.luby_whole e]; omega
    | false =>
      obtain ⟨h1, h2, _⟩ := Ly.back_lt e
      rw [Ly.luby_step e]
      exact ih _ h1 h2

section
variable {al : Bool} {k : K} {w : World} {p : V} {n : Nat} {l : List (List Int)} {s s' : SS} {g g' : G}

/-! ### A new round -/
theorem Iv.anew (iv : Iv al n l s g) (t : Trl k w s.L s.lev p) (hk : k.n = n) (hW : s.W.length = n) (hcf : s.en ≤ s.cf) : Iv al n l (anF n s) g ∧ (anF n s).lev = 0 ∧ (anF n s).cf < (anF n s).en ∧ (anF n s).cf = s.cf := by
  have hl := luby_pos (s.rd + 1) (by omega)
  have hrd := iv.rd
  have f1 : (anF n s).L = backL s.L s.lev (0 : Nat) := rfl
  have f2 : (anF n s).lev = backV s.lev 0 := rfl
  have f3 : (anF n s).W = pushvF n s.W (backG s.L s.lev (0 : Nat)) := rfl
  have f4 : (anF n s).en = s.cf + 64 * Ly.luby (s.rd + 1) := rfl
  have f5 : (anF n s).rd = s.rd + 1 := rfl
  have f6 : (anF n s).cf = s.cf := rfl
  have hlev : (anF n s).lev = 0 := by
    rw [f2]
    unfold backV backOk
    split
    · rfl
    · rename_i h; simp at h; exact h
  refine ⟨⟨iv.nx, iv.lt, iv.cn, iv.cl, iv.og, iv.nn, iv.cf, iv.fs, iv.ns, iv.wg, by rw [f4, f5]; omega, by rw [f1]; exact iv.dc.back _ _, fun e he => iv.r1 e (back_mem (by rw [← f1]; exact he)), wts_back iv.wt t hk hW f1 f3, fun v hv => by rw [hlev] at hv; omega, iv.ok, iv.ds, iv.ng, iv.lm, iv.nu, iv.nd⟩, hlev, by rw [f4, f6]; omega, rfl⟩

/-! ### A decision -/
structure DecR (n : Nat) (l : List (List Int)) (s s' : SS) : Prop where
  cls : s'.cls = s.cls
  prf : s'.prf = s.prf
  fs : s'.fs = s.fs
  ns : s'.ns = s.ns
  lim : s'.lim = s.lim
  tr : s'.tr = s.tr
  wg : s'.wg = s.wg
  cf : s'.cf = s.cf
  rd : s'.rd = s.rd
  en : s'.en = s.en
  A : s'.A = s.A
  wl : s'.W.length = n
  wt : Wts l s → Wts l s'

theorem DecR.trans {s'' : SS} (h : DecR n l s s') (q : DecR n l s' s'') : DecR n l s s'' :=
  ⟨q.cls.trans h.cls, q.prf.trans h.prf, q.fs.trans h.fs, q.ns.trans h.ns, q.lim.trans h.lim, q.tr.trans h.tr, q.wg.trans h.wg, q.cf.trans h.cf, q.rd.trans h.rd, q.en.trans h.en, q.A.trans h.A, q.wl, fun x => q.wt (h.wt x)⟩

theorem litT_half (tr : List Bool) (v : Nat) : litT tr v / 2 = v := by unfold litT; split <;> omega

theorem may_at {L : List E} {x : Nat} (h : mayF n L (x : Nat) = false) (hx : x / 2 < n) : (atF L ((x / 2 : Nat) : Int)).isSome = true := by
  unfold mayF at h
  have e1 : decide ((0 : Int) ≤ (x : Nat) ∧ (x : Int) / 2 < n) = true := by simp; omega
  rw [e1, Bool.true_and] at h
  have e2 : ((x : Int) / 2) = ((x / 2 : Nat) : Int) := by omega
  rw [e2] at h
  cases ha : atF L ((x / 2 : Nat) : Int) with
  | none => rw [ha] at h; cases h
  | some e => rfl

theorem pop_wt {A : List Int} {W : List Bool} {v : Nat} (hA : Od.popA A W = true) (hv : Od.popV A W = v) (hl : v < W.length) (u : Nat) : Od.wt (Od.popW A W) u = if u = v then false else Od.wt W u := by
  unfold Od.popW
  rw [if_pos hA, hv, Int.toNat_natCast, Od.wt_set hl]

theorem at_last {L : List E} {x : Nat} {gg : Nat} {r : Int} : (atF (L ++ [⟨x, gg, r⟩]) ((x / 2 : Nat) : Int)).isSome = true := by
  cases h : atF (L ++ [⟨x, gg, r⟩]) ((x / 2 : Nat) : Int) with
  | none => exact absurd rfl (at_none.1 h ⟨x, gg, r⟩ (by simp))
  | some e => rfl

theorem dec_is (l : List (List Int)) : ∀ (f : Nat) (s : SS) (b : Bool) (s' : SS), s.A.length = n → s.W.length = n → s.W.count true < f → decF n f s = (b, s') →
    DecR n l s s' ∧ ((b = true ∧ ∃ x : Nat, mayF n s.L (x : Nat) = true ∧ s'.L = s.L ++ [⟨x, s.lev + 1, -1⟩] ∧ s'.lev = s.lev + 1) ∨ (b = false ∧ s'.L = s.L ∧ s'.lev = s.lev ∧ ∀ u : Nat, u < n → Od.wt s'.W u = false)) := by
  intro f
  induction f with
  | zero => intro s b s' _ _ h; omega
  | succ f ih =>
    intro s b s' hA hW hc h
    cases hp : Od.popA s.A s.W with
    | false =>
      rw [decF_none hp] at h
      cases h
      have hw : Od.popW s.A s.W = s.W := by unfold Od.popW; rw [hp]; rfl
      refine ⟨⟨rfl, rfl, rfl, rfl, rfl, rfl, rfl, rfl, rfl, rfl, rfl, by show (Od.popW s.A s.W).length = n; rw [hw]; exact hW, fun q => ?_⟩, .inr ⟨rfl, rfl, rfl, fun u hu => ?_⟩⟩
      · intro c hc x hx
        have := q c hc x hx
        show Od.wt (Od.popW s.A s.W) _ = true ∨ _
        rw [hw]; exact this
      · show Od.wt (Od.popW s.A s.W) u = false
        rw [hw]
        rcases Od.bestF_is s.A s.W s.A.length with ⟨_, q⟩ | ⟨v, e, _⟩
        · exact q u (by omega)
        · unfold Od.popA Od.popV at hp
          rw [e] at hp
          simp at hp
    | true =>
      obtain ⟨v, hv, hvn, hvw⟩ := pop_some hp
      have hvl : v < s.W.length := by omega
      have hpl : (Od.popW s.A s.W).length = n := by
        unfold Od.popW
        rw [hp, if_pos rfl, List.length_set]; exact hW
      have hx2 := litT_half s.tr v
      obtain ⟨x, hx⟩ : ∃ x, litT s.tr v = x := ⟨_, rfl⟩
      rw [hx] at hx2
      cases hm : mayF n s.L (x : Nat) with
      | true =>
        rw [decF_yes hp hv hx hm] at h
        cases h
        have eL : (decS n (upO s s.A (Od.popW s.A s.W)) (x : Nat)).L = s.L ++ [⟨x, s.lev + 1, -1⟩] := by
          show addL n s.L (x : Nat) (s.lev + 1) (-1) = _
          unfold addL
          rw [hm, if_pos rfl, Int.toNat_natCast]
        have eV : (decS n (upO s s.A (Od.popW s.A s.W)) (x : Nat)).lev = s.lev + 1 := by
          show decV n s.L s.lev (x : Nat) = _
          unfold decV
          rw [hm, if_pos rfl]
        refine ⟨⟨rfl, rfl, rfl, rfl, rfl, rfl, rfl, rfl, rfl, rfl, rfl, hpl, fun q => ?_⟩, .inl ⟨rfl, x, hm, eL, eV⟩⟩
        intro c hc y hy
        rw [eL]
        show Od.wt (Od.popW s.A s.W) _ = true ∨ _
        rw [pop_wt hp hv hvl]
        by_cases e : vl y = v
        · right; rw [e, ← hx2]; exact at_last
        · rw [if_neg e]
          rcases q c hc y hy with q | q
          · exact .inl q
          · exact .inr (at_app q)
      | false =>
        rw [decF_no hp hv hx hm] at h
        have eL : (decS n (upO s s.A (Od.popW s.A s.W)) (x : Nat)).L = s.L := by
          show addL n s.L (x : Nat) (s.lev + 1) (-1) = _
          unfold addL
          rw [hm]; rfl
        have eV : (decS n (upO s s.A (Od.popW s.A s.W)) (x : Nat)).lev = s.lev := by
          show decV n s.L s.lev (x : Nat) = _
          unfold decV
          rw [hm]; rfl
        have d1 : DecR n l s (decS n (upO s s.A (Od.popW s.A s.W)) (x : Nat)) := by
          refine ⟨rfl, rfl, rfl, rfl, rfl, rfl, rfl, rfl, rfl, rfl, rfl, hpl, fun q => ?_⟩
          intro c hc y hy
          rw [eL]
          show Od.wt (Od.popW s.A s.W) _ = true ∨ _
          rw [pop_wt hp hv hvl]
          by_cases e : vl y = v
          · right; rw [e, ← hx2]; exact may_at hm (by omega)
          · rw [if_neg e]; exact q c hc y hy
        have hcnt := pop_count hp (by omega)
        obtain ⟨d2, r2⟩ := ih (decS n (upO s s.A (Od.popW s.A s.W)) (x : Nat)) b s' (show s.A.length = n from hA) hpl (show (Od.popW s.A s.W).count true < f by omega) h
        refine ⟨d1.trans d2, ?_⟩
        rcases r2 with ⟨hb, y, h1, h2, h3⟩ | ⟨hb, h1, h2, h3⟩
        · rw [eL] at h1 h2
          rw [eV] at h2 h3
          exact .inl ⟨hb, y, h1, h2, h3⟩
        · rw [eL] at h1
          rw [eV] at h2
          exact .inr ⟨hb, h1, h2, h3⟩

theorem Iv.dec (iv : Iv al n l s g) (top : ∀ e ∈ s.L, e.g ≤ s.lev) (hc : Closed g s.L) (d : DecR n l s s') {x : Nat} (eL : s'.L = s.L ++ [⟨x, s.lev + 1, -1⟩]) (eV : s'.lev = s.lev + 1) : Iv al n l s' g := by
  refine ⟨by rw [d.prf]; exact iv.nx, by rw [d.prf]; exact iv.lt, by rw [d.cls]; exact iv.cn, by rw [d.cls]; exact iv.cl, iv.og, by rw [d.prf]; exact iv.nn, by rw [d.cf, d.prf]; exact iv.cf, by rw [d.fs, d.prf]; exact iv.fs, by rw [d.ns, d.prf]; exact iv.ns, by rw [d.wg]; exact iv.wg, by rw [d.rd, d.en]; exact iv.rd, by rw [eL]; exact iv.dc.dec top x, fun e he => ?_, d.wt iv.wt, fun v hv => ?_, by rw [d.prf]; exact iv.ok, by rw [d.prf]; exact iv.ds, iv.ng, by rw [d.lim]; exact iv.lm, by rw [d.ns]; exact iv.nu, by rw [d.ns]; exact iv.nd⟩
  · rw [eL] at he
    rcases List.mem_append.1 he with h | h
    · exact iv.r1 e h
    · rw [List.mem_singleton] at h; subst h; exact Int.le_refl _
  · rw [eV] at hv
    rw [eL, pre_app (fun e he => by rw [List.mem_singleton] at he; subst he; exact hv)]
    by_cases e : v < s.lev
    · exact iv.cz v e
    · obtain rfl : v = s.lev := by omega
      rw [pre_all top]; exact hc

/-! ### An answer -/
theorem val_zero {L : List E} {x : Int} (h : valueF L x = 0) (h0 : 0 ≤ x) : atF L (vl x : Nat) = none := by
  unfold valueF at h
  rw [if_neg (by omega)] at h
  have e : x / 2 = ((vl x : Nat) : Int) := by unfold vl; omega
  rw [e] at h
  cases ha : atF L (vl x : Nat) with
  | none => rfl
  | some a => rw [ha] at h; simp only at h; split at h <;> omega

theorem Iv.holds (iv : Iv al n l s g) (hc : Closed g s.L) (hw : Wts l s') (hL : s'.L = s.L) (h0 : ∀ u : Nat, u < n → Od.wt s'.W u = false) : ∀ c ∈ l, ∃ x ∈ c, valueF s.L x = 1 := by
  intro c hcl
  obtain ⟨i, hi⟩ := List.mem_iff_getElem?.1 hcl
  have hil := (List.getElem?_eq_some_iff.1 hi).1
  have h1 := iv.nx
  have h2 := iv.lt i (by omega)
  rw [List.getElem?_append_left hil, hi] at h2
  cases h2
  rcases hc i (by omega) (iv.og i hil) with h | ⟨x, hx, y, hy, hne, v1, v2⟩
  · exact h
  · exfalso
    have hn := iv.nn (g.lt i) (List.mem_append_left _ hcl) x hx
    have ha := val_zero v1 hn.1
    rcases hw _ hcl x hx with h | h
    · rw [h0 (vl x) (by unfold vl; omega)] at h; cases h
    · rw [hL, ha] at h; cases h

theorem kept_out {L : List E} : ∀ (M : List E) (tr : List Bool) (v : Nat), (∀ e ∈ M, vr e ≠ v) → (keepTF L (-1) (M.map E.l) tr)[v]? = tr[v]? := by
  intro M
  induction M with
  | nil => intro tr v _; rfl
  | cons a M ih =>
    intro tr v h
    simp only [List.map_cons, keepTF]
    split
    · rfl
    · rw [ih _ _ (fun e he => h e (List.mem_cons_of_mem _ he)), List.getElem?_set_ne (show a.l / 2 ≠ v from h a List.mem_cons_self)]

theorem kept_in {L : List E} : ∀ (M : List E) (tr : List Bool), (∀ e ∈ M, levelF L (vr e : Nat) = e.g) → (M.map vr).Nodup → (∀ e ∈ M, vr e < tr.length) → ∀ e ∈ M, (keepTF L (-1) (M.map E.l) tr)[vr e]? = some (!decide (e.l % 2 = 1)) := by
  intro M
  induction M with
  | nil => intro tr _ _ _ e he; cases he
  | cons a M ih =>
    intro tr hl hn ht e he
    rw [List.map_cons, List.nodup_cons] at hn
    simp only [List.map_cons, keepTF]
    have h1 := hl a List.mem_cons_self
    unfold vr at h1
    rw [if_neg (by rw [h1]; omega)]
    rcases List.mem_cons.1 he with rfl | he
    · rw [kept_out _ _ _ (fun b hb c => hn.1 (List.mem_map.2 ⟨b, hb, c⟩))]
      have := ht e List.mem_cons_self
      unfold vr at this ⊢
      rw [List.getElem?_set_self this]
    · exact ih _ (fun b hb => hl b (List.mem_cons_of_mem _ hb)) hn.2 (fun b hb => by rw [List.length_set]; exact ht b (List.mem_cons_of_mem _ hb)) e he

/-- Truths that let a literal hold. -/
theorem model_at (t : Trl k w s.L s.lev p) (hk : k.n = n) (htr : s.tr.length = n) {x : Int} (h : valueF s.L x = 1) : (ktF s (-1)).tr[vl x]? = some (!decide (x % 2 = 1)) ∧ 0 ≤ x := by
  obtain ⟨x0, q, hq⟩ := val_one h
  obtain ⟨e, he, h1⟩ := lits_at.1 hq
  have hv : vl x = vr e := by unfold vl vr; omega
  have hm := List.mem_of_getElem? he
  have nd := t.nd
  have key := kept_in (L := s.L) s.L.reverse s.tr (fun a ha => by
    obtain ⟨i, hi⟩ := List.mem_iff_getElem?.1 (List.mem_reverse.1 ha)
    exact level_of nd hi) (by rw [List.map_reverse]; unfold ND at nd; exact (List.reverse_perm _).symm.nodup nd) (fun a ha => by rw [htr, ← hk]; exact t.lits_lt a (List.mem_reverse.1 ha)) e (List.mem_reverse.2 hm)
  refine ⟨?_, x0⟩
  rw [hv]
  refine Eq.trans key ?_
  have : (x % 2 = 1) ↔ (e.l % 2 = 1) := by omega
  simp [this]
end

/-! ### The beginning -/
theorem begW_is {n : Nat} {l : List (List Int)} : ∀ q, q ≤ l.length → (begW n (l.take q)).nx = q ∧ ∀ i, i < q → l[i]? = some ((begW n (l.take q)).lt i) ∧ (begW n (l.take q)).gn i = false := by
  intro q
  induction q with
  | zero => intro _; exact ⟨rfl, fun i hi => by omega⟩
  | succ q ih =>
    intro hq
    obtain ⟨h1, h2⟩ := ih (by omega)
    obtain ⟨y, hy⟩ : ∃ y, l[q]? = some y := ⟨_, List.getElem?_eq_getElem (by omega)⟩
    rw [begW_next hy]
    refine ⟨by show (begW n (l.take q)).nx + 1 = _; rw [h1], fun i hi => ?_⟩
    show l[i]? = some (up (begW n (l.take q)).lt (begW n (l.take q)).nx y i) ∧ up (begW n (l.take q)).gn (begW n (l.take q)).nx false i = false
    rw [h1]
    by_cases e : i = q
    · subst e; rw [up_same, up_same]; exact ⟨hy, rfl⟩
    · rw [up_ne _ _ e, up_ne _ _ e]; exact h2 i (by omega)

theorem pushs_len (n : Nat) : ∀ (xs : List Int) (W : List Bool), (pushsF n W xs).length = W.length := by
  intro xs
  induction xs with
  | nil => intro W; rfl
  | cons x xs ih => intro W; show (pushsF n (Od.pushW n W (U.varF x)) xs).length = _; rw [ih, push_len]

theorem pushs_wt {n : Nat} : ∀ (xs : List Int) (W : List Bool), W.length = n → ∀ u : Nat, (Od.wt W u = true ∨ ((∃ x ∈ xs, U.varF x = u) ∧ u < n)) → Od.wt (pushsF n W xs) u = true := by
  intro xs
  induction xs with
  | nil => intro W _ u h; rcases h with h | h; exact h; simp at h
  | cons x xs ih =>
    intro W hW u h
    show Od.wt (pushsF n (Od.pushW n W (U.varF x)) xs) u = true
    refine ih _ (by rw [push_len]; exact hW) u ?_
    rcases h with h | ⟨⟨y, hy, hu⟩, hn⟩
    · exact .inl (push_wt hW _ u (.inl h))
    · rcases List.mem_cons.1 hy with rfl | hy
      · exact .inl (push_wt hW _ u (.inr ⟨hu, hn⟩))
      · exact .inr ⟨⟨y, hy, hu⟩, hn⟩

theorem beg_all (n : Nat) : ∀ (l : List (List Int)) (s : SS), s.W.length = n →
    (l.foldl (beg1 n) s).L = s.L ∧ (l.foldl (beg1 n) s).lev = s.lev ∧ (l.foldl (beg1 n) s).prf = s.prf ∧ (l.foldl (beg1 n) s).fs = s.fs ∧ (l.foldl (beg1 n) s).ns = s.ns ∧ (l.foldl (beg1 n) s).wg = s.wg ∧ (l.foldl (beg1 n) s).lim = s.lim ∧ (l.foldl (beg1 n) s).W.length = n ∧
    ∀ u : Nat, (Od.wt s.W u = true ∨ ((∃ c ∈ l, ∃ x ∈ c, U.varF x = u) ∧ u < n)) → Od.wt (l.foldl (beg1 n) s).W u = true := by
  intro l
  induction l with
  | nil => intro s hW; exact ⟨rfl, rfl, rfl, rfl, rfl, rfl, rfl, hW, fun u h => by rcases h with h | h; exact h; simp at h⟩
  | cons c l ih =>
    intro s hW
    rw [List.foldl_cons]
    have hW2 : (beg1 n s c).W.length = n := by show (pushsF n s.W c).length = n; rw [pushs_len]; exact hW
    obtain ⟨a1, a2, a3, a4, a5, a6, a7, a8, a9⟩ := ih (beg1 n s c) hW2
    refine ⟨a1, a2, a3, a4, a5, a6, a7, a8, fun u h => a9 u ?_⟩
    rcases h with h | ⟨⟨d, hd, x, hx, hu⟩, hn⟩
    · exact .inl (pushs_wt c s.W hW u (.inl h))
    · rcases List.mem_cons.1 hd with rfl | hd
      · exact .inl (pushs_wt d s.W hW u (.inr ⟨⟨x, hx, hu⟩, hn⟩))
      · exact .inr ⟨⟨d, hd, x, hx, hu⟩, hn⟩

theorem Iv.begin (al : Bool) {n : Nat} {l : List (List Int)} {g : G} (hg : Gb n l g) (hn : ∀ c ∈ l, ∀ y ∈ c, 0 ≤ y ∧ y < 2 * (n : Int)) : Iv al n l (nextF (begF n l)) g ∧ (nextF (begF n l)).cf = 0 ∧ (nextF (begF n l)).lev = 0 ∧ (nextF (begF n l)).prf = [] ∧ (nextF (begF n l)).W.length = n ∧ (nextF (begF n l)).cf < (nextF (begF n l)).en ∧ (nextF (begF n l)).lim = 1000 ∧ (nextF (begF n l)).L = [] := by
  obtain ⟨b1, b2⟩ := begW_is (n := n) (l := l) l.length (Nat.le_refl _)
  rw [List.take_length, ← hg.pt] at b1 b2
  have hl0 : (s0F n).W.length = n := by show (Od.nones n).length = n; simp [Od.nones]
  obtain ⟨a1, a2, a3, a4, a5, a6, a7, a8, a9⟩ := beg_all n l (s0F n) hl0
  have c1 := beg_cls n l
  obtain ⟨r1, r2⟩ := beg_rd n l
  have hl := luby_pos 1 (Nat.le_refl _)
  have e1 : (nextF (begF n l)).L = [] := a1
  have e2 : (nextF (begF n l)).lev = 0 := a2
  have e3 : (nextF (begF n l)).prf = [] := a3
  have e4 : (nextF (begF n l)).fs = [] := a4
  have e5 : (nextF (begF n l)).ns = [] := a5
  have e6 : (nextF (begF n l)).wg = 131072 := a6
  have e7 : (nextF (begF n l)).cf = 0 := r2
  have e8 : (nextF (begF n l)).rd = 1 := by show (begF n l).rd + 1 = 1; rw [r1]
  have e9 : (nextF (begF n l)).en = 64 * Ly.luby 1 := by show (begF n l).cf + 64 * Ly.luby ((begF n l).rd + 1) = _; rw [r1, r2]; simp
  have e10 : (nextF (begF n l)).cls = l := c1
  have hnx : g.nx = l.length := b1
  refine ⟨⟨by rw [e3, hnx]; rfl, fun i hi => ?_, by rw [e10, hnx], fun i hi _ => ?_, fun i hi => (b2 i hi).2, by rw [e3, List.append_nil]; exact hn, by rw [e7, e3]; rfl, by rw [e4, e3]; rfl, by rw [e5, e3, hg.rm]; exact Nat.le_refl _, by rw [e6]; omega, by rw [e8, e9]; omega, by rw [e1]; exact Dc.nil, (by rw [e1]; intro e he; cases he), fun c hc x hx => .inl (a9 _ (.inr ⟨⟨c, hc, x, hx, ?_⟩, ?_⟩)), (by rw [e2]; intro v hv; omega), (by rw [e3]; intro i c h; simp at h), fun i j c d hij hj hi hj2 _ => ?_, fun _ i hi => (b2 i (by omega)).2, by show 1000 ≤ (begF n l).lim; rw [show (begF n l).lim = 1000 from a7]; exact Nat.le_refl _, (by rw [e5]; intro x hx; cases hx), by rw [e5]; exact List.nodup_nil⟩, e7, e2, e3, a8, by rw [e7, e9]; omega, a7, e1⟩
  · rw [e3, List.append_nil]; exact (b2 i (by omega)).1
  · rw [e10]; exact (b2 i (by omega)).1
  · have := (hn c hc x hx).1
    unfold U.varF vl
    rw [if_neg (by omega)]
    omega
  · have := hn c hc x hx
    unfold vl; omega
  · rw [e3, List.append_nil] at hj2
    have := (List.getElem?_eq_some_iff.1 hj2).1
    omega
end Go.Proofs.YtimfjoinjfecjaaGreat

namespace Go.Proofs.YtimfjoinjfecjaaGreat
open Go.RowKit Go.Maps
set_option linter.unusedVariables false
section
variable {c : SC} {w0 w w' : World} {g g' : G} {s s' : SS} {m m' : MV}

/-- What Unsat says lies there, on the blocks F. -/
structure UnsEnd (F : Nat → Prop) (w0 : World) (s : SS) (v : Value) (w' : World) : Prop where
  b0 : Below w0.heap.size w0 w'
  fn : ∀ i, F i → w0.heap.size ≤ i
  gr : ∀ W, (∀ i, F i → W.heap[i]? = w'.heap[i]?) → ∃ a cp, v = .slice a (s.prf.length + 1) cp ∧ U.Grid W a (s.prf.length + 1) cp (s.prf ++ [[]])

def unsB (w0 w : World) (m : MV) (b7 : Nat) (i : Nat) : Prop := i = b7 ∨ (w0.heap.size ≤ i ∧ i < w.heap.size ∧ m.ow i = 0)

theorem below_set {w w' : World} {B : Nat} {a : Addr} {v : Value} (b : Below B w w') (h : B ≤ a.block) : Below B w (w'.setCell a v) :=
  ⟨b.os, b.tape, b.output, by simpa [World.setCell] using b.size, fun j hj => (set_other v (fun e => by subst e; omega)).trans (b.block j hj)⟩

theorem uns_end {w1 w7 W : World} {PL b7 p7 : Nat} {vs : List Value} (h : Sm c w0 g s m w) (hPL : s.prf.length = PL) (b1 : Below w.heap.size w w1) (q1 : w1.ownsRow w0.heap.size 42 1 m.pv PL vs) (q2 : ∀ j, m.pv.ownBlock = some j → m.ow j = 5) (q3 : GVt w0 w m.ow vs s.prf) (g7 : w1.grownBy w7 m.pv.ownBlock)
    (o7 : w7.ownsRow w0.heap.size 42 1 (.slice (some ⟨b7, 0, none⟩) (PL + 1) p7) (PL + 1) (vs ++ [.slice (some ⟨w1.heap.size, 0, none⟩) 0 0])) (hnw : Nwr w0 5 vs) (hW : ∀ j, unsB w0 w m b7 j → W.heap[j]? = w7.heap[j]?) : ∃ a cp, Value.slice (some ⟨b7, 0, none⟩) (PL + 1) p7 = .slice a (s.prf.length + 1) cp ∧ U.Grid W a (s.prf.length + 1) cp (s.prf ++ [[]]) := by
  refine ⟨_, p7, by rw [hPL], ?_⟩
  rw [hPL]
  rcases o7.2 with ⟨e, _⟩ | ⟨b, cap, cur, e, hB, hg, h1, h2, h3, h4⟩
  · cases e
  · cases e
    refine ⟨by simp [hPL], h1, h2, (fun q => by cases q), fun _ => ⟨b7, 0, rfl, fun j hj => ?_⟩⟩
    have hc : W.cell? ⟨b7, 0 + j, none⟩ = (vs ++ [.slice (some ⟨w1.heap.size, 0, none⟩) 0 0])[j]? := by
      rw [Nat.zero_add, cell_of ((hW b7 (.inl rfl)).trans hg), ← h4, List.getElem?_take_of_lt (by omega)]
      simp
    have hvl : vs.length = PL := by rw [q3.1, hPL]
    by_cases hjl : j < PL
    · obtain ⟨a, n, cc, e1, e2, e3⟩ := q3.2 j (by omega)
      refine ⟨a, n, cc, by rw [hc, List.getElem?_append_left (by omega)]; exact e1, ?_⟩
      have : (s.prf ++ [[]]).getD j [] = s.prf.getD j [] := by
        simp only [List.getD_eq_getElem?_getD]; rw [List.getElem?_append_left (by omega)]
      rw [this]
      refine row_same e2 (fun h0 bb off ea => ?_)
      obtain ⟨b', off', e', q⟩ := e3 h0
      rw [ea] at e'; cases e'
      have hlt : bb < w.heap.size := by
        rcases q with q | q
        · exact Nat.lt_of_lt_of_le q h.b0.size
        · exact q.1
      have hno : m.pv.ownBlock ≠ some bb := fun e => by
        have t := q2 bb e
        rcases q with q | q
        · have := h.t.lo bb q; omega
        · omega
      rw [hW bb (.inr (by
        obtain ⟨b', off', e', q'⟩ := hnw rfl _ (List.mem_of_getElem? e1) a n cc rfl h0
        rw [ea] at e'; cases e'
        exact ⟨q', hlt, by rcases q with q | q; omega; exact q.2⟩)), g7.block bb (Nat.lt_of_lt_of_le hlt b1.size) (fun e => hno e.symm), b1.block bb hlt]
    · obtain rfl : j = PL := by omega
      refine ⟨some ⟨w1.heap.size, 0, none⟩, 0, 0, by rw [hc, List.getElem?_append_right (by omega), hvl]; simp, ?_⟩
      have : (s.prf ++ [[]]).getD j [] = [] := by
        simp only [List.getD_eq_getElem?_getD]; rw [List.getElem?_append_right (by omega), hPL]; simp
      rw [this]
      exact ⟨rfl, Nat.le_refl _, by unfold maxLen; omega, (fun q => by cases q), by intro x hx; simp at hx, fun h0 => by omega⟩

set_option maxRecDepth 20000 in
set_option maxHeartbeats 2000000 in
theorem unsat_is (h : Sm c w0 g s m w) (hp : s.prf.length ≤ 1000000) : Calls Tryz.prog 33 #[.pointer (some ⟨c.SB, 0, none⟩)] w fun e w' => ∃ v F, e = .returned (.agg #[.int .i64 2, .slice none 0 0, .int .i64 s.cf, v]) ∧ Hid (UnsEnd F w0 s v w') ∧ Hid (∀ j, j < w.heap.size → m.ow j = 9 → w'.heap[j]? = w.heap[j]? ∧ ¬ F j) := by
  have hal : Below w.heap.size w (w.alloc (.cells #[.int .i64 0, .slice none 0 0, .int .i64 0, .slice none 0 0] 27)) := by go_grown
  have hz := h.fresh hal (fun j => decide (j = w.heap.size)) (fun j hj _ _ => ⟨27, by cases of_decide_eq_true hj; exact ⟨_, _, new_same w _⟩, by simp [Wt]⟩)
  obtain ⟨h1, k1⟩ := hz
  have H1 := hid h1
  obtain ⟨vs, q1', q2', q3'⟩ := h.pr
  have HH := hid h
  have Q2 := hid q2'
  have Q3 := hid q3'.1
  have Q4 := hid q3'.2
  have BA := hid hal
  have Q1 : Hid ((w.alloc (.cells #[.int .i64 0, .slice none 0 0, .int .i64 0, .slice none 0 0] 27)).ownsRow w0.heap.size 42 1 m.pv s.prf.length vs) := hid (own_same q1' (fun j e => hal.block j (own_lt q1' e).2))
  clear q1' q2' q3'
  have hrb : (w.alloc (.cells #[.int .i64 0, .slice none 0 0, .int .i64 0, .slice none 0 0] 27)).heap[w.heap.size]? = some (.cells #[.int .i64 0, .slice none 0 0, .int .i64 0, .slice none 0 0] 27 (0, 0)) := new_same w _
  have hsz : w.heap.size < (w.alloc (.cells #[.int .i64 0, .slice none 0 0, .int .i64 0, .slice none 0 0] 27)).heap.size := blk_lt hrb
  obtain ⟨PL, hPL⟩ : ∃ PL, s.prf.length = PL := ⟨_, rfl⟩
  obtain ⟨cf, hcf⟩ : ∃ cf, s.cf = cf := ⟨_, rfl⟩
  clear h k1 h1 hal
  go_enter Tryz.func33, Tryz.ntmps33
  go_upto_region 1 with fail
  generalize hw1 : w.alloc (.cells #[.int .i64 0, .slice none 0 0, .int .i64 0, .slice none 0 0] 27) = w1 at *
  have q1 := Q1.out
  have c9 := H1.out.c9
  have c12 := H1.out.c12
  have lt := H1.out.sb_lt
  obtain ⟨pa, pp, epv⟩ : ∃ pa pp, m.pv = .slice pa PL pp := by
    rcases q1.2 with ⟨e, e2⟩ | ⟨b, cap, cur, e, _⟩
    · exact ⟨none, 0, by rw [← hPL]; exact e.trans (by rw [e2])⟩
    · exact ⟨_, cap, by rw [← hPL]; exact e⟩
  rw [epv] at c9
  rw [hcf] at c12
  have hb1 := H1.out.b0.size
  rw [hPL] at q1 hp
  have hcell : (((w1.alloc (.cells #[] 3)).alloc (.cells #[.slice (some ⟨w1.heap.size, 0, none⟩) 0 0] 42)).drew).cell? ⟨w1.heap.size + 1, 0, none⟩ = some (.slice (some ⟨w1.heap.size, 0, none⟩) 0 0) := by
    have e : ((w1.alloc (.cells #[] 3)).alloc (.cells #[.slice (some ⟨w1.heap.size, 0, none⟩) 0 0] 42)).heap[w1.heap.size + 1]? = some (.cells #[.slice (some ⟨w1.heap.size, 0, none⟩) 0 0] 42 (0, 0)) := by
      have := new_same (w1.alloc (.cells #[] 3)) (.cells #[.slice (some ⟨w1.heap.size, 0, none⟩) 0 0] 42)
      rwa [World.size_alloc] at this
    exact (cell_of (o := 0) e).trans rfl
  obtain ⟨v7, w7, r7, o7, g7, n7⟩ := run_cls (w1 := w1) (w := ((w1.alloc (.cells #[] 3)).alloc (.cells #[.slice (some ⟨w1.heap.size, 0, none⟩) 0 0] 42)).drew) 0 (.slice (some ⟨w1.heap.size, 0, none⟩) 0 0) rfl (by go_grown) w0.heap.size m.pv PL vs q1 (w1.heap.size + 1) hcell hp hb1
  obtain ⟨b7, p7, rfl⟩ := own_pos o7
  have R7 : Hid (∀ ty, (Builtin.append_ #[22, 22] ty #[.slice pa PL pp, .slice (some ⟨w1.heap.size + 1, 0, none⟩) 1 1]).run Tryz.prog ((w1.alloc (.cells #[] 3)).alloc (.cells #[.slice (some ⟨w1.heap.size, 0, none⟩) 0 0] 42)).drew = .ok (.slice (some ⟨b7, 0, none⟩) (PL + 1) p7) w7) := hid (fun ty => by rw [← epv]; exact r7)
  have hne : ∀ j, m.pv.ownBlock = some j → j ≠ w.heap.size := fun j e q => by
    have := own_typ q1 e
    rw [q] at this
    have t2 : Typ w1 w.heap.size 27 := ⟨_, _, hrb⟩
    exact absurd (this.one t2) (by decide)
  have hr7 : w7.heap[w.heap.size]? = some (.cells #[.int .i64 0, .slice none 0 0, .int .i64 0, .slice none 0 0] 27 (0, 0)) := by
    rw [g7.block _ hsz (fun e => hne _ e.symm rfl)]; exact hrb
  have z0 : w7.cell? ⟨w.heap.size, 0, none⟩ = some (.int .i64 0) := cell_of hr7
  have z1 : w7.cell? ⟨w.heap.size, 1, none⟩ = some (.slice none 0 0) := cell_of hr7
  have z2 : w7.cell? ⟨w.heap.size, 2, none⟩ = some (.int .i64 0) := cell_of hr7
  have z3 : w7.cell? ⟨w.heap.size, 3, none⟩ = some (.slice none 0 0) := cell_of hr7
  have y0 : w7.frozen? ⟨w.heap.size, 0, none⟩ = false := frozen_of hr7
  have y1 : w7.frozen? ⟨w.heap.size, 1, none⟩ = false := frozen_of hr7
  have y2 : w7.frozen? ⟨w.heap.size, 2, none⟩ = false := frozen_of hr7
  have y3 : w7.frozen? ⟨w.heap.size, 3, none⟩ = false := frozen_of hr7
  have x12 : w7.cell? ⟨c.SB, 12, none⟩ = some (.int .i64 cf) := by
    rw [World.cell?_of_block (a := ⟨c.SB, 12, none⟩) (g7.block c.SB lt (fun e => by have a := Q2.out _ e.symm; have b := HH.out.t.sb; omega))]; exact c12
  have hb7 : b7 ≠ w.heap.size := fun e => by
    have t1 : Typ w7 b7 42 := own_typ o7 rfl
    rw [e] at t1
    have t2 : Typ w7 w.heap.size 27 := ⟨_, _, hr7⟩
    exact absurd (t1.one t2) (by decide)
  have bw7 : Below w0.heap.size w0 w7 := H1.out.b0.trans (below_grown g7 (fun j e => (own_lt q1 e).1) hb1)
  have hw0 : w0.heap.size ≤ w.heap.size := HH.out.b0.size
  have hub : ∀ i, unsB w0 w m b7 i → i ≠ w.heap.size := fun i hq => by
    rcases hq with rfl | q
    · exact hb7
    · omega
  have HE : Hid (UnsEnd (unsB w0 w m b7) w0 s (.slice (some ⟨b7, 0, none⟩) (PL + 1) p7) ((((w7.setCell ⟨w.heap.size, 0, none⟩ (.int .i64 2)).setCell ⟨w.heap.size, 1, none⟩ (.slice none 0 0)).setCell ⟨w.heap.size, 2, none⟩ (.int .i64 cf)).setCell ⟨w.heap.size, 3, none⟩ (.slice (some ⟨b7, 0, none⟩) (PL + 1) p7))) := hid ⟨below_set (below_set (below_set (below_set bw7 hw0) hw0) hw0) hw0, fun i hq => by
      rcases hq with rfl | q
      · rcases n7 i rfl with q | q
        · exact (own_lt q1 q).1
        · exact Nat.le_trans hb1 q
      · exact q.1, fun W hW => uns_end HH.out hPL BA.out q1 Q2.out Q3.out g7 o7 Q4.out (fun i hq => by
        have hj := hub i hq
        rw [hW i hq, set_other _ hj, set_other _ hj, set_other _ hj, set_other _ hj])⟩
  have H9 : Hid (∀ j, j < w.heap.size → m.ow j = 9 → ((((w7.setCell ⟨w.heap.size, 0, none⟩ (.int .i64 2)).setCell ⟨w.heap.size, 1, none⟩ (.slice none 0 0)).setCell ⟨w.heap.size, 2, none⟩ (.int .i64 cf)).setCell ⟨w.heap.size, 3, none⟩ (.slice (some ⟨b7, 0, none⟩) (PL + 1) p7)).heap[j]? = w.heap[j]? ∧ ¬ unsB w0 w m b7 j) := hid (fun j hj e => by
    have hne2 : j ≠ w.heap.size := by omega
    have hnp : m.pv.ownBlock ≠ some j := fun q => by have := Q2.out j q; omega
    refine ⟨?_, fun hq => ?_⟩
    · rw [set_other _ hne2, set_other _ hne2, set_other _ hne2, set_other _ hne2, g7.block j (Nat.lt_of_lt_of_le hj BA.out.size) (fun q => hnp q.symm), BA.out.block j hj]
    · rcases hq with rfl | q
      · rcases n7 j rfl with q | q
        · exact hnp q
        · have := BA.out.size; omega
      · omega)
  have h8 : ((((w7.setCell ⟨w.heap.size, 0, none⟩ (.int .i64 2)).setCell ⟨w.heap.size, 1, none⟩ (.slice none 0 0)).setCell ⟨w.heap.size, 2, none⟩ (.int .i64 cf)).setCell ⟨w.heap.size, 3, none⟩ (.slice (some ⟨b7, 0, none⟩) (PL + 1) p7)).heap[w.heap.size]? = some (.cells #[.int .i64 2, .slice none 0 0, .int .i64 cf, .slice (some ⟨b7, 0, none⟩) (PL + 1) p7] 27 (0, 0)) := (set_same (set_same (set_same (set_same hr7 _) _) _) _).trans rfl
  have H8 := hid h8
  clear h8
  clear r7 hcell o7 g7 n7 hr7 hrb bw7 hb7 q1 hne
  go_region_law (refine step_of (t := 22) (v := .slice pa PL pp) (u := .slice (some ⟨w1.heap.size + 1, 0, none⟩) 1 1) rfl _ _ rfl rfl rfl (R7.out _) ?_)
  all_goals
    generalize hW8 : ((((w7.setCell ⟨w.heap.size, 0, none⟩ (.int .i64 2)).setCell ⟨w.heap.size, 1, none⟩ (.slice none 0 0)).setCell ⟨w.heap.size, 2, none⟩ (.int .i64 cf)).setCell ⟨w.heap.size, 3, none⟩ (.slice (some ⟨b7, 0, none⟩) (PL + 1) p7)) = w8 at *
    clear hW8 z0 z1 z2 z3 y0 y1 y2 y3 x12 R7
    have r0 : w8.cell? ⟨w.heap.size, 0, none⟩ = some (.int .i64 2) := cell_of H8.out
    have r1 : w8.cell? ⟨w.heap.size, 1, none⟩ = some (.slice none 0 0) := cell_of H8.out
    have r2 : w8.cell? ⟨w.heap.size, 2, none⟩ = some (.int .i64 cf) := cell_of H8.out
    have r3 : w8.cell? ⟨w.heap.size, 3, none⟩ = some (.slice (some ⟨b7, 0, none⟩) (PL + 1) p7) := cell_of H8.out
  all_goals go_wp2
  all_goals (try simp only [Exit.inBlock, Exit.then])
  all_goals refine bodyPost_ret (by simp [results, Tryz.results33, go_sem, r0, r1, r2, r3]; try rfl) rfl ?_
  all_goals rw [hcf]
  all_goals exact ⟨_, _, rfl, HE, H9⟩
end
end Go.Proofs.YtimfjoinjfecjaaGreat
