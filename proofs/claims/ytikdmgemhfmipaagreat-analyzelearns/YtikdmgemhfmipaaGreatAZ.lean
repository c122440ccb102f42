/-
  What is learned is looked at.
-/
import Derived.Test.YtikdmgemhfmipaaGreatAX
namespace Go.Proofs.YtikdmgemhfmipaaGreat
open Go.RowKit
set_option linter.unusedVariables false

section
variable {k : K} {w : World} {L : List E} {lev : Nat} {p : V} {cls : List (List Int)}

/-- What holds along a trail whose literals were decided, or follow. -/
structure Tl (L : List E) (cls : List (List Int)) : Prop where
  rs : ∀ (q : Nat) (e : E), L[q]? = some e → 0 ≤ e.r → ∃ (c : Nat) (cl : List Int), e.r = c ∧ cls[c]? = some cl ∧ (e.l : Int) ∈ cl ∧ ∀ y ∈ cl, y ≠ e.l → 0 ≤ y ∧ ∃ r : Nat, r < q ∧ (litsF L)[r]? = some (U.notF y)
  dc : ∀ (q : Nat) (e : E), L[q]? = some e → e.r < 0 → 1 ≤ e.g ∧ ∀ (q' : Nat) (e' : E), q' < q → L[q']? = some e' → e'.g < e.g

theorem Trl.mono (t : Trl k w L lev p) : (∀ (j j' : Nat) (e e' : E), j ≤ j' → L[j]? = some e → L[j']? = some e' → e.g ≤ e'.g) ∧ ∀ e ∈ L, e.g ≤ lev := by
  obtain ⟨F, S, s, g, rfl⟩ := t
  refine ⟨fun j j' e e' hj he he' => ?_, g.lv⟩
  by_cases c : e.g ≤ e'.g
  · exact c
  · exfalso
    have h1 := g.lv e (List.mem_of_getElem? he)
    obtain ⟨s0, hs⟩ : ∃ s0, S[e'.g]? = some s0 := ⟨_, List.getElem?_eq_getElem (by omega)⟩
    obtain ⟨_, _, h4⟩ := g.cut e'.g s0 hs
    have h5 := (h4 j' e' he').1 (Nat.le_refl _)
    have h6 := (h4 j e he).2 (by omega)
    omega

theorem Trl.cx (t : Trl k w L lev p) (h : Tl L cls) : Cx k.n lev L cls := ⟨t.nd, t.lits_lt, t.mono.1, t.mono.2, h.rs, h.dc⟩

theorem val_take (hnd : ND L) {j s : Nat} {e : E} (he : L[j]? = some e) : (j < s → valueF (L.take s) (U.notF e.l) = -1) ∧ (s ≤ j → valueF (L.take s) (U.notF e.l) = 0) := by
  have h0 : (0 : Int) ≤ U.notF e.l := by
    unfold U.notF
    rw [if_neg (by omega)]
    split <;> omega
  refine ⟨fun hj => val_of (take_nd hnd s) (by rw [List.getElem?_take_of_lt hj]; exact he), fun hj => ?_⟩
  have hv : ((U.notF e.l) / 2 : Int) = (vr e : Int) := by
    unfold U.notF vr
    rw [if_neg (by omega)]
    split <;> omega
  unfold valueF
  rw [if_neg (by omega), hv, at_none.2]
  intro a ha hc
  obtain ⟨i, hi⟩ := List.mem_iff_getElem?.1 ha
  have hil := (List.getElem?_eq_some_iff.1 hi).1
  rw [List.length_take] at hil
  rw [List.getElem?_take_of_lt (by omega)] at hi
  have := nd_one hnd hi he (by omega)
  omega

/-- Behind Back. -/
theorem Trl.backs (t : Trl k w L lev p) {b : Nat} (hb : b < lev) {j : Nat} {e : E} (he : L[j]? = some e) : (e.g ≤ b → valueF (backL L lev b) (U.notF e.l) = -1) ∧ (b < e.g → valueF (backL L lev b) (U.notF e.l) = 0) := by
  have hnd := t.nd
  obtain ⟨F, S, s, g, rfl⟩ := t
  obtain ⟨s0, hs⟩ : ∃ s0, S[b]? = some s0 := ⟨_, List.getElem?_eq_getElem hb⟩
  rw [(g.back_yes hs).1]
  obtain ⟨_, _, h4⟩ := g.cut b s0 hs
  have h5 := h4 j e he
  obtain ⟨v1, v2⟩ := val_take (s := s0) hnd he
  exact ⟨fun h => v1 (h5.1 h), fun h => v2 (by
    by_cases c : j < s0
    · have := h5.2 c; omega
    · omega)⟩

/-- All that is asked of what is learned. -/
structure Lf (L : List E) (lev : Nat) (cls : List (List Int)) (x : Nat) (es : List Int) (b : Nat) : Prop where
  bk : backF L es = b
  lt : b < lev
  stp : U.Stp cls (U.notF x :: es)
  v0 : valueF L (U.notF x) = -1
  l0 : levelF L (vl (U.notF x) : Nat) = lev
  vs : ∀ y ∈ es, valueF L y = -1 ∧ ∃ ll : Nat, levelF L (vl y : Nat) = ll ∧ 1 ≤ ll ∧ ll ≤ b
  w0 : valueF (backL L lev b) (U.notF x) = 0
  ws : ∀ y ∈ es, valueF (backL L lev b) y = -1
  nn : ∀ y ∈ U.notF x :: es, 0 ≤ y ∧ y ≤ 9223372036854775807

theorem learn_facts (t : Trl k w L lev p) (h : Tl L cls) (hl1 : 1 ≤ lev) {c : Nat} {cl : List Int} (hc : cls[c]? = some cl) (hv : ∀ y ∈ cl, valueF L y = -1) (hx : ∃ y ∈ cl, levelF L (vl y : Nat) = lev) :
    ∃ x s1, learnP L lev cls c = some (x, s1) ∧ ∀ es : List Int, es.Perm s1.oth → Fall L es → ∃ b, Lf L lev cls x es b := by
  have cx := t.cx h
  have hkn := t.len
  obtain ⟨j, e, s1, j1, j2, j3, j4, j5⟩ := learn_ok cx hl1 hc hv hx
  refine ⟨e.l, s1, j3, fun es hp hf => ?_⟩
  have hmem : ∀ y ∈ es, ∃ (j : Nat) (e : E), L[j]? = some e ∧ y = U.notF e.l ∧ 1 ≤ e.g ∧ e.g < lev := fun y hy => j4 y (hp.mem_iff.1 hy)
  have hlv : ∀ (i : Nat) (a : E), L[i]? = some a → levelF L (vl (U.notF a.l) : Nat) = a.g := fun i a ha => by rw [vl_lit, level_of cx.nd ha]
  obtain ⟨b, hb, hblt⟩ : ∃ b : Nat, backF L es = b ∧ b < lev := by
    cases es with
    | nil => exact ⟨0, rfl, by omega⟩
    | cons y es =>
      obtain ⟨i, a, ha, rfl, h1, h2⟩ := hmem y (by simp)
      exact ⟨a.g, hlv i a ha, h2⟩
  have hle : ∀ y ∈ es, ∀ (i : Nat) (a : E), L[i]? = some a → y = U.notF a.l → a.g ≤ b := by
    intro y hy i a ha hya
    cases es with
    | nil => cases hy
    | cons y0 es =>
      have h0 : levelF L (vl y0 : Nat) = b := hb
      have h1 : levelF L (vl y : Nat) = a.g := by rw [hya]; exact hlv i a ha
      rcases List.mem_cons.1 hy with rfl | hy
      · omega
      · have := (List.pairwise_cons.1 hf).1 y hy
        omega
  have hpos : ∀ (a : E), vr a < k.n → (0 : Int) ≤ U.notF a.l ∧ U.notF a.l ≤ 9223372036854775807 := fun a ha => by
    unfold vr at ha
    unfold U.notF
    rw [if_neg (by omega)]
    split <;> omega
  refine ⟨b, hb, hblt, ?_, val_of cx.nd j1, by rw [hlv j e j1, j2], fun y hy => ?_, (t.backs hblt j1).2 (by omega), fun y hy => ?_, fun y hy => ?_⟩
  · refine j5 ((U.notF e.l :: es).map U.notF) (fun x hx => ?_) ?_ (fun a ha hg => ?_)
    · obtain ⟨i, a, ha, rfl, _⟩ := j4 x hx
      have hp0 := hpos a (cx.lt a (List.mem_of_getElem? ha))
      refine U.Der.base (List.mem_map.2 ⟨_, List.mem_cons_of_mem _ (hp.mem_iff.2 hx), rfl⟩) ?_
      rw [U.not_not (by omega)]; omega
    · refine U.Der.base (List.mem_map.2 ⟨_, List.mem_cons_self, ?_⟩) (by omega)
      rw [U.not_not (by omega)]
    · obtain ⟨i, hi⟩ := List.mem_iff_getElem?.1 ha
      exact der_zero cx _ i a hi hg
  · obtain ⟨i, a, ha, rfl, h1, h2⟩ := hmem y hy
    exact ⟨val_of cx.nd ha, a.g, hlv i a ha, h1, hle _ hy i a ha rfl⟩
  · obtain ⟨i, a, ha, rfl, h1, h2⟩ := hmem y hy
    exact (t.backs hblt ha).1 (hle _ hy i a ha rfl)
  · rcases List.mem_cons.1 hy with rfl | hy
    · exact hpos e (cx.lt e (List.mem_of_getElem? j1))
    · obtain ⟨i, a, ha, rfl, h1, h2⟩ := hmem y hy
      exact hpos a (cx.lt a (List.mem_of_getElem? ha))
end

theorem rvar_nat (m u : Nat) (hm : m / 2 = u) (hu : (m : Int) ≤ 9223372036854775807) (w : World) : Calls Tryz.prog 27 #[.int .i64 m] w fun e w' => e = .returned (.int .i64 u) ∧ w' = w := by
  have HE : Hid ((m : Int) / 2 = u) := hid (by omega)
  have h0 : ¬ ((m : Int) < 0) := by omega
  clear hm
  go_enter Tryz.func27, Tryz.ntmps27
  go_wp2
  go_ret
  exact ⟨by rw [HE.out]; rfl, rfl⟩

end Go.Proofs.YtikdmgemhfmipaaGreat

namespace Go.Proofs.YtikdmgemhfmipaaGreat
open Go.RowKit
set_option linter.unusedVariables false

/-- What Learn has given. -/
structure Lrn (L : List E) (lev : Nat) (cls : List (List Int)) (n : Nat) (w : World) (x g cc m b : Nat) (es : List Int) (w' : World) : Prop where
  row : U.Row w' (some ⟨g, 0, none⟩) m cc (U.notF x :: es)
  lf : Lf L lev cls x es b
  be : Below w.heap.size w w'
  ml : m ≤ n + 1
  hg : w.heap.size ≤ g

section
variable {k : K} {w w1 w' : World} {L : List E} {lev : Nat} {p p' : V} {cls : List (List Int)} {x g cc m b n : Nat} {es : List Int}

theorem learn_here (t : Trl k w L lev p) (h : Tl L cls) {la : Option Addr} {ln cap : Nat} (gr : U.Grid w la ln cap cls) (hn : k.n ≤ 900) (hl1 : 1 ≤ lev) {c : Nat} {cl : List Int} (hc : cls[c]? = some cl) (hv : ∀ y ∈ cl, valueF L y = -1) (hx : ∃ y ∈ cl, levelF L (vl y : Nat) = lev) :
    Calls Tryz.prog 14 #[.pointer (some ⟨k.OB, 0, none⟩), .slice la ln cap, .int .i64 (c : Int)] w fun e w' => ∃ g cc m b va vn vc x es, e = .returned (.tuple #[.slice (some ⟨g, 0, none⟩) m cc, .int .i64 (b : Nat), .slice va vn vc, .bool true]) ∧ Hid (Lrn L lev cls k.n w x g cc m b es w') := by
  obtain ⟨x, s1, hL, hall⟩ := learn_facts t h hl1 hc hv hx
  refine (learn_is t gr (by omega) c).mono fun e w' q => ?_
  rcases q with ⟨q1, _⟩ | ⟨x', s1', g, cc, m, bk, va, vn, vc, es, q1, rfl, q2⟩
  · rw [hL] at q1; cases q1
  · rw [hL] at q1
    cases q1
    obtain ⟨b, lf⟩ := hall es q2.perm q2.fall
    exact ⟨g, cc, m, b, va, vn, vc, x, es, by rw [q2.bk, lf.bk], q2.row, lf, q2.be, q2.ml, q2.hg⟩

theorem Lrn.len (h : Lrn L lev cls n w x g cc m b es w') : m = es.length + 1 := by have := h.row.1; simp at this; omega

theorem Lf.at (h : Lf L lev cls x es b) {q : Nat} {y : Int} (hy : (U.notF x :: es)[q]? = some y) : ∃ (yn u ll : Nat), y = yn ∧ (yn : Int) ≤ 9223372036854775807 ∧ Hid (valueF L yn = -1) ∧ Hid (yn / 2 = u) ∧ Hid (levelF L (u : Int) = ll) ∧ 1 ≤ ll ∧ (q = 0 → ll = lev) ∧ (0 < q → ll ≤ b) := by
  obtain ⟨h1, h2⟩ := h.nn y (List.mem_of_getElem? hy)
  have hb := h.lt
  obtain ⟨yn, rfl⟩ : ∃ yn : Nat, y = yn := ⟨y.toNat, by omega⟩
  have hvl : vl (yn : Int) = yn / 2 := by unfold vl; simp
  cases q with
  | zero =>
    simp at hy
    refine ⟨yn, yn / 2, lev, rfl, h2, hid (by rw [← hy]; exact h.v0), hid rfl, hid (by rw [← hvl, ← hy]; exact h.l0), by omega, fun _ => rfl, fun c => absurd c (by omega)⟩
  | succ q =>
    simp at hy
    obtain ⟨v1, ll, v2, v3, v4⟩ := h.vs _ (List.mem_of_getElem? hy)
    exact ⟨yn, yn / 2, ll, rfl, h2, hid v1, hid rfl, hid (by rw [← hvl]; exact v2), v3, fun c => absurd c (by omega), fun _ => v4⟩

theorem Lf.behind (h : Lf L lev cls x es b) {q : Nat} {y : Int} (hy : (U.notF x :: es)[q]? = some y) : y ≤ 9223372036854775807 ∧ (q = 0 → Hid (valueF (backL L lev b) y = 0)) ∧ (0 < q → Hid (valueF (backL L lev b) y = -1)) := by
  obtain ⟨h1, h2⟩ := h.nn y (List.mem_of_getElem? hy)
  refine ⟨h2, fun hq => ?_, fun hq => ?_⟩
  · subst hq; simp at hy; rw [← hy]; exact h.w0
  · obtain ⟨q, rfl⟩ : ∃ q', q = q' + 1 := ⟨q - 1, by omega⟩
    simp at hy; exact h.ws _ (List.mem_of_getElem? hy)

theorem Trl.not_mine (t : Trl k w L lev p) (hg : w.heap.size ≤ g) : ¬ Mine k p g := fun c => by have := (t.lt c).2; omega

theorem Trl.be4 (t : Trl k w1 L lev p) (f : Fr k p p' w1 w') (b : Below w.heap.size w w1) (hB : k.B ≤ w.heap.size) : Below k.B w w' := by
  obtain ⟨F, S, s, g, _⟩ := t
  exact (b.mono hB).trans (f.be s (Nat.le_trans hB b.size))

theorem row_fr {n cap : Nat} {xs : List Int} (h : U.Row w (some ⟨g, 0, none⟩) n cap xs) (hg : ¬ Mine k p g) (f : Fr k p p' w w') : U.Row w' (some ⟨g, 0, none⟩) n cap xs := by
  refine ⟨h.1, h.2.1, h.2.2.1, h.2.2.2.1, h.2.2.2.2.1, fun h0 => ?_⟩
  obtain ⟨bk, off, e, hc⟩ := h.2.2.2.2.2 h0
  cases e
  refine ⟨g, 0, rfl, fun j hj => ?_⟩
  have hlt := cell_lt (hc j hj)
  have hb := f.block g hlt hg
  rw [← hc j hj]
  simp only [World.cell?, hb]

set_option maxHeartbeats 1000000 in
theorem learned_is (t : Trl k w L lev p) (h : Tl L cls) {la : Option Addr} {ln cap : Nat} (gr : U.Grid w la ln cap cls) (hn : k.n ≤ 900) (hln : ln ≤ 100) (hl : ∀ c ∈ cls, c.length ≤ 100) (hl1 : 1 ≤ lev) {c : Nat} {cl : List Int} (hc : cls[c]? = some cl) (hv : ∀ y ∈ cl, valueF L y = -1) (hx : ∃ y ∈ cl, levelF L (vl y : Nat) = lev) :
    Calls Tryz.prog 12 #[.pointer (some ⟨k.OB, 0, none⟩), .slice la ln cap, .int .i64 (c : Int)] w fun e w' => e = .returned (.bool true) ∧ Hid (Below k.B w w') := by
  have HLr := hid (learn_here t h gr hn hl1 hc hv hx)
  have HT := hid t
  have HKB := hid (show k.B ≤ w.heap.size by have := t.lt (.inl rfl : Mine k p k.FB); omega)
  have HG := hid gr
  have HL := hid hl
  clear hv hx hc h t gr hl
  go_enter Tryz.func12, Tryz.ntmps12
  have HZ : ∀ {m b : Nat} {x g cc : Nat} {es : List Int} {w1 : World}, Lrn L lev cls k.n w x g cc m b es w1 → b < lev ∧ 1 ≤ m ∧ m ≤ 901 := fun r => ⟨r.lf.lt, by have := r.len; omega, by have := r.ml; omega⟩
  go_wp2_with (first
    | (go_at_call 14; with_reducible (refine HLr.out.mono ?_); rintro e w1 ⟨g, cc, m, b, va, vn, vc, x, es, rfl, hR⟩; have HR1 := hid hR.out.row; have HT1 := hid (HT.out.below hR.out.be); obtain ⟨hbl, hm1, hm2⟩ := HZ hR.out; have hb0 : (0 : Int) ≤ b := (by omega); have hb1 : ¬ lev ≤ b := (by omega); have hm0 : ((m : Int) == 0) = false := (by simp; omega); have hmz : ¬ m = 0 := (by omega); clear HLr HZ)
    | (go_at_call 11; with_reducible (refine (levels_is HT1.out).mono ?_); rintro e w2 ⟨rfl, rfl⟩)
    | (go_at_call 25; with_reducible (refine (U.rstep_any _ _ _ _ _ (HG.out.keep hR.out.be) _ _ _ _ HR1.out (by omega) hln HL.out).mono ?_); rintro e w2 ⟨bb, rfl, hbb, hb2⟩; obtain rfl : bb = true := hbb.out.2 hR.out.lf.stp))
  have HB2 := hid (hR.out.be.trans (hb2.out.mono hR.out.be.size))
  clear hbb
  go_loopw [11, 12] (fun i _ wr => ∃ q : Nat, q ≤ m ∧ i = .int .i64 q ∧ Hid (Below w2.heap.size w2 wr)) (fun i _ _ => m - (intOf i).toNat)
  case atStart => exact ⟨0, Nat.zero_le _, rfl, Below.refl _ _⟩
  case round =>
    obtain ⟨q, hq, rfl, hb3⟩ := hrel
    have HT3 := hid ((HT1.out.below hb2.out).below hb3.out)
    have HR3 := hid ((HR1.out.keep hb2.out).keep hb3.out)
    by_cases hlt : q < m
    · obtain ⟨bq, oq, y, hao, hcy, hyy, y0, y1⟩ := HR3.out.at hlt
      cases hao
      rw [Nat.zero_add] at hcy
      obtain ⟨yn, u, ll, rfl, hyn, hval, hu, hlev, hl2, hl3, hl4⟩ := hR.out.lf.at hyy.out
      by_cases hq0 : q = 0
      · obtain rfl : lev = ll := (hl3 hq0).symm
        subst hq0
        go_wp2_with (first
          | (go_at_call 27; with_reducible (refine (rvar_nat yn u hu.out hyn _).mono ?_); rintro e w3 ⟨rfl, rfl⟩)
          | (go_at_call 26; with_reducible (refine (level_is HT3.out _ hlev.out).mono ?_); rintro e w3 ⟨rfl, rfl⟩)
          | (go_at_call 28; with_reducible (refine (value_is HT3.out _ hyn hval.out).mono ?_); rintro e w4 ⟨rfl, hb4⟩; have HT4 := hid (HT3.out.below hb4.out))
          | (go_at_call 11; with_reducible (refine (levels_is HT4.out).mono ?_); rintro e w5 ⟨rfl, rfl⟩))
        go_roundw
        case rel => exact ⟨0 + 1, by omega, by go_num, hid (hb3.out.trans (hb4.out.mono hb3.out.size))⟩
        case measure => simp only [intOf]; omega
      · have e1 : ((ll : Int) == lev) = false := by simp; omega
        have e2 : ((q : Int) == 0) = false := by simp; omega
        have e3 : (0 : Int) < q := by omega
        have e4 : ¬ b < ll := by omega
        have e5 : ¬ (ll : Int) < 1 := by omega
        go_wp2_with (first
          | (go_at_call 27; with_reducible (refine (rvar_nat yn u hu.out hyn _).mono ?_); rintro e w3 ⟨rfl, rfl⟩)
          | (go_at_call 26; with_reducible (refine (level_is HT3.out _ hlev.out).mono ?_); rintro e w3 ⟨rfl, rfl⟩)
          | (go_at_call 28; with_reducible (refine (value_is HT3.out _ hyn hval.out).mono ?_); rintro e w4 ⟨rfl, hb4⟩; have HT4 := hid (HT3.out.below hb4.out))
          | (go_at_call 11; with_reducible (refine (levels_is HT4.out).mono ?_); rintro e w5 ⟨rfl, rfl⟩))
        go_roundw
        case rel => exact ⟨q + 1, by omega, by go_num, hid (hb3.out.trans (hb4.out.mono hb3.out.size))⟩
        case measure => simp only [intOf]; omega
    · go_wp2_with (first
        | (go_at_call 29; with_reducible (refine (back_is HT3.out _).mono ?_); rintro e w4 ⟨ao, nn, cb, p', rfl, hbt, _⟩))
      have HR4 := hid (row_fr HR3.out (HT.out.not_mine hR.out.hg) hbt.out.fr)
      have HT4 := hid hbt.out.trl
      have HE4 := hid (HT3.out.be4 hbt.out.fr (HB2.out.trans (hb3.out.mono HB2.out.size)) HKB.out)
      go_loopw [13] (fun i wr => ∃ q : Nat, q ≤ m ∧ i = .int .i64 q ∧ Hid (Below w4.heap.size w4 wr)) (fun i _ => m - (intOf i).toNat)
      case atStart => exact ⟨0, Nat.zero_le _, rfl, Below.refl _ _⟩
      case round =>
        obtain ⟨q, hq, rfl, hb5⟩ := hrel
        have HT5 := hid (HT4.out.below hb5.out)
        have HR5 := hid (HR4.out.keep hb5.out)
        by_cases hlt : q < m
        · obtain ⟨bq, oq, y, hao, hcy, hyy, y0, y1⟩ := HR5.out.at hlt
          cases hao
          rw [Nat.zero_add] at hcy
          obtain ⟨_, v1, v2⟩ := hR.out.lf.behind hyy.out
          by_cases hq0 : q = 0
          · have hval := v1 hq0
            subst hq0
            go_wp2_with (first
              | (go_at_call 28; with_reducible (refine (value_is HT5.out _ y1 hval.out).mono ?_); rintro e w6 ⟨rfl, hb6⟩))
            go_roundw
            case rel => exact ⟨0 + 1, by omega, by go_num, hid (hb5.out.trans (hb6.out.mono hb5.out.size))⟩
            case measure => simp only [intOf]; omega
          · have hval := v2 (by omega)
            have e3 : (0 : Int) < q := by omega
            have e4 : (!decide (0 < q)) = false := by simp; omega
            go_wp2_with (first
              | (go_at_call 28; with_reducible (refine (value_is HT5.out _ y1 hval.out).mono ?_); rintro e w6 ⟨rfl, hb6⟩))
            go_roundw
            case rel => exact ⟨q + 1, by omega, by go_num, hid (hb5.out.trans (hb6.out.mono hb5.out.size))⟩
            case measure => simp only [intOf]; omega
        · obtain ⟨bq, oq, y, hao, hcy, hyy, y0, y1⟩ := HR5.out.at (show 0 < m by omega)
          cases hao
          rw [Nat.zero_add] at hcy
          have hval := (hR.out.lf.behind hyy.out).2.1 rfl
          go_wp2_with (first
            | (go_at_call 28; with_reducible (refine (value_is HT5.out _ y1 hval.out).mono ?_); rintro e w6 ⟨rfl, hb6⟩))
          go_ret
          exact ⟨rfl, hid (HE4.out.trans ((hb5.out.trans (hb6.out.mono hb5.out.size)).mono (Nat.le_trans HKB.out HE4.out.size)))⟩
end
end Go.Proofs.YtikdmgemhfmipaaGreat
