/-
  strike, exactly.
-/
import Derived.Test.YtimfjoinjfecjaaGreatQ37
import Derived.Test.YtimfjoinjfecjaaGreatQ25

namespace Go.Proofs.YtimfjoinjfecjaaGreat
open Go.RowKit Go.Maps
set_option linter.unusedVariables false

theorem up_swap {α : Type} (f : Nat → α) {i j : Nat} (h : i ≠ j) (x y : α) : up (up f i x) j y = up (up f j y) i x := by
  funext k; simp only [up]; by_cases h1 : k = i <;> by_cases h2 : k = j <;> simp [h1, h2] <;> omega
theorem slot_slot (q : WP) (x : Nat) (M N : List Nat) : slotW (slotW q x M) x N = slotW q x N := by
  show { q with P := up (up q.P x M) x N } = _; rw [up_up]; rfl
theorem slot_twice (g : G) (x : Nat) (M N : List Nat) (v : Value) : slotW (g.slot x M v).pt x N = slotW g.pt x N := by
  show { g.pt with P := up (up g.P x M) x N } = _; rw [up_up]; rfl

def frF (q : WP) (c f : Nat) : WP := { q with fr := up q.fr c f }
def besW (q : WP) (c : Nat) (x : Int) : Int := if q.a c = x then q.b c else q.a c
def movF (q : WP) (c : Nat) (y : Int) (z f : Nat) : WP := { q with fr := up q.fr c f, a := up q.a c y, b := up q.b c z, P := up q.P z (q.P z ++ [c]) }
def stayF (n : Nat) (q : WP) (c x u : Nat) : WP := if q.pl (x / 2) < q.pl u then leanF n q c u else q
def skW (L : List E) (q : WP) (c : Nat) (x : Int) : Int × Nat := seekA L (q.lt c) (besW q c x) (q.lt c).length (q.fr c)

/-- What strike makes of the clauses that watch x, behind those that stay. -/
def strF (n lev x : Nat) : List Nat → List Nat → WP → List E → Option Nat × WP × List E
  | [], T, q, L => (none, slotW q x T, L)
  | c :: cs, T, q, L =>
    if q.gn c = true then strF n lev x cs T q L
    else if 0 < valueF L (besW q c x) then strF n lev x cs (T ++ [c]) (stayF n q c x ((besW q c x).toNat / 2)) L
    else if (skW L q c x).1 ≠ -1 then strF n lev x cs T (movF q c (besW q c x) (skW L q c x).1.toNat (skW L q c x).2) L
    else if valueF L (besW q c x) = 0 then strF n lev x cs (T ++ [c]) (leanF n (plF (frF q c (skW L q c x).2) ((besW q c x).toNat / 2) L.length) c ((besW q c x).toNat / 2)) (L ++ [⟨(besW q c x).toNat, lev, c⟩])
    else (some c, slotW (frF q c (skW L q c x).2) x (T ++ c :: cs), L)

def SE (n lev x : Nat) (Q : List Nat) (a : Nat) (T : List Nat) (bd : Option Nat) (g : G) (L : List E) (g1 : G) (L1 : List E) : Prop :=
  strF n lev x Q [] (slotW g.pt x []) L = match bd with
    | none => strF n lev x (Q.drop a) T (slotW g1.pt x []) L1
    | some c => (some c, slotW g1.pt x (T ++ Q.drop a), L1)

section
variable {n lev x a c m f z : Nat} {Q T : List Nat} {g g1 g3 : G} {L L1 : List E} {y : Int} {bd : Option Nat}

theorem SE.gone (h : SE n lev x Q a T none g L g1 L1) (hc : Q[a]? = some c) (hg : g1.gn c = true) : SE n lev x Q (a + 1) T none g L g1 L1 := by
  refine h.trans ?_
  show strF n lev x (Q.drop a) T _ L1 = _
  rw [drop_cons hc, strF, if_pos (show (slotW g1.pt x []).gn c = true from hg)]

theorem SE.moved (h : SE n lev x Q a T none g L g1 L1) (hc : Q[a]? = some c) (hg : g1.gn c = false) (hy : besideF g1 c x = y) (hv : valueF L1 y ≤ 0) (hs : seekA L1 (g1.lt c) y (g1.lt c).length (g1.fr c) = ((z : Int), f)) (hzx : z ≠ x) (v : Value) : SE n lev x Q (a + 1) T none g L (((g1.from c f).watch c y z).slot z (g1.P z ++ [c]) v) L1 := by
  refine h.trans ?_
  show strF n lev x (Q.drop a) T _ L1 = _
  have e1 : besW (slotW g1.pt x []) c x = y := hy
  have e2 : skW L1 (slotW g1.pt x []) c x = ((z : Int), f) := by unfold skW; rw [e1]; exact hs
  rw [drop_cons hc, strF, if_neg (by rw [show (slotW g1.pt x []).gn c = false from hg]; simp), e1, if_neg (by omega), e2, if_pos (by show (z : Int) ≠ -1; omega)]
  show strF n lev x _ T (movF _ c y (Int.toNat (z : Int)) f) L1 = _
  rw [Int.toNat_natCast]
  have e3 : movF (slotW g1.pt x []) c y z f = slotW (((g1.from c f).watch c y z).slot z (g1.P z ++ [c]) v).pt x [] := by
    have hP : up (up g1.P x []) z (up g1.P x [] z ++ [c]) = up (up g1.P z (g1.P z ++ [c])) x [] := by rw [up_ne _ _ hzx, up_swap _ hzx]
    exact congrArg (fun P => (⟨g1.nx, g1.lt, up g1.a c y, up g1.b c z, up g1.fr c f, g1.gn, P, g1.pl, g1.dn⟩ : WP)) hP
  rw [e3]

theorem SE.new (h : SE n lev x Q a T none g L g1 L1) (hc : Q[a]? = some c) (hg : g1.gn c = false) (hy : besideF g1 c x = (m : Int)) (hv : valueF L1 (m : Int) = 0) (hs : seekA L1 (g1.lt c) (m : Int) (g1.lt c).length (g1.fr c) = (-1, f)) (he : slotW g3.pt x [] = slotW (g1.from c f).pt x []) (hx : x < 2 * n) (v : Value) :
    SE n lev x Q (a + 1) (T ++ [c]) none g L ((g3.place (m / 2) L1.length).slot (2 * n + m / 2) ((g3.place (m / 2) L1.length).P (2 * n + m / 2) ++ [c]) v) (L1 ++ [⟨m, lev, c⟩]) := by
  refine h.trans ?_
  show strF n lev x (Q.drop a) T _ L1 = _
  have e1 : besW (slotW g1.pt x []) c x = (m : Int) := hy
  have e2 : skW L1 (slotW g1.pt x []) c x = (-1, f) := by unfold skW; rw [e1]; exact hs
  rw [drop_cons hc, strF, if_neg (by rw [show (slotW g1.pt x []).gn c = false from hg]; simp), e1, if_neg (by omega), e2, if_neg (by simp), if_pos hv, Int.toNat_natCast]
  have e3 : leanF n (plF (frF (slotW g1.pt x []) c f) (m / 2) L1.length) c (m / 2) = slotW ((g3.place (m / 2) L1.length).slot (2 * n + m / 2) ((g3.place (m / 2) L1.length).P (2 * n + m / 2) ++ [c]) v).pt x [] := by
    have e4 : frF (slotW g1.pt x []) c f = slotW g3.pt x [] := he.symm
    rw [e4]
    have hP : up (up g3.P x []) (2 * n + m / 2) (up g3.P x [] (2 * n + m / 2) ++ [c]) = up (up g3.P (2 * n + m / 2) (g3.P (2 * n + m / 2) ++ [c])) x [] := by
      rw [up_ne _ _ (show 2 * n + m / 2 ≠ x by omega), up_swap _ (show 2 * n + m / 2 ≠ x by omega)]
    exact congrArg (fun P => (⟨g3.nx, g3.lt, g3.a, g3.b, g3.fr, g3.gn, P, up g3.pl (m / 2) L1.length, g3.dn⟩ : WP)) hP
  show strF n lev x _ _ (leanF n (plF (frF _ c f) (m / 2) L1.length) c (m / 2)) _ = _
  rw [e3]

theorem SE.lean (h : SE n lev x Q a T none g L g1 L1) (hc : Q[a]? = some c) (hg : g1.gn c = false) (hy : besideF g1 c x = (m : Int)) (hv : valueF L1 (m : Int) = 1) (he : slotW g3.pt x [] = slotW g1.pt x []) (hp : g1.pl (x / 2) < g1.pl (m / 2)) (hx : x < 2 * n) (v : Value) :
    SE n lev x Q (a + 1) (T ++ [c]) none g L (g3.slot (2 * n + m / 2) (g3.P (2 * n + m / 2) ++ [c]) v) L1 := by
  refine h.trans ?_
  show strF n lev x (Q.drop a) T _ L1 = _
  have e1 : besW (slotW g1.pt x []) c x = (m : Int) := hy
  rw [drop_cons hc, strF, if_neg (by rw [show (slotW g1.pt x []).gn c = false from hg]; simp), e1, if_pos (by omega), Int.toNat_natCast]
  unfold stayF
  rw [if_pos (show (slotW g1.pt x []).pl (x / 2) < (slotW g1.pt x []).pl (m / 2) from hp), ← he]
  have e3 : leanF n (slotW g3.pt x []) c (m / 2) = slotW (g3.slot (2 * n + m / 2) (g3.P (2 * n + m / 2) ++ [c]) v).pt x [] := by
    show { g3.pt with P := up (up g3.P x []) (2 * n + m / 2) (up g3.P x [] (2 * n + m / 2) ++ [c]) } = { g3.pt with P := up (up g3.P (2 * n + m / 2) (g3.P (2 * n + m / 2) ++ [c])) x [] }
    rw [up_ne _ _ (show 2 * n + m / 2 ≠ x by omega), up_swap _ (show 2 * n + m / 2 ≠ x by omega)]
  rw [e3]

theorem SE.held (h : SE n lev x Q a T none g L g1 L1) (hc : Q[a]? = some c) (hg : g1.gn c = false) (hy : besideF g1 c x = (m : Int)) (hv : valueF L1 (m : Int) = 1) (he : slotW g3.pt x [] = slotW g1.pt x []) (hp : ¬ g1.pl (x / 2) < g1.pl (m / 2)) :
    SE n lev x Q (a + 1) (T ++ [c]) none g L g3 L1 := by
  refine h.trans ?_
  show strF n lev x (Q.drop a) T _ L1 = _
  have e1 : besW (slotW g1.pt x []) c x = (m : Int) := hy
  rw [drop_cons hc, strF, if_neg (by rw [show (slotW g1.pt x []).gn c = false from hg]; simp), e1, if_pos (by omega), Int.toNat_natCast]
  unfold stayF
  rw [if_neg (show ¬ (slotW g1.pt x []).pl (x / 2) < (slotW g1.pt x []).pl (m / 2) from hp), ← he]

theorem SE.bad (h : SE n lev x Q a T none g L g1 L1) (hc : Q[a]? = some c) (hg : g1.gn c = false) (hy : besideF g1 c x = (m : Int)) (hv : valueF L1 (m : Int) = -1) (hs : seekA L1 (g1.lt c) (m : Int) (g1.lt c).length (g1.fr c) = (-1, f)) (he : slotW g3.pt x [] = slotW (g1.from c f).pt x []) :
    SE n lev x Q (a + 1) (T ++ [c]) (some c) g L g3 L1 := by
  refine h.trans ?_
  show strF n lev x (Q.drop a) T _ L1 = (some c, slotW g3.pt x (T ++ [c] ++ Q.drop (a + 1)), L1)
  have e1 : besW (slotW g1.pt x []) c x = (m : Int) := hy
  have e2 : skW L1 (slotW g1.pt x []) c x = (-1, f) := by unfold skW; rw [e1]; exact hs
  rw [drop_cons hc, strF, if_neg (by rw [show (slotW g1.pt x []).gn c = false from hg]; simp), e1, if_neg (by omega), e2, if_neg (by simp), if_neg (by omega)]
  have e4 : frF (slotW g1.pt x []) c f = slotW g3.pt x [] := he.symm
  show (some c, slotW (frF _ c f) x _, L1) = _
  rw [e4, slot_slot]; simp

theorem SE.end_none (h : SE n lev x Q a T bd g L g1 L1) (hb : bd = none) (ha : a = Q.length) (v : Value) : strF n lev x Q [] (slotW g.pt x []) L = (none, (g1.slot x (T ++ Q.drop a) v).pt, L1) := by
  subst hb
  refine h.trans ?_
  show strF n lev x (Q.drop a) T _ L1 = _
  rw [ha, List.drop_length, strF, slot_slot, List.append_nil]; rfl

theorem SE.end_some (h : SE n lev x Q a T bd g L g1 L1) (hb : bd = some c) (v : Value) : strF n lev x Q [] (slotW g.pt x []) L = (some c, (g1.slot x (T ++ Q.drop a) v).pt, L1) := by
  subst hb
  exact h
end

section
variable {k : K} {kw : WK} {w w1 w2 w3 : World} {g g1 : G} {L L1 : List E} {lev : Nat} {p p1 : V} {x a c : Nat} {Q T : List Nat} {bd : Option Nat}

theorem StrI.apart (h : StrI k kw g L lev p w x Q a T bd g1 L1 p1 w1) (hq : (litsF L1)[g.dn]? = some (U.notF x)) {z : Nat} (hz : 0 ≤ valueF L1 z) : z ≠ x := fun e => by
  have vx : valueF L1 x = -1 := val_not h.j.t.nd (by omega) hq
  rw [e] at hz; omega

theorem StrI.stay2_ex {b off n cap : Nat} {g2 : G} (h : StrI k kw g L lev p w x Q a T none g1 L1 p1 w1) (hx : x < 2 * kw.n) (hc : Q[a]? = some c) (j : J k kw w2 g2 L1 lev p1) (F : FW kw.B w1 w2) (e2 : g2 = g1 ∨ ∃ f, (f < (g1.lt c).length ∨ g1.lt c = []) ∧ g2 = g1.from c f)
    (ev : g.pv x = .slice (some ⟨b, off, none⟩) n cap) (own : PRow w3 g.cb (.slice (some ⟨b, off, none⟩) n cap) ((g1.P x).set T.length c)) (gr : w2.grownBy w3 (some b)) :
    ∃ g3, Hid (StayI k kw g L lev p w x Q a T c g3 L1 p1 w3) ∧ Hid (∀ y, besideF g3 c y = besideF g1 c y) ∧ Hid (g3.pl = g1.pl) ∧ Hid (slotW g3.pt x [] = slotW g2.pt x []) := by
  have q1 : g2.P = g1.P ∧ g2.pv = g1.pv ∧ g2.cb = g1.cb ∧ g2.a = g1.a ∧ g2.b = g1.b ∧ g2.pl = g1.pl := by
    rcases e2 with rfl | ⟨f, _, rfl⟩ <;> exact ⟨rfl, rfl, rfl, rfl, rfl, rfl⟩
  obtain ⟨eP, epv, ecb, ea, eb, epl⟩ := q1
  have hv2 : g2.pv x = .slice (some ⟨b, off, none⟩) n cap := by rw [epv, h.pv, ev]
  refine ⟨_, hid (h.stay hx hc j F e2 (by rw [hv2, ecb, h.sm.cb, eP]; exact own) (by rw [hv2]; exact gr)), hid (fun y => ?_), hid epl, hid (slot_twice _ _ _ _ _)⟩
  show (if g2.a c = y then g2.b c else g2.a c) = _
  rw [ea, eb]; rfl

def StkX (k : K) (kw : WK) (g : G) (L : List E) (lev : Nat) (p : V) (x : Nat) (w : World) (e : Ending) (w' : World) : Prop :=
  ∃ g' L' p', J k kw w' g' L' lev p' ∧ Rs g' L' ∧ Same g g' ∧ g'.dn = g.dn ∧ (g'.P (3 * kw.n) = g.P (3 * kw.n) ∧ g'.pv (3 * kw.n) = g.pv (3 * kw.n)) ∧ Ext L L' lev ∧ sumL kw.n g'.P ≤ sumL kw.n g.P + g.nx ∧ FT k kw.B p p' w w' ∧
    ((e = .returned (.pointer none) ∧ strF kw.n lev x (g.P x) [] (slotW g.pt x []) L = (none, g'.pt, L') ∧ Inv kw.n g' (litsF L') (fun _ => g.dn + 1) (fun _ => False)) ∨
     ∃ c : Nat, e = .returned (.pointer (some ⟨g.cb c, 0, none⟩)) ∧ strF kw.n lev x (g.P x) [] (slotW g.pt x []) L = (some c, g'.pt, L') ∧ c < g.nx ∧ g.gn c = false ∧ (∀ y ∈ g.lt c, valueF L' y = -1) ∧ Inv kw.n g' (litsF L') (fun _ => g.dn) (fun i => i = c))

theorem StrI.fin_ex {v : Value} {m' : Nat} (h : StrI k kw g L lev p w x Q a T bd g1 L1 p1 w1) (hx : x < 2 * kw.n) (hQn : Q.length ≤ g.nx) (hq : (litsF L1)[g.dn]? = some (U.notF x)) (s : St kw w2 (g1.slot x (T ++ Q.drop a) v)) (F : FW kw.B w1 w2) (hend : bd = none → a = Q.length) (hQ : g.P x = Q) (hS : SE kw.n lev x Q a T bd g L g1 L1) {e : Ending}
    (he : (bd = none ∧ e = .returned (.pointer none)) ∨ ∃ c, bd = some c ∧ e = .returned (.pointer (some ⟨g.cb c, 0, none⟩))) : StkX k kw g L lev p x w e w2 := by
  refine ⟨_, L1, p1, h.j.fw F s rfl rfl rfl rfl, h.rs.as rfl rfl rfl, h.sm.trans ⟨rfl, rfl, rfl, rfl, rfl, rfl, rfl, rfl⟩, h.dn, ⟨?_, ?_⟩, h.ex, ?_, h.ft.trans (FT.fw F), ?_⟩
  · rw [← h.wa.1]; exact up_ne _ _ (by omega)
  · rw [← h.wa.2]; exact up_ne _ _ (by omega)
  · have : sumL kw.n (g1.slot x (T ++ Q.drop a) v).P = sumL kw.n g1.P := sum_other (.inl hx) _ v
    rw [this]; have := h.su; have := h.al; omega
  · have iv2 : Inv kw.n (g1.slot x (T ++ Q.drop a) v) (litsF L1) (dT T g.dn) (fun i => bd = some i) := h.iv.like rfl rfl rfl rfl rfl rfl rfl rfl
    rcases he with ⟨e1, e2⟩ | ⟨c, e1, e2⟩
    · have ea := hend e1
      refine .inl ⟨e2, by rw [hQ]; exact hS.end_none e1 ea v, ?_⟩
      have hT : (g1.slot x (T ++ Q.drop a) v).P x = T := by
        rw [show (g1.slot x (T ++ Q.drop a) v).P x = T ++ Q.drop a from up_same _ _ _, ea, List.drop_length, List.append_nil]
      exact (iv2.told hx hT hq).mono (fun _ => Nat.le_refl _) (fun i hi => by rw [e1] at hi; cases hi)
    · obtain ⟨b1, b2, b3⟩ := h.bd c e1
      refine .inr ⟨c, e2, by rw [hQ]; exact hS.end_some e1 v, b1, b2, b3, iv2.mono (fun i => ?_) (fun i hi => ?_)⟩
      · unfold dT; split <;> omega
      · rw [e1] at hi; exact (Option.some.inj hi).symm

end

section
variable {k : K} {kw : WK} {w : World} {g : G} {L : List E} {lev : Nat} {p : V}

set_option maxHeartbeats 4000000 in
theorem strike_row_ex (j : J k kw w g L lev p) (iv : Inv kw.n g (litsF L) (fun _ => g.dn) (fun _ => False)) (rs : Rs g L) (x : Nat) (hx : x < 2 * kw.n) (hq : (litsF L)[g.dn]? = some (U.notF x)) (hnx : g.nx ≤ 1000000) (hsu : sumL kw.n g.P ≤ 400000000000) {b off n cap : Nat} (ev : g.pv x = .slice (some ⟨b, off, none⟩) n cap) :
    Calls Tryz.prog 78 #[.pointer (some ⟨kw.OB, 0, none⟩), .pointer (some ⟨k.OB, 0, none⟩), .int .i64 x] w fun e w' => StkX k kw g L lev p x w e w' := by
  obtain ⟨Q, hQ⟩ : ∃ Q, g.P x = Q := ⟨_, rfl⟩
  have hn : n = Q.length ∧ n ≤ cap ∧ cap ≤ maxLen := by
    obtain ⟨_, _, e, h1, h2⟩ := (j.s.l.rw x (by omega)).shape
    rw [ev] at e; cases e
    rw [hQ] at h1 ⊢
    exact ⟨rfl, h1, h2⟩
  obtain ⟨hn, hc1, hc2⟩ := hn
  unfold maxLen at hc2
  have hc3 : (cap : Int) ≤ 9223372036854775807 := by omega
  have hQn : Q.length ≤ g.nx := by rw [← hQ]; exact nodup_len (iv.nd x hx) (j.s.l.sub x (by omega))
  have c2 := j.s.c2
  have cx := j.s.c.wc hx
  rw [ev] at cx
  have hx' : (x : Int) < 2 * kw.n := by omega
  have hkn := j.s.l.hn
  have hdl : g.dn < L.length := by have := (List.getElem?_eq_some_iff.1 hq).1; rw [litsF_len] at this; exact this
  have SI : Hid (StrI k kw g L lev p w x Q 0 [] none g L p w) := hid (by
    refine ⟨j, rs, Same.refl g, rfl, ⟨rfl, rfl⟩, rfl, by rw [hQ], by simp, by rw [hQ], by simp, by simp, ?_, (fun c e => by cases e), Ext.refl _ _, by omega, FT.refl _ _ _ _⟩
    have e1 : ([] : List Nat) ++ Q.drop 0 = g.P x := by rw [hQ]; simp
    rw [e1, vir_self]
    exact iv.mono (fun i => by simp [dT]) (fun i hi => hi.elim))
  have HQ := hid hq
  have HQQ := hid hQ
  have HEV := hid ev
  have HN := hid hn
  subst hn
  clear j iv rs ev hq hQ
  go_enter Tryz.func78, Tryz.ntmps78
  go_wp2
  go_loopw [8, 9, 10, 11, 12] (fun st at_ bd _ _ wr => ∃ (a : Nat) (T : List Nat) (bdo : Option Nat) (g1 : G) (L1 : List E) (p1 : V), st = .slice (some ⟨b, off, none⟩) T.length cap ∧ at_ = .int .i64 a ∧ a ≤ Q.length ∧ ((bdo = none ∧ bd = .pointer none) ∨ ∃ c, bdo = some c ∧ bd = .pointer (some ⟨g.cb c, 0, none⟩)) ∧ Hid (StrI k kw g L lev p w x Q a T bdo g1 L1 p1 wr) ∧ Hid (SE kw.n lev x Q a T bdo g L g1 L1)) (fun _ at_ _ _ _ _ => Q.length - (intOf at_).toNat)
  case atStart => exact ⟨0, [], none, g, L, p, rfl, rfl, Nat.zero_le _, .inl ⟨rfl, rfl⟩, SI, hid rfl⟩
  case round =>
    clear SI c2 cx
    obtain ⟨a, T, bdo, g1, L1, p1, rfl, rfl, ha, hbd, si, se⟩ := hrel
    have HQ1 : Hid ((litsF L1)[g.dn]? = some (U.notF x)) := hid (si.out.ex.at HQ.out)
    have htl := si.out.tl
    rcases hbd with ⟨rfl, rfl⟩ | ⟨cbad, rfl, rfl⟩
    · by_cases hlt : a < Q.length
      · obtain ⟨c, hc⟩ : ∃ c, Q[a]? = some c := ⟨_, List.getElem?_eq_getElem hlt⟩
        have HC := hid hc
        have cc := (si.out.row hx HEV.out).at (si.out.at hc)
        have hcm1 : c ∈ g1.P x := List.mem_of_getElem? (si.out.at hc)
        have hcn1 := si.out.j.s.l.sub x (by omega) c hcm1
        have hcn : c < g.nx := by rw [← si.out.sm.nx]; exact hcn1
        have c5 := si.out.j.s.l.k5 hcn1
        rw [si.out.sm.cb, si.out.sm.gn] at c5
        have hlt' : (a : Int) < Q.length := by omega
        cases hg : g.gn c
        · rw [hg] at c5
          have hg1 : g1.gn c = false := by rw [si.out.sm.gn]; exact hg
          obtain ⟨y, hy⟩ : ∃ y, besideF g1 c x = y := ⟨_, rfl⟩
          have hmv : c ∈ (g1.vir x (T ++ Q.drop a)).P x := by rw [vir_P, drop_cons hc]; simp
          obtain ⟨y0, yx, yl, xl, _, hab⟩ := si.out.iv.two (y := y) hx hmv hcn1 hg1 hy
          obtain ⟨m, rfl⟩ := Int.eq_ofNat_of_zero_le y0
          have ry := si.out.iv.rg c hcn1 hg1 _ yl
          have hml : m < 2 * kw.n := by omega
          have hmx : (m : Int) ≤ 9223372036854775807 := by omega
          have hmu : m / 2 < kw.n := by omega
          have hxu : x / 2 < kw.n := by omega
          have HY := hid hy
          have HRG : Hid (∀ z ∈ g1.lt c, 0 ≤ z ∧ z < 2 * kw.n) := hid (fun z hz => si.out.iv.rg c hcn1 hg1 z hz)
          have HFR : Hid (g1.fr c < (g1.lt c).length ∨ g1.lt c = []) := hid (si.out.iv.fr c hcn1 hg1)
          have hd1 := len_lt hdl si.out.ex
          have hd2 : (g.dn : Int) < L1.length := by omega
          have HSM := hid (si.out.small hnx (by omega))
          have HYL : Hid ((m : Int) ∈ g.lt c) := hid (by rw [← si.out.sm.lt]; exact yl)
          have plx : Hid (g1.pl (x / 2) = g.dn) := hid (by
            have := si.out.iv.pl _ _ HQ1.out
            rw [vl_not (by omega)] at this
            exact this)
          have hTl : T.length < Q.length := by omega
          have hsu1 : sumL kw.n g1.P ≤ 500000000000 := by have := si.out.su; omega
          have ROW0 := hid (si.out.row hx HEV.out)
          clear hc hy y0 yl xl hab hmv ry hcm1
          rcases val_cases (L := L1) (m : Int) with hv | ⟨hv, _, r, hr⟩ | ⟨hv, _, _⟩
          · have HV := hid hv
            have HV0 : Hid (valueF L1 (m : Int) ≤ 0) := hid (by omega)
            clear hv
            go_wp2_with (first
              | (go_at_call 116; have T0 := move_seek_ex si.out.j hcn1 hg1 x m HY.out hmx HRG.out HFR.out HSM.out HV0.out; rw [si.out.sm.cb] at T0; with_reducible (refine T0.mono ?_); rintro e w2 (⟨f, rfl, hsx, hno, hf, J2, F2⟩ | ⟨f, z, v, rfl, hsx, hz, J2, F2⟩); have E2 := hid (from_or hf.out); have ROW := hid (si.out.row2 hx HEV.out J2.out E2.out))
              | (at_builtin; refine append_pstay (w1 := w2) (cb := g.cb) rfl _ _ rfl c rfl (g1.P x) rfl ROW.out hTl _ rfl rfl ?_; intro w3 own3 gr3; have S3 := si.out.stay2_ex hx HC.out J2.out F2.out E2.out HEV.out own3.out gr3.out; obtain ⟨g3, S3, hb3, hp3, he3⟩ := S3; have HB3 := hid ((hb3.out x).trans HY.out); have hc3 := hid (show c < g3.nx by rw [S3.out.sm.nx]; exact hcn); have hg3 := hid (show g3.gn c = false by rw [S3.out.sm.gn]; exact hg))
              | (go_at_call 117; have T0 := beside_is S3.out.j.s.l hc3.out hg3.out x m HB3.out; rw [S3.out.sm.cb] at T0; with_reducible (refine T0.mono ?_); rintro e w3 ⟨rfl, rfl⟩)
              | (go_at_call 114; have T0 := follow_new S3.out.j hc3.out hg3.out m (m / 2) rfl hmu HV.out; rw [S3.out.sm.cb] at T0; with_reducible (refine T0.mono ?_); rintro e w4 ⟨rfl, p4, J4, F4⟩; have S4 := hid (S3.out.new hdl hcn hg HYL.out rfl HV.out (fun y hy hne => hno.out y (by rw [si.out.sm.lt]; exact hy) hne) J4.out F4.out); have HP1 := hid (S4.out.ply (r := L1.length) len_last); have HP2 := hid (S4.out.plx HQ.out))
              | (go_at_call 118; have T0 := place_is S4.out.j.s m (m / 2) rfl hmu; rw [HP1.out] at T0; with_reducible (refine T0.mono ?_); rintro e w5 ⟨rfl, b5⟩; have S5 := hid (S4.out.below b5.out))
              | (go_at_call 118; have T0 := place_is S5.out.j.s x (x / 2) rfl hxu; rw [HP2.out] at T0; with_reducible (refine T0.mono ?_); rintro e w6 ⟨rfl, b6⟩; have S6 := hid (S5.out.below b6.out))
              | (go_at_call 115; have T0 := lean_is S6.out.j.s hc3.out m (m / 2) rfl hmu (S6.out.leans hsu hlt hQn hnx hmu); rw [S6.out.sm.cb] at T0; with_reducible (refine T0.mono ?_); rintro e w7 ⟨rfl, v7, s7, f7⟩))
            · have S8 := S6.out.lean hx hcn hg HB3.out rfl hmu (S6.out.ex.at HQ.out) len_last s7.out f7.out
              refine ⟨⟨a + 1, T ++ [c], none, _, _, _, by simp, by go_num, by omega, .inl ⟨rfl, rfl⟩, hid S8, hid (se.out.new HC.out hg1 HY.out HV.out hsx.out he3.out hx _)⟩, by simp only [intOf]; omega⟩
            · have S8 := si.out.moved hx HC.out hcn hg HY.out HQ1.out hz.out J2.out F2.out
              refine ⟨⟨a + 1, T, none, _, _, _, rfl, by go_num, by omega, .inl ⟨rfl, rfl⟩, hid S8, hid (se.out.moved HC.out hg1 HY.out HV0.out hsx.out (si.out.apart HQ1.out hz.out.2.2.2) _)⟩, by simp only [intOf]; omega⟩
          · have HV := hid hv
            have HR := hid hr
            clear hv hr
            by_cases hrd : g.dn < r
            · have hrd' : (g.dn : Int) < r := by omega
              go_wp2_with (first
                | (go_at_call 116; have T0 := move_held si.out.j hcn1 hg1 x m HY.out hmx HRG.out HFR.out HSM.out HV.out; rw [si.out.sm.cb] at T0; with_reducible (refine T0.mono ?_); rintro e w2 ⟨rfl, b2⟩; have J2 := hid (si.out.j.below b2.out); have ROW := hid (si.out.row2 hx HEV.out J2.out (self_or g1 c)))
                | (at_builtin; refine append_pstay (w1 := w2) (cb := g.cb) rfl _ _ rfl c rfl (g1.P x) rfl ROW.out hTl _ rfl rfl ?_; intro w3 own3 gr3; have S3 := si.out.stay2_ex hx HC.out J2.out (FW.below b2.out) (self_or g1 c) HEV.out own3.out gr3.out; obtain ⟨g3, S3, hb3, hp3, he3⟩ := S3; have HB3 := hid ((hb3.out x).trans HY.out); have hc3 := hid (show c < g3.nx by rw [S3.out.sm.nx]; exact hcn); have hg3 := hid (show g3.gn c = false by rw [S3.out.sm.gn]; exact hg))
                | (go_at_call 117; have T0 := beside_is S3.out.j.s.l hc3.out hg3.out x m HB3.out; rw [S3.out.sm.cb] at T0; with_reducible (refine T0.mono ?_); rintro e w3 ⟨rfl, rfl⟩)
                | (go_at_call 114; have T0 := follow_held S3.out.j hc3.out (m : Int) hmx HV.out; rw [S3.out.sm.cb] at T0; with_reducible (refine T0.mono ?_); rintro e w4 ⟨rfl, b4⟩; have S4 := hid (S3.out.below b4.out); have HP1 := hid (S4.out.ply HR.out); have HP2 := hid (S4.out.plx HQ.out))
                | (go_at_call 118; have T0 := place_is S4.out.j.s m (m / 2) rfl hmu; rw [HP1.out] at T0; with_reducible (refine T0.mono ?_); rintro e w5 ⟨rfl, b5⟩; have S5 := hid (S4.out.below b5.out))
                | (go_at_call 118; have T0 := place_is S5.out.j.s x (x / 2) rfl hxu; rw [HP2.out] at T0; with_reducible (refine T0.mono ?_); rintro e w6 ⟨rfl, b6⟩; have S6 := hid (S5.out.below b6.out))
                | (go_at_call 115; have T0 := lean_is S6.out.j.s hc3.out m (m / 2) rfl hmu (S6.out.leans hsu hlt hQn hnx hmu); rw [S6.out.sm.cb] at T0; with_reducible (refine T0.mono ?_); rintro e w7 ⟨rfl, v7, s7, f7⟩))
              have S8 := S6.out.lean hx hcn hg HB3.out rfl hmu (S6.out.ex.at HQ.out) HR.out s7.out f7.out
              refine ⟨⟨a + 1, T ++ [c], none, _, _, _, by simp, by go_num, by omega, .inl ⟨rfl, rfl⟩, hid S8, hid (se.out.lean HC.out hg1 HY.out HV.out he3.out (by rw [plx.out, ← hp3.out, HP1.out]; omega) hx _)⟩, by simp only [intOf]; omega⟩
            · have hrd' : ¬ (g.dn : Int) < r := by omega
              have hrdd : decide (g.dn < r) = false := by simpa using hrd
              go_wp2_with (first
                | (go_at_call 116; have T0 := move_held si.out.j hcn1 hg1 x m HY.out hmx HRG.out HFR.out HSM.out HV.out; rw [si.out.sm.cb] at T0; with_reducible (refine T0.mono ?_); rintro e w2 ⟨rfl, b2⟩; have J2 := hid (si.out.j.below b2.out); have ROW := hid (si.out.row2 hx HEV.out J2.out (self_or g1 c)))
                | (at_builtin; refine append_pstay (w1 := w2) (cb := g.cb) rfl _ _ rfl c rfl (g1.P x) rfl ROW.out hTl _ rfl rfl ?_; intro w3 own3 gr3; have S3 := si.out.stay2_ex hx HC.out J2.out (FW.below b2.out) (self_or g1 c) HEV.out own3.out gr3.out; obtain ⟨g3, S3, hb3, hp3, he3⟩ := S3; have HB3 := hid ((hb3.out x).trans HY.out); have hc3 := hid (show c < g3.nx by rw [S3.out.sm.nx]; exact hcn); have hg3 := hid (show g3.gn c = false by rw [S3.out.sm.gn]; exact hg))
                | (go_at_call 117; have T0 := beside_is S3.out.j.s.l hc3.out hg3.out x m HB3.out; rw [S3.out.sm.cb] at T0; with_reducible (refine T0.mono ?_); rintro e w3 ⟨rfl, rfl⟩)
                | (go_at_call 114; have T0 := follow_held S3.out.j hc3.out (m : Int) hmx HV.out; rw [S3.out.sm.cb] at T0; with_reducible (refine T0.mono ?_); rintro e w4 ⟨rfl, b4⟩; have S4 := hid (S3.out.below b4.out); have HP1 := hid (S4.out.ply HR.out); have HP2 := hid (S4.out.plx HQ.out))
                | (go_at_call 118; have T0 := place_is S4.out.j.s m (m / 2) rfl hmu; rw [HP1.out] at T0; with_reducible (refine T0.mono ?_); rintro e w5 ⟨rfl, b5⟩; have S5 := hid (S4.out.below b5.out))
                | (go_at_call 118; have T0 := place_is S5.out.j.s x (x / 2) rfl hxu; rw [HP2.out] at T0; with_reducible (refine T0.mono ?_); rintro e w6 ⟨rfl, b6⟩; have S6 := hid (S5.out.below b6.out)))
              have S8 := S6.out.done hx hcn hg HB3.out (S6.out.ex.at HQ.out) HR.out (by omega)
              refine ⟨⟨a + 1, T ++ [c], none, _, _, _, by simp, by go_num, by omega, .inl ⟨rfl, rfl⟩, hid S8, hid (se.out.held HC.out hg1 HY.out HV.out he3.out (by rw [plx.out, ← hp3.out, HP1.out]; omega))⟩, by simp only [intOf]; omega⟩
          · have HV := hid hv
            have HV0 : Hid (valueF L1 (m : Int) ≤ 0) := hid (by omega)
            clear hv
            go_wp2_with (first
              | (go_at_call 116; have T0 := move_seek_ex si.out.j hcn1 hg1 x m HY.out hmx HRG.out HFR.out HSM.out HV0.out; rw [si.out.sm.cb] at T0; with_reducible (refine T0.mono ?_); rintro e w2 (⟨f, rfl, hsx, hno, hf, J2, F2⟩ | ⟨f, z, v, rfl, hsx, hz, J2, F2⟩); have E2 := hid (from_or hf.out); have ROW := hid (si.out.row2 hx HEV.out J2.out E2.out))
              | (at_builtin; refine append_pstay (w1 := w2) (cb := g.cb) rfl _ _ rfl c rfl (g1.P x) rfl ROW.out hTl _ rfl rfl ?_; intro w3 own3 gr3; have S3 := si.out.stay2_ex hx HC.out J2.out F2.out E2.out HEV.out own3.out gr3.out; obtain ⟨g3, S3, hb3, hp3, he3⟩ := S3; have HB3 := hid ((hb3.out x).trans HY.out); have hc3 := hid (show c < g3.nx by rw [S3.out.sm.nx]; exact hcn); have hg3 := hid (show g3.gn c = false by rw [S3.out.sm.gn]; exact hg))
              | (go_at_call 117; have T0 := beside_is S3.out.j.s.l hc3.out hg3.out x m HB3.out; rw [S3.out.sm.cb] at T0; with_reducible (refine T0.mono ?_); rintro e w3 ⟨rfl, rfl⟩)
              | (go_at_call 114; have T0 := follow_no S3.out.j hc3.out (m : Int) hmx HV.out; rw [S3.out.sm.cb] at T0; with_reducible (refine T0.mono ?_); rintro e w4 ⟨rfl, b4⟩; have S4 := hid (S3.out.below b4.out)))
            · have S8 := S4.out.bad hcn hg (fun y hy => by
                by_cases e : y = m
                · rw [e]; exact HV.out
                · exact (val_neg (hno.out y (by rw [si.out.sm.lt]; exact hy) e)).1)
              refine ⟨⟨a + 1, T ++ [c], some c, _, _, _, by simp, by go_num, by omega, .inr ⟨c, rfl, rfl⟩, hid S8, hid (se.out.bad HC.out hg1 HY.out HV.out hsx.out he3.out)⟩, by simp only [intOf]; omega⟩
            · have S8 := si.out.moved hx HC.out hcn hg HY.out HQ1.out hz.out J2.out F2.out
              refine ⟨⟨a + 1, T, none, _, _, _, rfl, by go_num, by omega, .inl ⟨rfl, rfl⟩, hid S8, hid (se.out.moved HC.out hg1 HY.out HV0.out hsx.out (si.out.apart HQ1.out hz.out.2.2.2) _)⟩, by simp only [intOf]; omega⟩
        · rw [hg] at c5
          have S8 := hid (si.out.gone hx hc hg)
          clear hc
          go_wp2
          refine ⟨⟨a + 1, T, none, _, _, _, rfl, by go_num, by omega, .inl ⟨rfl, rfl⟩, S8, hid (se.out.gone HC.out (by rw [si.out.sm.gn]; exact hg))⟩, by simp only [intOf]; omega⟩
      · obtain ⟨M, hM⟩ : ∃ M, T.length + (Q.length - a) = M := ⟨_, rfl⟩
        have HM := hid hM
        have hMl : M ≤ Q.length := by omega
        have hi1 : (a : Int) ≤ Q.length := by omega
        have hi2 : (a : Int) ≤ cap := by omega
        have hi3 : (M : Int) ≤ Q.length := by omega
        have hi4 : (M : Int) ≤ cap := by omega
        by_cases h1 : cap = a
        · subst h1
          by_cases h2 : cap = M
          · subst h2
            obtain ⟨w2, w3, r1, r2, q0, q1, q2, s6, F6⟩ := si.out.rest hx HEV.out rfl hM ⟨b, off, none⟩ ⟨b, off, none⟩ 0 0 (fun h => by omega) (fun h => by omega)
            have hz : Q.length - cap = 0 := by omega
            rw [hz] at r1 r2
            clear hM hMl hz
            have R1 := hid r1
            clear r1
            go_wp2_with (at_builtin; refine append_run rfl _ _ rfl rfl rfl R1.out ?_)
            all_goals go_ret
            all_goals exact si.out.fin_ex (m' := 0) hx hQn HQ1.out s6.out F6.out (fun _ => by omega) HQQ.out se.out (.inl ⟨rfl, rfl⟩)
          · obtain ⟨w2, w3, r1, r2, q0, q1, q2, s6, F6⟩ := si.out.rest hx HEV.out rfl hM ⟨b, off, none⟩ ⟨b, off + M, none⟩ 0 (cap - M) (fun h => by omega) (fun h => rfl)
            have hz : Q.length - cap = 0 := by omega
            rw [hz] at r1
            clear hM hMl hz
            have R1 := hid r1
            clear r1
            go_wp2_with (at_builtin; refine append_run rfl _ _ rfl rfl rfl R1.out ?_)
            all_goals go_ret
            all_goals exact si.out.fin_ex (m' := 0) hx hQn HQ1.out s6.out F6.out (fun _ => by omega) HQQ.out se.out (.inl ⟨rfl, rfl⟩)
        · by_cases h2 : cap = M
          · exfalso; omega
          · obtain ⟨w2, w3, r1, r2, q0, q1, q2, s6, F6⟩ := si.out.rest hx HEV.out rfl hM ⟨b, off + a, none⟩ ⟨b, off + M, none⟩ (cap - a) (cap - M) (fun h => rfl) (fun h => rfl)
            clear hM hMl
            have R1 := hid r1
            clear r1
            go_wp2_with (at_builtin; refine append_run rfl _ _ rfl rfl rfl R1.out ?_)
            all_goals go_ret
            all_goals exact si.out.fin_ex (m' := 0) hx hQn HQ1.out s6.out F6.out (fun _ => by omega) HQQ.out se.out (.inl ⟨rfl, rfl⟩)
    · obtain ⟨M, hM⟩ : ∃ M, T.length + (Q.length - a) = M := ⟨_, rfl⟩
      have HM := hid hM
      have hMl : M ≤ Q.length := by omega
      have hi1 : (a : Int) ≤ Q.length := by omega
      have hi2 : (a : Int) ≤ cap := by omega
      have hi3 : (M : Int) ≤ Q.length := by omega
      have hi4 : (M : Int) ≤ cap := by omega
      by_cases h1 : cap = a
      · subst h1
        by_cases h2 : cap = M
        · subst h2
          obtain ⟨w2, w3, r1, r2, q0, q1, q2, s6, F6⟩ := si.out.rest hx HEV.out rfl hM ⟨b, off, none⟩ ⟨b, off, none⟩ 0 0 (fun h => by omega) (fun h => by omega)
          have hz : Q.length - cap = 0 := by omega
          rw [hz] at r1 r2
          clear hM hMl hz
          have R1 := hid r1
          clear r1
          go_wp2_with (at_builtin; refine append_run rfl _ _ rfl rfl rfl R1.out ?_)
          all_goals go_ret
          all_goals exact si.out.fin_ex (m' := 0) hx hQn HQ1.out s6.out F6.out (fun h => by cases h) HQQ.out se.out (.inr ⟨cbad, rfl, rfl⟩)
        · obtain ⟨w2, w3, r1, r2, q0, q1, q2, s6, F6⟩ := si.out.rest hx HEV.out rfl hM ⟨b, off, none⟩ ⟨b, off + M, none⟩ 0 (cap - M) (fun h => by omega) (fun h => rfl)
          have hz : Q.length - cap = 0 := by omega
          rw [hz] at r1
          clear hM hMl hz
          have R1 := hid r1
          clear r1
          go_wp2_with (at_builtin; refine append_run rfl _ _ rfl rfl rfl R1.out ?_)
          all_goals go_ret
          all_goals exact si.out.fin_ex (m' := 0) hx hQn HQ1.out s6.out F6.out (fun h => by cases h) HQQ.out se.out (.inr ⟨cbad, rfl, rfl⟩)
      · by_cases h2 : cap = M
        · subst h2
          obtain ⟨w2, w3, r1, r2, q0, q1, q2, s6, F6⟩ := si.out.rest hx HEV.out rfl hM ⟨b, off + a, none⟩ ⟨b, off, none⟩ (cap - a) 0 (fun h => rfl) (fun h => by omega)
          have hz : Q.length - cap = 0 := by omega
          rw [hz] at r2
          clear hM hMl hz
          have R1 := hid r1
          clear r1
          go_wp2_with (at_builtin; refine append_run rfl _ _ rfl rfl rfl R1.out ?_)
          all_goals go_ret
          all_goals exact si.out.fin_ex (m' := 0) hx hQn HQ1.out s6.out F6.out (fun h => by cases h) HQQ.out se.out (.inr ⟨cbad, rfl, rfl⟩)
        · obtain ⟨w2, w3, r1, r2, q0, q1, q2, s6, F6⟩ := si.out.rest hx HEV.out rfl hM ⟨b, off + a, none⟩ ⟨b, off + M, none⟩ (cap - a) (cap - M) (fun h => rfl) (fun h => rfl)
          clear hM hMl
          have R1 := hid r1
          clear r1
          go_wp2_with (at_builtin; refine append_run rfl _ _ rfl rfl rfl R1.out ?_)
          all_goals go_ret
          all_goals exact si.out.fin_ex (m' := 0) hx hQn HQ1.out s6.out F6.out (fun h => by cases h) HQQ.out se.out (.inr ⟨cbad, rfl, rfl⟩)

theorem strike_nil_ex (j : J k kw w g L lev p) (iv : Inv kw.n g (litsF L) (fun _ => g.dn) (fun _ => False)) (rs : Rs g L) (x : Nat) (hx : x < 2 * kw.n) (hq : (litsF L)[g.dn]? = some (U.notF x)) (ev : g.pv x = .slice none 0 0) (hP : g.P x = []) :
    Calls Tryz.prog 78 #[.pointer (some ⟨kw.OB, 0, none⟩), .pointer (some ⟨k.OB, 0, none⟩), .int .i64 x] w fun e w' => StkX k kw g L lev p x w e w' := by
  have c2 := j.s.c2
  have cx := j.s.c.wc hx
  have fx := j.s.c.wf x
  rw [ev] at cx
  have hx' : (x : Int) < 2 * kw.n := by omega
  have hkn := j.s.l.hn
  have own : PRow w g.cb (.slice none 0 0) [] := .inl ⟨rfl, rfl⟩
  have r1 : ∀ ty, (Builtin.append_ #[82, 82] ty #[.slice none 0 0, .slice none 0 0]).run Tryz.prog w = .ok (.slice none 0 0) w := fun ty => run_pnone w ty own
  have r2 := run_clear0 w 0 none 0
  obtain ⟨q0, q1, q2, s6, F6⟩ := j.s.setw hx (zs := []) (fun i hi => by simp at hi) own (by rw [ev]; exact ⟨rfl, rfl, rfl, Nat.le_refl _, fun _ _ _ => rfl⟩) (fun j hj => by simp [Value.ownBlock] at hj)
  have HE : Hid (StkX k kw g L lev p x w (.returned (.pointer none)) (w.setCell ⟨kw.WB, x, none⟩ (.slice none 0 0))) := hid (by
    refine ⟨_, L, p, j.fw F6.out s6.out rfl rfl rfl rfl, rs.as rfl rfl rfl, ⟨rfl, rfl, rfl, rfl, rfl, rfl, rfl, rfl⟩, rfl, ⟨up_ne _ _ (by omega), up_ne _ _ (by omega)⟩, Ext.refl _ _, ?_, FT.fw F6.out, .inl ⟨rfl, by rw [hP]; show (none, slotW (slotW g.pt x []) x [], L) = _; rw [slot_slot]; rfl, ?_⟩⟩
    · have : sumL kw.n (g.slot x [] (.slice none 0 0)).P = sumL kw.n g.P := sum_other (.inl hx) _ (.slice none 0 0)
      rw [this]; omega
    · have iv2 : Inv kw.n (g.slot x [] (.slice none 0 0)) (litsF L) (dT [] g.dn) (fun _ => False) := by
        refine Inv.like (g := g) (iv.mono (fun i => by simp [dT]) (fun i hi => hi)) rfl rfl rfl rfl rfl rfl ?_ rfl
        show up g.P x [] = g.P
        rw [← hP]; exact up_self _ _
      exact iv2.told hx (up_same _ _ _) hq)
  have R1 := hid r1
  clear j iv rs ev hq hP own r1 s6 F6 q0 q1 q2
  go_enter Tryz.func78, Tryz.ntmps78
  go_wp2_with (at_builtin; refine append_run rfl _ _ rfl rfl rfl R1.out ?_)
  go_loopw [8, 9, 10, 11, 12] (fun st at_ bd _ _ wr => st = .slice none 0 0 ∧ at_ = .int .i64 0 ∧ bd = .pointer none ∧ wr = w) (fun _ _ _ _ _ _ => 0)
  case atStart => exact ⟨rfl, rfl, rfl, rfl⟩
  case round =>
    obtain ⟨rfl, rfl, rfl, rfl⟩ := hrel
    go_wp2_with (at_builtin; refine append_run rfl _ _ rfl rfl rfl R1.out ?_)
    go_ret
    exact HE.out

theorem strike_ex (j : J k kw w g L lev p) (iv : Inv kw.n g (litsF L) (fun _ => g.dn) (fun _ => False)) (rs : Rs g L) (x : Nat) (hx : x < 2 * kw.n) (hq : (litsF L)[g.dn]? = some (U.notF x)) (hnx : g.nx ≤ 1000000) (hsu : sumL kw.n g.P ≤ 400000000000) :
    Calls Tryz.prog 78 #[.pointer (some ⟨kw.OB, 0, none⟩), .pointer (some ⟨k.OB, 0, none⟩), .int .i64 x] w fun e w' => StkX k kw g L lev p x w e w' := by
  rcases j.s.l.rw x (by omega) with ⟨h1, h2⟩ | ⟨b, off, cap, cur, h1, _⟩
  · exact strike_nil_ex j iv rs x hx hq h1 h2
  · exact strike_row_ex j iv rs x hx hq hnx hsu h1
end
end Go.Proofs.YtimfjoinjfecjaaGreat
