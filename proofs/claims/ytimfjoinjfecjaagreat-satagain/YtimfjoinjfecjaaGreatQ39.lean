/-
  spread, exactly.
  What a solver keeps, plainly: what is learned; what stands at a level.
-/
import Derived.Test.YtimfjoinjfecjaaGreatQ38
import Derived.Test.YtimfjoinjfecjaaGreatQ25
import Derived.Test.YtimfjoinjfecjaaGreatQ34
import Derived.Test.YtimfjoinjfecjaaGreatQ16

namespace Go.Proofs.YtimfjoinjfecjaaGreat
open Go.RowKit Go.Maps
set_option linter.unusedVariables false

def dnF (q : WP) (d : Nat) : WP := { q with dn := d }

/-- What spread makes, in m rounds at most. -/
def spF (n lev : Nat) : Nat → WP → List E → Option Nat × WP × List E
  | 0, q, L => (none, q, L)
  | m + 1, q, L => match L[q.dn]? with
    | none => (none, q, L)
    | some e => match strF n lev (U.notF e.l).toNat (q.P (U.notF e.l).toNat) [] (slotW q (U.notF e.l).toNat []) L with
      | (some c, q', L') => (some c, slotW q' (3 * n) [c], L')
      | (none, q', L') => spF n lev m (dnF q' (q'.dn + 1)) L'

section
variable {n lev x c : Nat} {g1 g2 : G} {L L' : List E} {q' : WP}
theorem sp_next (hd : g1.dn ≤ n) (he : ∃ e, L[g1.dn]? = some e ∧ U.notF e.l = x) (hs : strF n lev x (g1.P x) [] (slotW g1.pt x []) L = (none, g2.pt, L')) (h4 : g2.dn = g1.dn) : spF n lev (n + 1 - g1.dn) g1.pt L = spF n lev (n + 1 - (g2.dn + 1)) ({ g2 with dn := g2.dn + 1 } : G).pt L' := by
  obtain ⟨e, h1, h2⟩ := he
  have e1 : n + 1 - g1.dn = (n + 1 - (g2.dn + 1)) + 1 := by omega
  rw [e1, spF, show L[g1.pt.dn]? = some e from h1]
  simp only [h2, Int.toNat_natCast]
  rw [show g1.pt.P = g1.P from rfl, hs]
  rfl
theorem sp_bad (hd : g1.dn ≤ n) (he : ∃ e, L[g1.dn]? = some e ∧ U.notF e.l = x) (hs : strF n lev x (g1.P x) [] (slotW g1.pt x []) L = (some c, q', L')) : spF n lev (n + 1 - g1.dn) g1.pt L = (some c, slotW q' (3 * n) [c], L') := by
  obtain ⟨e, h1, h2⟩ := he
  have e1 : n + 1 - g1.dn = (n - g1.dn) + 1 := by omega
  rw [e1, spF, show L[g1.pt.dn]? = some e from h1]
  simp only [h2, Int.toNat_natCast]
  rw [show g1.pt.P = g1.P from rfl, hs]
theorem sp_end (hd : g1.dn ≤ n) (h : L.length ≤ g1.dn) : spF n lev (n + 1 - g1.dn) g1.pt L = (none, g1.pt, L) := by
  have e1 : n + 1 - g1.dn = (n - g1.dn) + 1 := by omega
  rw [e1, spF, show L[g1.pt.dn]? = none from List.getElem?_eq_none h]
end

section
variable {k : K} {kw : WK} {w w1 w2 : World} {g g1 : G} {L L1 : List E} {lev : Nat} {p p1 : V}

def SpX (k : K) (kw : WK) (g : G) (L : List E) (lev : Nat) (p : V) (w : World) (e : Ending) (w' : World) : Prop :=
  ∃ g' L' p', Mv k kw g L lev p w (kw.n * g.nx + 1) g' L' p' w' ∧ g'.dn ≤ L'.length ∧
    ((e = .returned (.pointer none) ∧ spF kw.n lev (kw.n + 1 - g.dn) g.pt L = (none, g'.pt, L') ∧ g'.dn = L'.length ∧ Inv kw.n g' (litsF L') (fun _ => g'.dn) (fun _ => False) ∧ g'.P (3 * kw.n) = []) ∨
     ∃ c : Nat, e = .returned (.pointer (some ⟨g.cb c, 0, none⟩)) ∧ spF kw.n lev (kw.n + 1 - g.dn) g.pt L = (some c, g'.pt, L') ∧ c < g.nx ∧ g.gn c = false ∧ (∀ y ∈ g.lt c, valueF L' y = -1) ∧ Inv kw.n g' (litsF L') (fun _ => g'.dn) (fun i => i ∈ g'.P (3 * kw.n)))

theorem StkX.out {e : Ending} {x : Nat} (h : StkX k kw g L lev p x w e w1) :
    (∃ g' L' p', e = .returned (.pointer none) ∧ Hid (J k kw w1 g' L' lev p' ∧ Rs g' L' ∧ Same g g' ∧ g'.dn = g.dn ∧ (g'.P (3 * kw.n) = g.P (3 * kw.n) ∧ g'.pv (3 * kw.n) = g.pv (3 * kw.n)) ∧ Ext L L' lev ∧ sumL kw.n g'.P ≤ sumL kw.n g.P + g.nx ∧ FT k kw.B p p' w w1 ∧ Inv kw.n g' (litsF L') (fun _ => g.dn + 1) (fun _ => False)) ∧ Hid (strF kw.n lev x (g.P x) [] (slotW g.pt x []) L = (none, g'.pt, L'))) ∨
    (∃ g' L' p' c, e = .returned (.pointer (some ⟨g.cb c, 0, none⟩)) ∧ Hid (J k kw w1 g' L' lev p' ∧ Rs g' L' ∧ Same g g' ∧ g'.dn = g.dn ∧ (g'.P (3 * kw.n) = g.P (3 * kw.n) ∧ g'.pv (3 * kw.n) = g.pv (3 * kw.n)) ∧ Ext L L' lev ∧ sumL kw.n g'.P ≤ sumL kw.n g.P + g.nx ∧ FT k kw.B p p' w w1 ∧ Inv kw.n g' (litsF L') (fun _ => g.dn) (fun i => i = c)) ∧ Hid (c < g.nx ∧ g.gn c = false ∧ ∀ y ∈ g.lt c, valueF L' y = -1) ∧ Hid (strF kw.n lev x (g.P x) [] (slotW g.pt x []) L = (some c, g'.pt, L'))) := by
  obtain ⟨g', L', p', h1, h2, h3, h4, h5, h6, h7, h8, h9⟩ := h
  rcases h9 with ⟨e1, ex, h9⟩ | ⟨c, e1, ex, c1, c2, c3, h9⟩
  · exact .inl ⟨g', L', p', e1, ⟨h1, h2, h3, h4, h5, h6, h7, h8, h9⟩, ex⟩
  · exact .inr ⟨g', L', p', c, e1, ⟨h1, h2, h3, h4, h5, h6, h7, h8, h9⟩, ⟨c1, c2, c3⟩, ex⟩

set_option maxHeartbeats 4000000 in
theorem spread_ex (j : J k kw w g L lev p) (iv : Inv kw.n g (litsF L) (fun _ => g.dn) (fun _ => False)) (rs : Rs g L) (hwa : g.P (3 * kw.n) = []) (hd : g.dn ≤ L.length) (hnx : g.nx ≤ 1000000) (hsu : sumL kw.n g.P + kw.n * g.nx ≤ 400000000000) :
    Calls Tryz.prog 49 #[.pointer (some ⟨kw.OB, 0, none⟩), .pointer (some ⟨k.OB, 0, none⟩)] w fun e w' => SpX k kw g L lev p w e w' := by
  have SI : Hid (SprI k kw g L lev p w g L p w) := hid ⟨j, rs, Same.refl g, hwa, iv, hd, Ext.refl _ _, by omega, FT.refl _ _ _ _⟩
  have hkn := j.s.l.hn
  have hnn := j.n
  clear j iv rs
  go_enter Tryz.func49, Tryz.ntmps49
  go_wp2
  go_loopw [5, 6] (fun _ _ wr => ∃ (g1 : G) (L1 : List E) (p1 : V), Hid (SprI k kw g L lev p w g1 L1 p1 wr) ∧ Hid (spF kw.n lev (kw.n + 1 - g.dn) g.pt L = spF kw.n lev (kw.n + 1 - g1.dn) g1.pt L1)) (fun _ _ wr => kw.n + 1 - dnOf kw wr)
  case atStart => exact ⟨g, L, p, SI, hid rfl⟩
  case round =>
    clear SI
    obtain ⟨g1, L1, p1, si, sx⟩ := hrel
    have c6 := si.out.j.s.c6
    have hll := si.out.len
    have hdl := si.out.dl
    have hd63 : (g1.dn : Int) + 1 ≤ 9223372036854775807 := by omega
    by_cases hlt : g1.dn < L1.length
    · have hlt' : (g1.dn : Int) < L1.length := by omega
      obtain ⟨l, hl⟩ : ∃ l, (litsF L1)[g1.dn]? = some l := ⟨_, List.getElem?_eq_getElem (by rw [litsF_len]; exact hlt)⟩
      obtain ⟨ee, hee, rfl⟩ := lits_at.1 hl
      obtain ⟨m, hm⟩ : ∃ m, ee.l = m := ⟨_, rfl⟩
      rw [hm] at hl
      have hmn : m / 2 < kw.n := by
        have := si.out.j.t.lits_lt ee (List.mem_of_getElem? hee)
        unfold vr at this
        rw [hm] at this
        omega
      have rowt := (si.out.j.t.told).row
      obtain ⟨b, off, y, ea, hcc, hy, _, _⟩ := rowt.at hlt
      have hym : y = (m : Int) := by have := hy.out; rw [hl] at this; exact (Option.some.inj this).symm
      subst hym
      have hoff : off = 0 := by
        obtain ⟨ao, n', c', e', _, _, _, _, q, _⟩ := si.out.j.t.told
        cases e'
        exact q b off ea
      subst hoff
      rw [Nat.zero_add] at hcc
      have HEA := hid ea
      have hmx : (m : Int) ≤ 9223372036854775807 := by omega
      obtain ⟨x, hx⟩ : ∃ x : Nat, U.notF (m : Int) = x := by
        have := U.not_pos (x := (m : Int)) (by omega)
        exact ⟨(U.notF (m : Int)).toNat, by omega⟩
      have HX := hid hx
      have HEE : Hid (∃ ee, L1[g1.dn]? = some ee ∧ U.notF ee.l = x) := hid ⟨ee, hee, by rw [hm]; exact hx⟩
      have hxl : x < 2 * kw.n := by
        have h1 := vl_not (x := (m : Int)) (by omega)
        rw [hx] at h1
        unfold vl at h1
        omega
      have HQX : Hid ((litsF L1)[g1.dn]? = some (U.notF x)) := hid (by
        rw [hl, ← hx, U.not_not (by omega)])
      have hn1 : Hid (g1.nx ≤ 1000000) := hid (by rw [si.out.sm.nx]; exact hnx)
      have hs1 : Hid (sumL kw.n g1.P ≤ 400000000000) := hid (by
        have h1 := si.out.su
        have h4 : g1.dn * g.nx ≤ kw.n * g.nx := Nat.mul_le_mul_right _ (by omega)
        omega)
      have HLEN := hid (rfl : L1.length = L1.length)
      clear hl hee hm hx rowt hy
      have TN : ∀ n, Trl k (wr.drewN n) L1 lev p1 := fun n => si.out.j.t.below (drewN_any _ wr n)
      have TNN := hid TN
      clear TN
      go_wp2
      go_quiet ((go_at_call 50; with_reducible (refine (lits_ad (TNN.out _) rfl HEA.out).mono ?_); rintro e w1 ⟨rfl, rfl⟩; exact ⟨rfl, _, rfl⟩))
      have S1 := hid (si.out.below (drewN_any _ wr nq))
      have hcc1 := (World.cell?_of_block (w' := wr.drewN nq) (w := wr) (a := ⟨b, g1.dn, none⟩) rfl).trans hcc
      have hdq : Hid (dnOf kw wr = g1.dn) := hid (dn_of si.out.j.s)
      revert S1 hcc1
      generalize wr.drewN nq = wq
      intro S1 hcc1
      clear TNN si c6 hcc
      have c6 := S1.out.j.s.c6
      have TN : ∀ n, Trl k (wq.drewN n) L1 lev p1 := fun n => S1.out.j.t.below (drewN_any _ wq n)
      have TNN := hid TN
      clear TN
      go_wp2
      go_quiet ((go_at_call 50; with_reducible (refine (lits_ad (TNN.out _) rfl HEA.out).mono ?_); rintro e w1 ⟨rfl, rfl⟩; exact ⟨rfl, _, rfl⟩))
      have S2 := hid (S1.out.below (drewN_any _ wq nq))
      revert S2
      generalize wq.drewN nq = wp
      intro S2
      clear TNN S1 c6 hcc1
      obtain ⟨apv, cpv, epv, _⟩ := (S2.out.j.s.l.rw (3 * kw.n) (Nat.le_refl _)).shape
      rw [S2.out.wa] at epv
      have HPV := hid epv
      clear epv
      go_wp2_with (first
        | (go_at_call 69; with_reducible (refine (has_yes S2.out.j.s m (m / 2) rfl hmn).mono ?_); rintro e w3 ⟨rfl, b3⟩; have S3 := hid (S2.out.below b3))
        | (go_at_call 79; have T0 := U.not_any (m : Int) w3 hmx; rw [HX.out] at T0; with_reducible (refine T0.mono ?_); rintro e w4 ⟨rfl, b4⟩; have S4 := hid (S3.out.below b4))
        | (go_at_call 78; with_reducible (refine (strike_ex S4.out.j S4.out.iv S4.out.rs x hxl HQX.out hn1.out hs1.out).mono ?_); intro e w5 hst; have hst2 := StkX.out hst; rcases hst2 with ⟨g2, L2, p2, rfl, H2, X2⟩ | ⟨g2, L2, p2, c, rfl, H2, hbad, X2⟩; have d6 := H2.out.1.s.c6; rw [H2.out.2.2.2.1] at d6; have f6 := H2.out.1.s.of 6; rotate_left; have d4 := H2.out.1.s.c4; rw [H2.out.2.2.2.2.1.2, HPV.out] at d4; rotate_left)
        | (at_builtin; refine append_pone (w1 := w5) (cb := g1.cb) rfl _ _ rfl c rfl _ [] rfl (spr_row H2.out S4.out.wa HPV.out) _ rfl rfl (by simp) ?_; intro v6 w6 own6 g6 new6; have f6 := own6.out.one; obtain ⟨b6, o6, p6, rfl⟩ := f6; have m6 := spr_push H2.out HPV.out hbad.out own6.out g6.out new6.out; obtain ⟨q1, q2, s6, F6⟩ := m6))
      · obtain ⟨h1, h2, h3, h4, h5, h6, h7, h8, h9⟩ := H2.out
        have SN := S4.out.next hlt h1 h2 h3 h4 h5.1 h6 h7 h8 h9
        have e1 : (g1.dn : Int) + 1 = ((g2.dn + 1 : Nat) : Int) := by omega
        rw [e1]
        have e2 : dnOf kw (w5.setCell ⟨kw.OB, 6, none⟩ (.int .i64 ((g2.dn + 1 : Nat) : Int))) = g2.dn + 1 := dn_of SN.j.s
        refine ⟨⟨_, _, _, hid SN, hid (sx.out.trans (sp_next (by omega) HEE.out X2.out h4))⟩, ?_⟩
        rw [e2, hdq.out, h4]
        omega
      · obtain ⟨h1, h2, h3, h4, h5, h6, h7, h8, h9⟩ := H2.out
        have hcb := S4.out.sm.cb
        obtain ⟨M, hdd, I⟩ := S4.out.bad hlt h1 h2 h3 h4 h6 h7 h8 h9 s6.out F6.out
        go_ret
        refine ⟨_, _, _, M, hdd, .inr ⟨c, by rw [← hcb]; rfl, sx.out.trans (sp_bad (by omega) HEE.out X2.out), by rw [← S4.out.sm.nx]; exact hbad.out.1, by rw [← S4.out.sm.gn]; exact hbad.out.2.1, by rw [← S4.out.sm.lt]; exact hbad.out.2.2, I⟩⟩
    · have hlt' : ¬ (g1.dn : Int) < L1.length := by omega
      have hde : decide (g1.dn < L1.length) = false := by simpa using hlt
      have TN : ∀ n, Trl k (wr.drewN n) L1 lev p1 := fun n => si.out.j.t.below (drewN_any _ wr n)
      have TNN := hid TN
      clear TN
      go_wp2
      go_quiet ((go_at_call 50; with_reducible (refine (lits_det (TNN.out _) rfl).mono ?_); rintro e w1 ⟨rfl, rfl⟩; exact ⟨rfl, _, rfl⟩))
      have S1 := hid (si.out.below (drewN_any _ wr nq))
      revert S1
      generalize wr.drewN nq = wq
      intro S1
      clear TNN si c6
      go_wp2
      go_ret
      exact ⟨g1, L1, p1, S1.out.mv, S1.out.dl, .inl ⟨rfl, sx.out.trans (sp_end (by omega) (by omega)), by omega, S1.out.iv, S1.out.wa⟩⟩
end
end Go.Proofs.YtimfjoinjfecjaaGreat

namespace Go.Proofs.YtimfjoinjfecjaaGreat
open Go.RowKit
set_option linter.unusedVariables false

section
variable {k : K} {w : World} {L : List E} {lev : Nat} {p : V} {cls : List (List Int)}

/-- What holds along a trail whose literals were decided, or follow. -/
structure Tl (L : List E) (cls : List (List Int)) : Prop where
  rs : ∀ (q : Nat) (e : E), L[q]? = some e → 0 ≤ e.r → ∃ (c : Nat) (cl : List Int), e.r = c ∧ cls[c]? = some cl ∧ (e.l : Int) ∈ cl ∧ ∀ y ∈ cl, y ≠ e.l → 0 ≤ y ∧ ∃ r : Nat, r < q ∧ (litsF L)[r]? = some (U.notF y)
  dc : ∀ (q : Nat) (e : E), L[q]? = some e → e.r < 0 → 1 ≤ e.g ∧ ∀ (q' : Nat) (e' : E), q' < q → L[q']? = some e' → e'.g < e.g

theorem Trl.mono (t : Trl k w L lev p) : (∀ (j j' : Nat) (e e' : E), j ≤ j' → L[j]? = some e → L[j']? = some e' → e.g ≤ e'.g) ∧ ∀ e ∈ L, e.g ≤ lev := by
  obtain ⟨F, S, s, g, rfl⟩ := t
  refine ⟨fun j j' e e' hj he he' => ?_, g.lv⟩
  by_cases c : e.g ≤ e'.g
  · exact c
  · exfalso
    have h1 := g.lv e (List.mem_of_getElem? he)
    obtain ⟨s0, hs⟩ : ∃ s0, S[e'.g]? = some s0 := ⟨_, List.getElem?_eq_getElem (by omega)⟩
    obtain ⟨_, _, h4⟩ := g.cut e'.g s0 hs
    have h5 := (h4 j' e' he').1 (Nat.le_refl _)
    have h6 := (h4 j e he).2 (by omega)
    omega

theorem Trl.cx (t : Trl k w L lev p) (h : Tl L cls) : Cx k.n lev L cls := ⟨t.nd, t.lits_lt, t.mono.1, t.mono.2, h.rs, h.dc⟩

theorem val_take (hnd : ND L) {j s : Nat} {e : E} (he : L[j]? = some e) : (j < s → valueF (L.take s) (U.notF e.l) = -1) ∧ (s ≤ j → valueF (L.take s) (U.notF e.l) = 0) := by
  have h0 : (0 : Int) ≤ U.notF e.l := by
    unfold U.notF
    rw [if_neg (by omega)]
    split <;> omega
  refine ⟨fun hj => val_of (take_nd hnd s) (by rw [List.getElem?_take_of_lt hj]; exact he), fun hj => ?_⟩
  have hv : ((U.notF e.l) / 2 : Int) = (vr e : Int) := by
    unfold U.notF vr
    rw [if_neg (by omega)]
    split <;> omega
  unfold valueF
  rw [if_neg (by omega), hv, at_none.2]
  intro a ha hc
  obtain ⟨i, hi⟩ := List.mem_iff_getElem?.1 ha
  have hil := (List.getElem?_eq_some_iff.1 hi).1
  rw [List.length_take] at hil
  rw [List.getElem?_take_of_lt (by omega)] at hi
  have := nd_one hnd hi he (by omega)
  omega

/-- Behind Back. -/
theorem Trl.backs (t : Trl k w L lev p) {b : Nat} (hb : b < lev) {j : Nat} {e : E} (he : L[j]? = some e) : (e.g ≤ b → valueF (backL L lev b) (U.notF e.l) = -1) ∧ (b < e.g → valueF (backL L lev b) (U.notF e.l) = 0) := by
  have hnd := t.nd
  obtain ⟨F, S, s, g, rfl⟩ := t
  obtain ⟨s0, hs⟩ : ∃ s0, S[b]? = some s0 := ⟨_, List.getElem?_eq_getElem hb⟩
  rw [(g.back_yes hs).1]
  obtain ⟨_, _, h4⟩ := g.cut b s0 hs
  have h5 := h4 j e he
  obtain ⟨v1, v2⟩ := val_take (s := s0) hnd he
  exact ⟨fun h => v1 (h5.1 h), fun h => v2 (by
    by_cases c : j < s0
    · have := h5.2 c; omega
    · omega)⟩

/-- All that is asked of what is learned. -/
structure Lf (n : Nat) (L : List E) (lev : Nat) (cls : List (List Int)) (x : Nat) (es : List Int) (b : Nat) : Prop where
  bk : backF L es = b
  lt : b < lev
  stp : U.Stp cls (U.notF x :: es)
  v0 : valueF L (U.notF x) = -1
  l0 : levelF L (vl (U.notF x) : Nat) = lev
  vs : ∀ y ∈ es, valueF L y = -1 ∧ ∃ ll : Nat, levelF L (vl y : Nat) = ll ∧ 1 ≤ ll ∧ ll ≤ b
  w0 : valueF (backL L lev b) (U.notF x) = 0
  ws : ∀ y ∈ es, valueF (backL L lev b) y = -1
  nn : ∀ y ∈ U.notF x :: es, 0 ≤ y ∧ y < 2 * (n : Int)
  at_ : ∀ y ∈ U.notF x :: es, ∃ (j : Nat) (e : E), L[j]? = some e ∧ y = U.notF e.l ∧ 1 ≤ e.g
  x0 : ∃ (j : Nat) (e : E), L[j]? = some e ∧ e.l = x ∧ e.g = lev
  e0 : es = [] ∨ ∃ y ∈ es, ∃ (j : Nat) (e : E), L[j]? = some e ∧ y = U.notF e.l ∧ e.g = b

theorem learn_facts (t : Trl k w L lev p) (h : Tl L cls) (hl1 : 1 ≤ lev) {c : Nat} {cl : List Int} (hc : cls[c]? = some cl) (hv : ∀ y ∈ cl, valueF L y = -1) (hx : ∃ y ∈ cl, levelF L (vl y : Nat) = lev) :
    ∃ x s1, learnP L lev cls c = some (x, s1) ∧ ∀ es : List Int, es.Perm s1.oth → Fall L es → ∃ b, Lf k.n L lev cls x es b := by
  have cx := t.cx h
  have hkn := t.len
  obtain ⟨j, e, s1, j1, j2, j3, j4, j5⟩ := learn_ok cx hl1 hc hv hx
  refine ⟨e.l, s1, j3, fun es hp hf => ?_⟩
  have hmem : ∀ y ∈ es, ∃ (j : Nat) (e : E), L[j]? = some e ∧ y = U.notF e.l ∧ 1 ≤ e.g ∧ e.g < lev := fun y hy => j4 y (hp.mem_iff.1 hy)
  have hlv : ∀ (i : Nat) (a : E), L[i]? = some a → levelF L (vl (U.notF a.l) : Nat) = a.g := fun i a ha => by rw [vl_lit, level_of cx.nd ha]
  obtain ⟨b, hb, hblt⟩ : ∃ b : Nat, backF L es = b ∧ b < lev := by
    cases es with
    | nil => exact ⟨0, rfl, by omega⟩
    | cons y es =>
      obtain ⟨i, a, ha, rfl, h1, h2⟩ := hmem y (by simp)
      exact ⟨a.g, hlv i a ha, h2⟩
  have hle : ∀ y ∈ es, ∀ (i : Nat) (a : E), L[i]? = some a → y = U.notF a.l → a.g ≤ b := by
    intro y hy i a ha hya
    cases es with
    | nil => cases hy
    | cons y0 es =>
      have h0 : levelF L (vl y0 : Nat) = b := hb
      have h1 : levelF L (vl y : Nat) = a.g := by rw [hya]; exact hlv i a ha
      rcases List.mem_cons.1 hy with rfl | hy
      · omega
      · have := (List.pairwise_cons.1 hf).1 y hy
        omega
  have hpos : ∀ (a : E), vr a < k.n → (0 : Int) ≤ U.notF a.l ∧ U.notF a.l < 2 * (k.n : Int) := fun a ha => by
    unfold vr at ha
    unfold U.notF
    rw [if_neg (by omega)]
    split <;> omega
  refine ⟨b, hb, hblt, ?_, val_of cx.nd j1, by rw [hlv j e j1, j2], fun y hy => ?_, (t.backs hblt j1).2 (by omega), fun y hy => ?_, fun y hy => ?_, fun y hy => ?_, ⟨j, e, j1, rfl, j2⟩, ?_⟩
  · refine j5 ((U.notF e.l :: es).map U.notF) (fun x hx => ?_) ?_ (fun a ha hg => ?_)
    · obtain ⟨i, a, ha, rfl, _⟩ := j4 x hx
      have hp0 := hpos a (cx.lt a (List.mem_of_getElem? ha))
      refine U.Der.base (List.mem_map.2 ⟨_, List.mem_cons_of_mem _ (hp.mem_iff.2 hx), rfl⟩) ?_
      rw [U.not_not (by omega)]; omega
    · refine U.Der.base (List.mem_map.2 ⟨_, List.mem_cons_self, ?_⟩) (by omega)
      rw [U.not_not (by omega)]
    · obtain ⟨i, hi⟩ := List.mem_iff_getElem?.1 ha
      exact der_zero cx _ i a hi hg
  · obtain ⟨i, a, ha, rfl, h1, h2⟩ := hmem y hy
    exact ⟨val_of cx.nd ha, a.g, hlv i a ha, h1, hle _ hy i a ha rfl⟩
  · obtain ⟨i, a, ha, rfl, h1, h2⟩ := hmem y hy
    exact (t.backs hblt ha).1 (hle _ hy i a ha rfl)
  · rcases List.mem_cons.1 hy with rfl | hy
    · exact hpos e (cx.lt e (List.mem_of_getElem? j1))
    · obtain ⟨i, a, ha, rfl, h1, h2⟩ := hmem y hy
      exact hpos a (cx.lt a (List.mem_of_getElem? ha))
  · rcases List.mem_cons.1 hy with rfl | hy
    · exact ⟨j, e, j1, rfl, by omega⟩
    · obtain ⟨i, a, ha, rfl, h1, h2⟩ := hmem y hy
      exact ⟨i, a, ha, rfl, h1⟩
  · cases es with
    | nil => exact .inl rfl
    | cons y es =>
      obtain ⟨i, a, ha, rfl, h1, h2⟩ := hmem y (by simp)
      refine .inr ⟨_, List.mem_cons_self, i, a, ha, rfl, ?_⟩
      have h3 : levelF L (vl (U.notF a.l) : Nat) = b := hb
      rw [hlv i a ha] at h3
      omega
end


/-! ### What stands at a level -/
def pre (L : List E) (v : Nat) : List E := L.filter (fun e => decide (e.g ≤ v))

theorem pre_take : ∀ {L : List E} {s v : Nat}, (∀ (j : Nat) (e : E), L[j]? = some e → (e.g ≤ v ↔ j < s)) → L.take s = pre L v := by
  intro L
  induction L with
  | nil => intro s v _; simp [pre]
  | cons a L ih =>
    intro s v h
    have h0 := h 0 a rfl
    cases s with
    | zero =>
      have : pre (a :: L) v = [] := by
        unfold pre
        rw [List.filter_eq_nil_iff]
        intro e he
        obtain ⟨j, hj⟩ := List.mem_iff_getElem?.1 he
        have := h j e hj
        simp; omega
      rw [this]; rfl
    | succ s =>
      have h1 : a.g ≤ v := h0.2 (by omega)
      have h2 := ih (s := s) (v := v) (fun j e he => by have := h (j + 1) e (by simpa using he); omega)
      rw [List.take_succ_cons, h2]
      unfold pre
      rw [List.filter_cons_of_pos (by simpa using h1)]

theorem pre_mem {L : List E} {v : Nat} {e : E} : e ∈ pre L v ↔ e ∈ L ∧ e.g ≤ v := by unfold pre; rw [List.mem_filter]; simp
theorem pre_app {L M : List E} {v : Nat} (h : ∀ e ∈ M, v < e.g) : pre (L ++ M) v = pre L v := by
  unfold pre
  rw [List.filter_append]
  have : M.filter (fun e => decide (e.g ≤ v)) = [] := by
    rw [List.filter_eq_nil_iff]
    intro e he
    have := h e he
    simp; omega
  rw [this, List.append_nil]
theorem pre_all {L : List E} {v : Nat} (h : ∀ e ∈ L, e.g ≤ v) : pre L v = L := by
  unfold pre
  rw [List.filter_eq_self]
  intro e he
  simpa using h e he
theorem pre_pre {L : List E} {v b : Nat} (h : v ≤ b) : pre (pre L b) v = pre L v := by
  unfold pre
  rw [List.filter_filter]
  congr 1
  funext e
  by_cases c : e.g ≤ v
  · simp [c]; omega
  · simp [c]
theorem pre_nd {L : List E} (h : ND L) (v : Nat) : ND (pre L v) := by
  unfold ND at h ⊢
  exact h.sublist ((List.filter_sublist).map vr)

section
variable {k : K} {w : World} {L : List E} {lev : Nat} {p : V} {cls cls' : List (List Int)}

theorem Trl.back_pre (t : Trl k w L lev p) {b : Nat} (hb : b < lev) : backL L lev b = pre L b ∧ backV lev b = b ∧ ∀ e ∈ L, b < e.g → (vr e : Int) ∈ backG L lev b := by
  obtain ⟨F, S, s, g, rfl⟩ := t
  obtain ⟨s0, hs⟩ : ∃ s0, S[b]? = some s0 := ⟨_, List.getElem?_eq_getElem hb⟩
  obtain ⟨h1, h2, h3⟩ := g.back_yes hs
  obtain ⟨_, hx, h4⟩ := g.cut b s0 hs
  refine ⟨by rw [h1, pre_take h4], h2, fun e he hl => ?_⟩
  rw [h3]
  obtain ⟨j, hj⟩ := List.mem_iff_getElem?.1 he
  have h5 := h4 j e hj
  refine List.mem_map.2 ⟨e, ?_, rfl⟩
  rw [List.mem_reverse]
  refine List.mem_iff_getElem?.2 ⟨j - s0, ?_⟩
  rw [List.getElem?_drop, show s0 + (j - s0) = j by omega]
  exact hj

theorem val_pre (hnd : ND L) {j v : Nat} {e : E} (he : L[j]? = some e) : (e.g ≤ v → valueF (pre L v) (U.notF e.l) = -1) ∧ (v < e.g → valueF (pre L v) (U.notF e.l) = 0) := by
  have h0 : (0 : Int) ≤ U.notF e.l := U.not_pos (by omega)
  refine ⟨fun hj => ?_, fun hj => ?_⟩
  · obtain ⟨i, hi⟩ := List.mem_iff_getElem?.1 (pre_mem.2 ⟨List.mem_of_getElem? he, hj⟩)
    exact val_of (pre_nd hnd v) hi
  · have hv : ((U.notF e.l) / 2 : Int) = (vr e : Int) := by
      unfold U.notF vr
      rw [if_neg (by omega)]
      split <;> omega
    unfold valueF
    rw [if_neg (by omega), hv, at_none.2]
    intro a ha hc
    obtain ⟨h1, h2⟩ := pre_mem.1 ha
    obtain ⟨i, hi⟩ := List.mem_iff_getElem?.1 h1
    have := nd_one hnd hi he (by omega)
    subst this
    rw [he] at hi
    cases hi
    omega

/-! ### Clauses that are asked for alone -/
theorem repl_congr {s : PS} {x : Nat} (h : clF cls (reasonF L ((x / 2 : Nat) : Int)) = clF cls' (reasonF L ((x / 2 : Nat) : Int))) : replP L lev cls s x = replP L lev cls' s x := by unfold replP; rw [h]

theorem downs_congr (h : ∀ v : Nat, levelF L v = lev → clF cls (reasonF L v) = clF cls' (reasonF L v)) : ∀ (r : List Nat) (s : PS), downsP L lev cls s r = downsP L lev cls' s r := by
  intro r
  induction r with
  | nil => intro s; rfl
  | cons x r ih =>
    intro s
    have e : downP L lev cls s x = downP L lev cls' s x := by
      unfold downP
      by_cases hl : levelF L ((x / 2 : Nat) : Int) = lev
      · rw [if_pos hl, if_pos hl, repl_congr (h _ hl)]
      · rw [if_neg hl, if_neg hl]
    simp only [downsP, e]
    cases downP L lev cls' s x with
    | inl s' => exact ih s'
    | inr o => rfl

theorem learn_congr (h : ∀ v : Nat, levelF L v = lev → clF cls (reasonF L v) = clF cls' (reasonF L v)) {c : Int} (hc : clF cls c = clF cls' c) : learnP L lev cls c = learnP L lev cls' c := by
  unfold learnP
  rw [hc]
  simp only [downs_congr h]

/-! ### How many literals are learned -/
def WfS (n : Nat) : Sum PS (Option (Nat × PS)) → Prop
  | .inl s => Wf n s ∧ Mk2 s
  | .inr none => True
  | .inr (some (_, s)) => Wf n s ∧ Mk2 s

theorem down_wf {n : Nat} {s : PS} (hlt : ∀ e ∈ L, vr e < n) (h : Wf n s) (h2 : Mk2 s) (x : Nat) : WfS n (downP L lev cls s x) := by
  unfold downP
  have hp := h.pass h2 x
  split
  · split
    · split
      · exact hp
      · have hr := hp.1.repl hp.2 (L := L) (lev := lev) (cls := cls) x (fun y hy => vlA_lt hlt hy)
        split
        · exact ⟨hr.1, hr.2.2⟩
        · trivial
    · exact hp
  · trivial

theorem downs_wf {n : Nat} (hlt : ∀ e ∈ L, vr e < n) : ∀ (r : List Nat) (s : PS), Wf n s → Mk2 s → WfS n (downsP L lev cls s r) := by
  intro r
  induction r with
  | nil => intro s h h2; exact ⟨h, h2⟩
  | cons x r ih =>
    intro s h h2
    have hd := down_wf (lev := lev) (cls := cls) hlt h h2 x
    simp only [downsP]
    cases e : downP L lev cls s x with
    | inl s' => rw [e] at hd; exact ih s' hd.1 hd.2
    | inr o => rw [e] at hd; exact hd

theorem learn_wf {n : Nat} (hlt : ∀ e ∈ L, vr e < n) {c : Int} {x : Nat} {s1 : PS} (h : learnP L lev cls c = some (x, s1)) : Wf n s1 := by
  unfold learnP at h
  split at h
  · cases h
  · cases hc : clF cls c with
    | none => rw [hc] at h; cases h
    | some d =>
      rw [hc] at h
      simp only at h
      split at h
      · have hm := Wf.meets (L := L) (lev := lev) d zeroP (Wf.zero n) (fun i => by simp [zeroP]) (fun x _ hx => vlA_lt hlt hx)
        have hd := downs_wf (lev := lev) (cls := cls) hlt (L.reverse.map E.l) _ hm.1 hm.2.2
        cases e : downsP L lev cls (meetsP L lev zeroP d).2 (L.reverse.map E.l) with
        | inl s' => rw [e] at h; cases h
        | inr o =>
          rw [e] at h hd
          cases o with
          | none => cases h
          | some q =>
            cases h
            exact hd.1
      · cases h
end

end Go.Proofs.YtimfjoinjfecjaaGreat
