/-
  spread: clauses are told of all that holds.
  alike: how many literals two lists have in common.
-/
import Derived.Test.YtimfjoinjfecjaaGreatG22
import Derived.Test.YtimfjoinjfecjaaGreatG05
import Derived.LaidEqlPtr

namespace Go.Proofs.YtimfjoinjfecjaaGreat
open Go.RowKit Go.Maps
set_option linter.unusedVariables false

/-! ### Where the literals lie -/
def litA (p : V) : Option Addr := match p.l with
  | .slice ao _ _ => ao
  | _ => none

theorem lits_det {k : K} {w : World} {L : List E} {lev : Nat} {p : V} (t : Trl k w L lev p) {m : Nat} (hm : L.length = m) : Calls Tryz.prog 50 #[.pointer (some ⟨k.OB, 0, none⟩)] w fun e w' => e = .returned (.slice (litA p) m m) ∧ w' = w := by
  subst hm
  have hl := litsF_len L
  have ha : (p.l = .slice none 0 0 ∧ litsF L = []) ∨ ∃ g n cap, p.l = .slice (some ⟨g, 0, none⟩) n cap := by
    obtain ⟨F, S, s, _⟩ := id t
    rcases s.rl with h | ⟨b, cap, cur, h, _⟩
    · exact .inl h
    · exact .inr ⟨b, _, cap, h⟩
  refine (lits_is t).mono fun e w' h => ?_
  obtain ⟨ao, rfl, h, rfl⟩ := h
  obtain ⟨h1, h2⟩ := h.out
  refine ⟨?_, rfl⟩
  have e : ao = litA p := by
    unfold litA
    rcases ha with ⟨h3, h4⟩ | ⟨g, n, cap, h3⟩
    · rw [h3] at h2 ⊢
      rcases h1 with ⟨h5, _⟩ | ⟨b, cap, cur, h5, _⟩
      · exact (Value.slice.inj h5).1
      · rw [h5] at h2; simp [Value.ownBlock] at h2
    · rw [h3] at h2 ⊢
      rcases h1 with ⟨h5, _⟩ | ⟨b, cap, cur, h5, _⟩
      · rw [h5] at h2; simp [Value.ownBlock] at h2
      · rw [(Value.slice.inj h5).1] at h2 ⊢
        simp [Value.ownBlock] at h2
        rw [h2]
  rw [e]

theorem lits_ad {k : K} {w : World} {L : List E} {lev : Nat} {p : V} (t : Trl k w L lev p) {m : Nat} (hm : L.length = m) {a : Option Addr} (ha : litA p = a) : Calls Tryz.prog 50 #[.pointer (some ⟨k.OB, 0, none⟩)] w fun e w' => e = .returned (.slice a m m) ∧ w' = w := by
  subst ha; exact lits_det t hm

/-- What a trail tells. -/
theorem Trl.told {k : K} {w : World} {L : List E} {lev : Nat} {p : V} (t : Trl k w L lev p) : Told k p w (.slice (litA p) L.length L.length) (litsF L) := by
  have hb : ∀ x ∈ litsF L, 0 ≤ x ∧ x ≤ 9223372036854775807 := fun x hx => by
    obtain ⟨r, hr⟩ := List.mem_iff_getElem?.1 hx
    obtain ⟨e, he, rfl⟩ := lits_at.1 hr
    have h1 := t.lits_lt e (List.mem_of_getElem? he)
    have h2 := t.len
    unfold vr at h1
    omega
  have hlen := t.len
  obtain ⟨F, S, s, _⟩ := t
  have hl := litsF_len L
  have hf := s.fb_lt
  have hlt := s.lt
  rcases s.rl with ⟨h1, h2⟩ | ⟨b, cap, cur, h1, h2, h3, h4, h5, h6, h7⟩
  · have hL : L.length = 0 := by rw [← hl, h2]; rfl
    have ea : litA p = none := by unfold litA; rw [h1]
    rw [ea, hL, h2]
    exact Told.nil k p w
  · have ea : litA p = some ⟨b, 0, none⟩ := by unfold litA; rw [h1]
    rw [ea]
    refine ⟨_, _, _, rfl, hl, Nat.le_refl _, by unfold maxLen; omega, (fun e => by cases e), (fun b' off e => by cases e; rfl), hb, fun j x hx => ⟨b, rfl, ?_, ⟨_, _, h3⟩, ?_, ?_, ?_, ?_⟩⟩
    · have q : LRow w (k.OB + 1) (.slice (some ⟨b, 0, none⟩) (litsF L).length cap) (litsF L) := .inr ⟨b, cap, cur, rfl, h2, h3, h4, h5, h6, h7⟩
      exact q.at hx
    · omega
    · omega
    · exact s.ne b (by rw [h1]; rfl)
    · rintro ⟨n', c', e, e1, e2⟩
      rw [h1] at e
      cases e
      have := (List.getElem?_eq_some_iff.1 hx).1
      omega

def dnOf (kw : WK) (w : World) : Nat := match w.cell? ⟨kw.OB, 6, none⟩ with
  | some (.int _ i) => i.toNat
  | _ => 0

theorem dn_of {kw : WK} {w : World} {g : G} (s : St kw w g) : dnOf kw w = g.dn := by unfold dnOf; rw [s.c6]; simp

section
variable {k : K} {kw : WK} {w w1 w2 : World} {g g1 : G} {L L1 : List E} {lev : Nat} {p p1 : V}

/-- How far it is. -/
structure SprI (k : K) (kw : WK) (g : G) (L : List E) (lev : Nat) (p : V) (w : World) (g1 : G) (L1 : List E) (p1 : V) (w1 : World) : Prop where
  j : J k kw w1 g1 L1 lev p1
  rs : Rs g1 L1
  sm : Same g g1
  wa : g1.P (3 * kw.n) = []
  iv : Inv kw.n g1 (litsF L1) (fun _ => g1.dn) (fun _ => False)
  dl : g1.dn ≤ L1.length
  ex : Ext L L1 lev
  su : sumL kw.n g1.P ≤ sumL kw.n g.P + g1.dn * g.nx
  ft : FT k kw.B p p1 w w1

theorem Inv.dn_any {n : Nat} {H : List Int} {d : Nat → Nat} {X : Nat → Prop} (h : Inv n g H d X) (e : Nat) : Inv n { g with dn := e } H d X := h.like rfl rfl rfl rfl rfl rfl rfl rfl

theorem SprI.len (h : SprI k kw g L lev p w g1 L1 p1 w1) : L1.length ≤ kw.n := by have := h.j.t.len; have := h.j.n; omega

theorem SprI.below (h : SprI k kw g L lev p w g1 L1 p1 w1) (b : Below w1.heap.size w1 w2) : SprI k kw g L lev p w g1 L1 p1 w2 :=
  ⟨h.j.below b, h.rs, h.sm, h.wa, h.iv, h.dl, h.ex, h.su, h.ft.trans (FT.below b)⟩

theorem SprI.next {g2 : G} {L2 : List E} {p2 : V} (h : SprI k kw g L lev p w g1 L1 p1 w1) (hdl : g1.dn < L1.length) (j : J k kw w2 g2 L2 lev p2) (rs : Rs g2 L2) (sm : Same g1 g2) (dn : g2.dn = g1.dn) (wa : g2.P (3 * kw.n) = g1.P (3 * kw.n)) (ex : Ext L1 L2 lev) (su : sumL kw.n g2.P ≤ sumL kw.n g1.P + g1.nx) (ft : FT k kw.B p1 p2 w1 w2)
    (iv : Inv kw.n g2 (litsF L2) (fun _ => g1.dn + 1) (fun _ => False)) : SprI k kw g L lev p w { g2 with dn := g2.dn + 1 } L2 p2 (w2.setCell ⟨kw.OB, 6, none⟩ (.int .i64 ((g2.dn + 1 : Nat) : Int))) := by
  have s6 := j.s.putd (g2.dn + 1)
  have F6 : FW kw.B w2 (w2.setCell ⟨kw.OB, 6, none⟩ (.int .i64 ((g2.dn + 1 : Nat) : Int))) := FW.grown (grown_set w2 ⟨kw.OB, 6, none⟩ _) (fun i T e t => by cases e; rw [t.one ⟨_, _, j.s.c.ob⟩]; simp [Wt]) (fun i e => by cases e; exact j.s.c.lo.1)
  refine ⟨j.fw F6 s6 rfl rfl rfl rfl, rs.as rfl rfl rfl, (h.sm.trans sm).trans ⟨rfl, rfl, rfl, rfl, rfl, rfl, rfl, rfl⟩, wa.trans h.wa, ?_, ?_, h.ex.trans ex, ?_, (h.ft.trans ft).trans (FT.fw F6)⟩
  · have := iv.dn_any (g2.dn + 1)
    rw [← dn] at this
    exact this
  · show g2.dn + 1 ≤ L2.length
    have := ex.len
    omega
  · show sumL kw.n g2.P ≤ sumL kw.n g.P + (g2.dn + 1) * g.nx
    have h1 := h.su
    rw [h.sm.nx] at su
    rw [dn, Nat.add_mul]
    omega

def SpEnd (k : K) (kw : WK) (g : G) (L : List E) (lev : Nat) (p : V) (w : World) (e : Ending) (w' : World) : Prop :=
  ∃ g' L' p', Mv k kw g L lev p w (kw.n * g.nx + 1) g' L' p' w' ∧ g'.dn ≤ L'.length ∧
    ((e = .returned (.pointer none) ∧ g'.dn = L'.length ∧ Inv kw.n g' (litsF L') (fun _ => g'.dn) (fun _ => False) ∧ g'.P (3 * kw.n) = []) ∨
     ∃ c : Nat, e = .returned (.pointer (some ⟨g.cb c, 0, none⟩)) ∧ c < g.nx ∧ g.gn c = false ∧ (∀ y ∈ g.lt c, valueF L' y = -1) ∧ Inv kw.n g' (litsF L') (fun _ => g'.dn) (fun i => i ∈ g'.P (3 * kw.n)))

theorem SprI.mv (h : SprI k kw g L lev p w g1 L1 p1 w1) : Mv k kw g L lev p w (kw.n * g.nx + 1) g1 L1 p1 w1 := by
  refine ⟨h.j, h.rs, h.sm, h.ex, ?_, h.ft⟩
  have h1 := h.su
  have h2 := h.len
  have h3 := h.dl
  have h4 : g1.dn * g.nx ≤ kw.n * g.nx := Nat.mul_le_mul_right _ (by omega)
  unfold tot
  rw [h.wa]
  simp only [List.length_nil]
  omega

/-- One that does not hold waits. -/
theorem SprI.bad {g2 : G} {L2 : List E} {p2 : V} {c : Nat} {v : Value} {w3 : World} (h : SprI k kw g L lev p w g1 L1 p1 w1) (hdl : g1.dn < L1.length) (j : J k kw w2 g2 L2 lev p2) (rs : Rs g2 L2) (sm : Same g1 g2) (dn : g2.dn = g1.dn) (ex : Ext L1 L2 lev) (su : sumL kw.n g2.P ≤ sumL kw.n g1.P + g1.nx) (ft : FT k kw.B p1 p2 w1 w2)
    (iv : Inv kw.n g2 (litsF L2) (fun _ => g1.dn) (fun i => i = c)) (s : St kw w3 (g2.slot (3 * kw.n) [c] v)) (F : FW kw.B w2 w3) :
    Mv k kw g L lev p w (kw.n * g.nx + 1) (g2.slot (3 * kw.n) [c] v) L2 p2 w3 ∧ g2.dn ≤ L2.length ∧ Inv kw.n (g2.slot (3 * kw.n) [c] v) (litsF L2) (fun _ => (g2.slot (3 * kw.n) [c] v).dn) (fun i => i ∈ (g2.slot (3 * kw.n) [c] v).P (3 * kw.n)) := by
  have hP : (g2.slot (3 * kw.n) [c] v).P (3 * kw.n) = [c] := up_same _ _ _
  refine ⟨⟨j.fw F s rfl rfl rfl rfl, rs.as rfl rfl rfl, (h.sm.trans sm).trans ⟨rfl, rfl, rfl, rfl, rfl, rfl, rfl, rfl⟩, h.ex.trans ex, ?_, (h.ft.trans ft).trans (FT.fw F)⟩, ?_, ?_⟩
  · unfold tot
    rw [hP, show sumL kw.n (g2.slot (3 * kw.n) [c] v).P = sumL kw.n g2.P from sum_other (.inr (Nat.le_refl _)) _ v]
    have h1 := h.su
    have h2 := h.len
    rw [h.sm.nx] at su
    have h4 : (g1.dn + 1) * g.nx ≤ kw.n * g.nx := Nat.mul_le_mul_right _ (by omega)
    rw [Nat.add_mul] at h4
    simp only [List.length_singleton]
    omega
  · have := ex.len; omega
  · refine (iv.wait [c] v).mono (fun _ => ?_) (fun i hi => by rw [hP, hi]; simp)
    show g2.dn ≤ g1.dn
    omega

theorem StkEnd.out {e : Ending} (h : StkEnd k kw g L lev p w e w1) :
    (∃ g' L' p', e = .returned (.pointer none) ∧ Hid (J k kw w1 g' L' lev p' ∧ Rs g' L' ∧ Same g g' ∧ g'.dn = g.dn ∧ (g'.P (3 * kw.n) = g.P (3 * kw.n) ∧ g'.pv (3 * kw.n) = g.pv (3 * kw.n)) ∧ Ext L L' lev ∧ sumL kw.n g'.P ≤ sumL kw.n g.P + g.nx ∧ FT k kw.B p p' w w1 ∧ Inv kw.n g' (litsF L') (fun _ => g.dn + 1) (fun _ => False))) ∨
    (∃ g' L' p' c, e = .returned (.pointer (some ⟨g.cb c, 0, none⟩)) ∧ Hid (J k kw w1 g' L' lev p' ∧ Rs g' L' ∧ Same g g' ∧ g'.dn = g.dn ∧ (g'.P (3 * kw.n) = g.P (3 * kw.n) ∧ g'.pv (3 * kw.n) = g.pv (3 * kw.n)) ∧ Ext L L' lev ∧ sumL kw.n g'.P ≤ sumL kw.n g.P + g.nx ∧ FT k kw.B p p' w w1 ∧ Inv kw.n g' (litsF L') (fun _ => g.dn) (fun i => i = c)) ∧ Hid (c < g.nx ∧ g.gn c = false ∧ ∀ y ∈ g.lt c, valueF L' y = -1)) := by
  obtain ⟨g', L', p', h1, h2, h3, h4, h5, h6, h7, h8, h9⟩ := h
  rcases h9 with ⟨e1, h9⟩ | ⟨c, e1, c1, c2, c3, h9⟩
  · exact .inl ⟨g', L', p', e1, h1, h2, h3, h4, h5, h6, h7, h8, h9⟩
  · exact .inr ⟨g', L', p', c, e1, ⟨h1, h2, h3, h4, h5, h6, h7, h8, h9⟩, c1, c2, c3⟩

theorem spr_row {g' : G} {L' : List E} {p' : V} {X : Nat → Prop} {d : Nat → Nat} {a : Option Addr} {n c : Nat} (h : J k kw w1 g' L' lev p' ∧ Rs g' L' ∧ Same g g' ∧ g'.dn = g.dn ∧ (g'.P (3 * kw.n) = g.P (3 * kw.n) ∧ g'.pv (3 * kw.n) = g.pv (3 * kw.n)) ∧ Ext L L' lev ∧ sumL kw.n g'.P ≤ sumL kw.n g.P + g.nx ∧ FT k kw.B p p' w w1 ∧ Inv kw.n g' (litsF L') d X) (hw : g.P (3 * kw.n) = []) (hv : g.pv (3 * kw.n) = .slice a n c) : PRow w1 g.cb (.slice a n c) [] := by
  have := h.1.s.l.rw (3 * kw.n) (Nat.le_refl _)
  rw [h.2.2.2.2.1.1, h.2.2.2.2.1.2, hw, hv, h.2.2.1.cb] at this
  exact this

theorem spr_push {g' : G} {L' : List E} {p' : V} {X : Nat → Prop} {d : Nat → Nat} {a : Option Addr} {n c i : Nat} {v : Value} (h : J k kw w1 g' L' lev p' ∧ Rs g' L' ∧ Same g g' ∧ g'.dn = g.dn ∧ (g'.P (3 * kw.n) = g.P (3 * kw.n) ∧ g'.pv (3 * kw.n) = g.pv (3 * kw.n)) ∧ Ext L L' lev ∧ sumL kw.n g'.P ≤ sumL kw.n g.P + g.nx ∧ FT k kw.B p p' w w1 ∧ Inv kw.n g' (litsF L') d X) (hv : g.pv (3 * kw.n) = .slice a n c) (hi : i < g.nx ∧ g.gn i = false ∧ ∀ y ∈ g.lt i, valueF L' y = -1)
    (own : PRow w2 g.cb v ([] ++ [i])) (gr : w1.grownBy w2 (Value.slice a n c).ownBlock) (nw : Nw w1 (.slice a n c) v) :
    w2.cell? ⟨kw.OB, 4, none⟩ = some (.slice a n c) ∧ w2.frozen? ⟨kw.OB, 4, none⟩ = false ∧ Hid (St kw (w2.setCell ⟨kw.OB, 4, none⟩ v) (g'.slot (3 * kw.n) [i] v)) ∧ Hid (FW kw.B w1 (w2.setCell ⟨kw.OB, 4, none⟩ v)) := by
  have hv' := h.2.2.2.2.1.2.trans hv
  have := h.1.s.pusha (zs := [i]) (fun q hq => by rw [List.mem_singleton] at hq; rw [hq, h.2.2.1.nx]; exact hi.1) (by rw [h.2.2.1.cb]; exact own) (by rw [hv']; exact gr) (by rw [hv']; exact nw)
  rw [hv'] at this
  exact this

set_option maxHeartbeats 4000000 in
theorem spread_is (j : J k kw w g L lev p) (iv : Inv kw.n g (litsF L) (fun _ => g.dn) (fun _ => False)) (rs : Rs g L) (hwa : g.P (3 * kw.n) = []) (hd : g.dn ≤ L.length) (hnx : g.nx ≤ 1000000) (hsu : sumL kw.n g.P + kw.n * g.nx ≤ 400000000000) :
    Calls Tryz.prog 49 #[.pointer (some ⟨kw.OB, 0, none⟩), .pointer (some ⟨k.OB, 0, none⟩)] w fun e w' => SpEnd k kw g L lev p w e w' := by
  have SI : Hid (SprI k kw g L lev p w g L p w) := hid ⟨j, rs, Same.refl g, hwa, iv, hd, Ext.refl _ _, by omega, FT.refl _ _ _ _⟩
  have hkn := j.s.l.hn
  have hnn := j.n
  clear j iv rs
  go_enter Tryz.func49, Tryz.ntmps49
  go_wp2
  go_loopw [5, 6] (fun _ _ wr => ∃ (g1 : G) (L1 : List E) (p1 : V), Hid (SprI k kw g L lev p w g1 L1 p1 wr)) (fun _ _ wr => kw.n + 1 - dnOf kw wr)
  case atStart => exact ⟨g, L, p, SI⟩
  case round =>
    clear SI
    obtain ⟨g1, L1, p1, si⟩ := hrel
    have c6 := si.out.j.s.c6
    have hll := si.out.len
    have hdl := si.out.dl
    have hd63 : (g1.dn : Int) + 1 ≤ 9223372036854775807 := by omega
    by_cases hlt : g1.dn < L1.length
    · have hlt' : (g1.dn : Int) < L1.length := by omega
      obtain ⟨l, hl⟩ : ∃ l, (litsF L1)[g1.dn]? = some l := ⟨_, List.getElem?_eq_getElem (by rw [litsF_len]; exact hlt)⟩
      obtain ⟨ee, hee, rfl⟩ := lits_at.1 hl
      obtain ⟨m, hm⟩ : ∃ m, ee.l = m := ⟨_, rfl⟩
      rw [hm] at hl
      have hmn : m / 2 < kw.n := by
        have := si.out.j.t.lits_lt ee (List.mem_of_getElem? hee)
        unfold vr at this
        rw [hm] at this
        omega
      have rowt := (si.out.j.t.told).row
      obtain ⟨b, off, y, ea, hcc, hy, _, _⟩ := rowt.at hlt
      have hym : y = (m : Int) := by have := hy.out; rw [hl] at this; exact (Option.some.inj this).symm
      subst hym
      have hoff : off = 0 := by
        obtain ⟨ao, n', c', e', _, _, _, _, q, _⟩ := si.out.j.t.told
        cases e'
        exact q b off ea
      subst hoff
      rw [Nat.zero_add] at hcc
      have HEA := hid ea
      have hmx : (m : Int) ≤ 9223372036854775807 := by omega
      obtain ⟨x, hx⟩ : ∃ x : Nat, U.notF (m : Int) = x := by
        have := U.not_pos (x := (m : Int)) (by omega)
        exact ⟨(U.notF (m : Int)).toNat, by omega⟩
      have HX := hid hx
      have hxl : x < 2 * kw.n := by
        have h1 := vl_not (x := (m : Int)) (by omega)
        rw [hx] at h1
        unfold vl at h1
        omega
      have HQX : Hid ((litsF L1)[g1.dn]? = some (U.notF x)) := hid (by
        rw [hl, ← hx, U.not_not (by omega)])
      have hn1 : Hid (g1.nx ≤ 1000000) := hid (by rw [si.out.sm.nx]; exact hnx)
      have hs1 : Hid (sumL kw.n g1.P ≤ 400000000000) := hid (by
        have h1 := si.out.su
        have h4 : g1.dn * g.nx ≤ kw.n * g.nx := Nat.mul_le_mul_right _ (by omega)
        omega)
      have HLEN := hid (rfl : L1.length = L1.length)
      clear hl hee hm hx rowt hy
      have TN : ∀ n, Trl k (wr.drewN n) L1 lev p1 := fun n => si.out.j.t.below (drewN_any _ wr n)
      have TNN := hid TN
      clear TN
      go_wp2
      go_quiet ((go_at_call 50; with_reducible (refine (lits_ad (TNN.out _) rfl HEA.out).mono ?_); rintro e w1 ⟨rfl, rfl⟩; exact ⟨rfl, _, rfl⟩))
      have S1 := hid (si.out.below (drewN_any _ wr nq))
      have hcc1 := (World.cell?_of_block (w' := wr.drewN nq) (w := wr) (a := ⟨b, g1.dn, none⟩) rfl).trans hcc
      have hdq : Hid (dnOf kw wr = g1.dn) := hid (dn_of si.out.j.s)
      revert S1 hcc1
      generalize wr.drewN nq = wq
      intro S1 hcc1
      clear TNN si c6 hcc
      have c6 := S1.out.j.s.c6
      have TN : ∀ n, Trl k (wq.drewN n) L1 lev p1 := fun n => S1.out.j.t.below (drewN_any _ wq n)
      have TNN := hid TN
      clear TN
      go_wp2
      go_quiet ((go_at_call 50; with_reducible (refine (lits_ad (TNN.out _) rfl HEA.out).mono ?_); rintro e w1 ⟨rfl, rfl⟩; exact ⟨rfl, _, rfl⟩))
      have S2 := hid (S1.out.below (drewN_any _ wq nq))
      revert S2
      generalize wq.drewN nq = wp
      intro S2
      clear TNN S1 c6 hcc1
      obtain ⟨apv, cpv, epv, _⟩ := (S2.out.j.s.l.rw (3 * kw.n) (Nat.le_refl _)).shape
      rw [S2.out.wa] at epv
      have HPV := hid epv
      clear epv
      go_wp2_with (first
        | (go_at_call 69; with_reducible (refine (has_yes S2.out.j.s m (m / 2) rfl hmn).mono ?_); rintro e w3 ⟨rfl, b3⟩; have S3 := hid (S2.out.below b3))
        | (go_at_call 79; have T0 := U.not_any (m : Int) w3 hmx; rw [HX.out] at T0; with_reducible (refine T0.mono ?_); rintro e w4 ⟨rfl, b4⟩; have S4 := hid (S3.out.below b4))
        | (go_at_call 78; with_reducible (refine (strike_is S4.out.j S4.out.iv S4.out.rs x hxl HQX.out hn1.out hs1.out).mono ?_); intro e w5 hst; have hst2 := StkEnd.out hst; rcases hst2 with ⟨g2, L2, p2, rfl, H2⟩ | ⟨g2, L2, p2, c, rfl, H2, hbad⟩; have d6 := H2.out.1.s.c6; rw [H2.out.2.2.2.1] at d6; have f6 := H2.out.1.s.of 6; rotate_left; have d4 := H2.out.1.s.c4; rw [H2.out.2.2.2.2.1.2, HPV.out] at d4; rotate_left)
        | (at_builtin; refine append_pone (w1 := w5) (cb := g1.cb) rfl _ _ rfl c rfl _ [] rfl (spr_row H2.out S4.out.wa HPV.out) _ rfl rfl (by simp) ?_; intro v6 w6 own6 g6 new6; have f6 := own6.out.one; obtain ⟨b6, o6, p6, rfl⟩ := f6; have m6 := spr_push H2.out HPV.out hbad.out own6.out g6.out new6.out; obtain ⟨q1, q2, s6, F6⟩ := m6))
      · obtain ⟨h1, h2, h3, h4, h5, h6, h7, h8, h9⟩ := H2.out
        have SN := S4.out.next hlt h1 h2 h3 h4 h5.1 h6 h7 h8 h9
        have e1 : (g1.dn : Int) + 1 = ((g2.dn + 1 : Nat) : Int) := by omega
        rw [e1]
        have e2 : dnOf kw (w5.setCell ⟨kw.OB, 6, none⟩ (.int .i64 ((g2.dn + 1 : Nat) : Int))) = g2.dn + 1 := dn_of SN.j.s
        refine ⟨⟨_, _, _, hid SN⟩, ?_⟩
        rw [e2, hdq.out, h4]
        omega
      · obtain ⟨h1, h2, h3, h4, h5, h6, h7, h8, h9⟩ := H2.out
        have hcb := S4.out.sm.cb
        obtain ⟨M, hdd, I⟩ := S4.out.bad hlt h1 h2 h3 h4 h6 h7 h8 h9 s6.out F6.out
        go_ret
        refine ⟨_, _, _, M, hdd, .inr ⟨c, by rw [← hcb]; rfl, by rw [← S4.out.sm.nx]; exact hbad.out.1, by rw [← S4.out.sm.gn]; exact hbad.out.2.1, by rw [← S4.out.sm.lt]; exact hbad.out.2.2, I⟩⟩
    · have hlt' : ¬ (g1.dn : Int) < L1.length := by omega
      have hde : decide (g1.dn < L1.length) = false := by simpa using hlt
      have TN : ∀ n, Trl k (wr.drewN n) L1 lev p1 := fun n => si.out.j.t.below (drewN_any _ wr n)
      have TNN := hid TN
      clear TN
      go_wp2
      go_quiet ((go_at_call 50; with_reducible (refine (lits_det (TNN.out _) rfl).mono ?_); rintro e w1 ⟨rfl, rfl⟩; exact ⟨rfl, _, rfl⟩))
      have S1 := hid (si.out.below (drewN_any _ wr nq))
      revert S1
      generalize wr.drewN nq = wq
      intro S1
      clear TNN si c6
      go_wp2
      go_ret
      exact ⟨g1, L1, p1, S1.out.mv, S1.out.dl, .inl ⟨rfl, by omega, S1.out.iv, S1.out.wa⟩⟩
end

end Go.Proofs.YtimfjoinjfecjaaGreat

namespace Go.Proofs.YtimfjoinjfecjaaGreat
open Go.RowKit Go.Maps
set_option linter.unusedVariables false

theorem info3j : ∃ j, Tryz.prog.info? 3 = some j ∧ j.size = 1 := by
  obtain ⟨i0, hi, hz0, hz1, hz2⟩ := info_parts Tryz.info3
  exact ⟨i0, hi, hz1⟩

theorem same_no (w : World) {a b : Addr} {ca cb : Array Value} {ta tb : TypeId} {fr : Nat × Nat} (hne : a.block ≠ b.block) (hs : ca.size ≠ 0) (ha : w.heap[a.block]? = some (.cells ca ta fr)) (hb : w.heap[b.block]? = some (.cells cb tb (0, 0))) : (sameAddr a b).run Tryz.prog w = .ok false w := by
  obtain ⟨s, hs'⟩ : ∃ s, ca.size = s + 1 := ⟨ca.size - 1, by omega⟩
  simp [sameAddr, hne, World.frozen?, ha, hb, noView, viewAt, World.shape?, mayBeOne, stringish, hs']

theorem eql109 (w : World) (x y : Nat) {c1 c2 : Array Value} {t1 t2 : TypeId} {fr : Nat × Nat} (hs1 : c1.size ≠ 0) (hx : w.heap[x]? = some (.cells c1 t1 fr)) (hy : w.heap[y]? = some (.cells c2 t2 (0, 0))) :
    (binOp .eql 141 (.pointer (some ⟨x, 0, none⟩)) (.pointer (some ⟨y, 0, none⟩))).run Tryz.prog w = .ok (.bool (x == y)) w := by
  obtain ⟨j, hj, hs⟩ := info3j
  by_cases e : x = y
  · subst e
    rw [run_eql_ptr_same w ⟨x, 0, none⟩ Tryz.underlying141 hj]; simp
  · have h : ∀ d : Nat, (Op.equalIn (d + 1) 141 (.pointer (some ⟨x, 0, none⟩)) (.pointer (some ⟨y, 0, none⟩))).run Tryz.prog w = .ok false w := fun d => by
      simp [Op.equalIn, run_underlying Tryz.underlying141, sizeOf, typeInfo, hj, hs, same_no w (a := ⟨x, 0, none⟩) (b := ⟨y, 0, none⟩) e hs1 hx hy]
    simp only [binOp]
    simp [Op.equal, Op.maxDepth, h 9999, e]

section
variable {k : K} {w : World} {p : V}

theorem Told.at {ao : Option Addr} {n c : Nat} {xs : List Int} (h : Told k p w (.slice ao n c) xs) {q : Nat} (hq : q < n) : ∃ b y, ao = some ⟨b, 0, none⟩ ∧ w.cell? ⟨b, q, none⟩ = some (.int .i64 y) ∧ Hid (xs[q]? = some y) ∧ Typ w b 3 ∧ 0 ≤ y ∧ y ≤ 9223372036854775807 := by
  obtain ⟨ao', n', c', e, h2, h3, h4, h5, h5', h6, h7⟩ := h
  cases e
  have hl : q < xs.length := by omega
  obtain ⟨b, e, q1, q2, _⟩ := h7 q _ (List.getElem?_eq_getElem hl)
  exact ⟨b, _, e, q1, List.getElem?_eq_getElem hl, q2, h6 _ (List.getElem_mem hl)⟩

theorem Told.drewN {v : Value} {xs : List Int} (h : Told k p w v xs) (m : Nat) : Told k p (w.drewN m) v xs := h.ft (FT.fw (B := 0) ⟨rfl, rfl, rfl, Nat.le_refl _, fun _ _ _ _ => rfl, fun _ _ _ => rfl⟩)

theorem min_le (W : World) {a b : Int} (h : a ≤ b) : (Builtin.min_ #[3, 3] 3 #[.int .i64 a, .int .i64 b]).run Tryz.prog W = .ok (.int .i64 a) W := by
  simp [Builtin.min_, Builtin.min2]
  intro; omega
theorem min_gt (W : World) {a b : Int} (h : ¬ a ≤ b) : (Builtin.min_ #[3, 3] 3 #[.int .i64 a, .int .i64 b]).run Tryz.prog W = .ok (.int .i64 b) W := by
  simp [Builtin.min_, Builtin.min2, h]

def AlEnd (H N : List Int) (w : World) (e : Ending) (w' : World) : Prop := ∃ q : Nat, e = .returned (.int .i64 q) ∧ Hid (q ≤ H.length ∧ q ≤ N.length ∧ H.take q = N.take q) ∧ Hid (Below w.heap.size w w')

set_option maxHeartbeats 2000000 in
theorem alike_is {ao bo : Option Addr} {n m c d : Nat} {H N : List Int} (ha : Told k p w (.slice ao n c) H) (hb : Told k p w (.slice bo m d) N) (hn : n ≤ 10000000000000) (hm : m ≤ 10000000000000) (h0 : ∀ b, bo = some ⟨b, 0, none⟩ → ∃ cur, w.heap[b]? = some (.cells cur 3 (0, 0))) :
    Calls Tryz.prog 74 #[.slice ao n c, .slice bo m d] w fun e w' => AlEnd H N w e w' := by
  have lH : H.length = n := by obtain ⟨_, _, _, e, h, _⟩ := ha; cases e; exact h
  have lN : N.length = m := by obtain ⟨_, _, _, e, h, _⟩ := hb; cases e; exact h
  obtain ⟨r, hr1, hr2, hr3⟩ : ∃ r, r ≤ n ∧ r ≤ m ∧ (r = n ∨ r = m) := by
    by_cases h : n ≤ m
    · exact ⟨n, Nat.le_refl _, h, .inl rfl⟩
    · exact ⟨m, by omega, Nat.le_refl _, .inr rfl⟩
  have hmin : (if (n : Int) ≤ m then (n : Int) else m) = r := by split <;> omega
  have HA := hid ha
  have HB := hid hb
  have HLH := hid lH
  have HLN := hid lN
  have hminW : ∀ W : World, (Builtin.min_ #[3, 3] 3 #[.int .i64 n, .int .i64 m]).run Tryz.prog W = .ok (.int .i64 r) W := fun W => by
    rcases hr3 with h | h
    · subst h
      have : (r : Int) ≤ m := by omega
      exact min_le W this
    · subst h
      by_cases e : (n : Int) ≤ r
      · have : n = r := by omega
        subst this; exact min_le W e
      · exact min_gt W e
  by_cases hz : r = 0
  · subst hz
    clear ha hb lH lN hr3 hmin
    go_enter Tryz.func74, Tryz.ntmps74
    go_wp2
    go_quiet (fail)
    go_wp2
    go_loopw [6, 23] (fun _ i wr => ∃ q : Nat, q ≤ 0 ∧ i = .int .i64 q ∧ Hid (H.take q = N.take q) ∧ Hid (Below w.heap.size w wr) ∧ Hid (Told k p wr (.slice ao n c) H) ∧ Hid (Told k p wr (.slice bo m d) N)) (fun _ i _ => 0 - (intOf i).toNat)
    case atStart => exact ⟨0, Nat.zero_le _, rfl, hid (by simp), hid (drewN_any _ w nq), hid (HA.out.drewN nq), hid (HB.out.drewN nq)⟩
    case round =>
      obtain ⟨q, hq, rfl, heq, hbl, ta, tb⟩ := hrel
      by_cases hlt : q < 0
      · omega
      · have hqr : q = 0 := by omega
        have HQ : Hid (H.take 0 = N.take 0) := hid (by rw [← hqr]; exact heq.out)
        have hlt' : ¬ (q : Int) < (0 : Nat) := by omega
        clear hqr
        go_wp2
        go_ret
        exact ⟨0, rfl, hid ⟨by rw [HLH.out]; omega, by rw [HLN.out]; omega, HQ.out⟩, hbl⟩
  · have hr0 : (0 : Int) < r := by omega
    have hr0n : 0 < r := by omega
    have hr0d : decide (0 < r) = true := by simpa using hr0n
    obtain ⟨b1, z1, rfl, e1, _, ⟨cu1, fr1, g1⟩, _⟩ := ha.at (q := 0) (by omega)
    obtain ⟨b2, z2, rfl, e2, _, _, _⟩ := hb.at (q := 0) (by omega)
    obtain ⟨cu2, g2⟩ := h0 b2 rfl
    have hs1 : cu1.size ≠ 0 := fun e => by
      rw [cell_of g1, Array.getElem?_eq_none (by omega)] at e1; cases e1
    have he : ∀ s, (binOp .eql 141 (.pointer (some ⟨b1, 0, none⟩)) (.pointer (some ⟨b2, 0, none⟩))).run Tryz.prog (w.drewN s) = .ok (.bool (b1 == b2)) (w.drewN s) := fun s => eql109 (w.drewN s) b1 b2 hs1 g1 g2
    have hn0 : 0 < n := by omega
    have hm0 : 0 < m := by omega
    by_cases hbb : b1 = b2
    · have hbb' : (b1 == b2) = true := by simpa using hbb
      have HE : Hid (H.take r = N.take r) := hid (by
        apply List.ext_getElem?
        intro q
        by_cases hq : q < r
        · rw [List.getElem?_take_of_lt hq, List.getElem?_take_of_lt hq]
          obtain ⟨c1, y1, f1, d1, hy1, _⟩ := ha.at (q := q) (by omega)
          obtain ⟨c2, y2, f2, d2, hy2, _⟩ := hb.at (q := q) (by omega)
          cases f1; cases f2
          rw [hbb, d2] at d1
          rw [hy1.out, hy2.out]
          cases d1; rfl
        · rw [List.getElem?_eq_none (by rw [List.length_take]; omega), List.getElem?_eq_none (by rw [List.length_take]; omega)])
      rw [hbb'] at he
      clear ha hb lH lN hmin hbb e1 e2 g1 g2
      go_enter Tryz.func74, Tryz.ntmps74
      go_wp2
      go_quiet (fail)
      go_wp2
      go_ret
      exact ⟨r, rfl, hid ⟨by rw [HLH.out]; omega, by rw [HLN.out]; omega, HE.out⟩, hid (drewN_any _ w nq)⟩
    · have hbb' : (b1 == b2) = false := by simpa using hbb
      rw [hbb'] at he
      clear ha hb lH lN hmin hbb e1 e2 g1 g2
      go_enter Tryz.func74, Tryz.ntmps74
      go_wp2
      go_quiet (fail)
      go_wp2
      go_loopw [6, 23] (fun _ i wr => ∃ q : Nat, q ≤ r ∧ i = .int .i64 q ∧ Hid (H.take q = N.take q) ∧ Hid (Below w.heap.size w wr) ∧ Hid (Told k p wr (.slice (some ⟨b1, 0, none⟩) n c) H) ∧ Hid (Told k p wr (.slice (some ⟨b2, 0, none⟩) m d) N)) (fun _ i _ => r - (intOf i).toNat)
      case atStart => exact ⟨0, Nat.zero_le _, rfl, hid (by simp), hid (drewN_any _ w nq), hid (HA.out.drewN nq), hid (HB.out.drewN nq)⟩
      case round =>
        obtain ⟨q, hq, rfl, heq, hbl, ta, tb⟩ := hrel
        by_cases hlt : q < r
        · have hlt' : (q : Int) < (r : Nat) := by omega
          have hqn : q < n := by omega
          have hqm : q < m := by omega
          obtain ⟨b1, y1, e1, d1, hy1, _, _, _⟩ := ta.out.at hqn
          obtain ⟨b2, y2, e2, d2, hy2, _, _, _⟩ := tb.out.at hqm
          cases e1; cases e2
          by_cases hy : y1 = y2
          · have hy' : (y1 != y2) = false := by simpa using hy
            have HN : Hid (H.take (q + 1) = N.take (q + 1)) := hid (by rw [List.take_add_one, List.take_add_one, heq.out, hy1.out, hy2.out, hy])
            clear hy
            go_wp2
            go_quiet (fail)
            have B2 := hid (Below.next hbl.out (drewN_any _ wr nq))
            have TA2 := hid (ta.out.drewN nq)
            have TB2 := hid (tb.out.drewN nq)
            go_wp2
            go_roundw
            case rel => exact ⟨q + 1, by omega, by go_num, HN, B2, TA2, TB2⟩
            case measure => simp only [intOf]; omega
          · have hy' : (y1 != y2) = true := by simpa using hy
            clear hy
            go_wp2
            go_quiet (fail)
            have B2 := hid (Below.next hbl.out (drewN_any _ wr nq))
            go_wp2
            go_ret
            exact ⟨q, rfl, hid ⟨by rw [HLH.out]; omega, by rw [HLN.out]; omega, heq.out⟩, B2⟩
        · have hqr : q = r := by omega
          have HQ : Hid (H.take r = N.take r) := hid (by rw [← hqr]; exact heq.out)
          have hlt' : ¬ (q : Int) < (r : Nat) := by omega
          clear hqr
          go_wp2
          go_ret
          exact ⟨r, rfl, hid ⟨by rw [HLH.out]; omega, by rw [HLN.out]; omega, HQ.out⟩, hbl⟩
end

end Go.Proofs.YtimfjoinjfecjaaGreat
