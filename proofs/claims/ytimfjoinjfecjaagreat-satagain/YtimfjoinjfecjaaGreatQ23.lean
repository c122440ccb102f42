/-
  settleAll: all clauses that wait are looked at.
  A literal that does not hold any more: what becomes of those that watch it, one by one.
-/
import Derived.Test.YtimfjoinjfecjaaGreatQ11

namespace Go.Proofs.YtimfjoinjfecjaaGreat
open Go.RowKit Go.Maps
set_option linter.unusedVariables false

def tot (n : Nat) (g : G) : Nat := sumL n g.P + (g.P (3 * n)).length

/-- What has become of all, whatever waits. -/
structure Mv (k : K) (kw : WK) (g : G) (L : List E) (lev : Nat) (p : V) (w : World) (B : Nat) (g' : G) (L' : List E) (p' : V) (w' : World) : Prop where
  j : J k kw w' g' L' lev p'
  rs : Rs g' L'
  sm : Same g g'
  ex : Ext L L' lev
  su : tot kw.n g' ≤ tot kw.n g + B
  ft : FT k kw.B p p' w w'

theorem vl_lt {n : Nat} {x : Int} (h : 0 ≤ x ∧ x < 2 * n) : vl x < n := by unfold vl; omega

section
variable {k : K} {kw : WK} {w w1 w2 : World} {g g1 : G} {L : List E} {lev : Nat} {p : V} {X X' : Nat → Prop} {B c : Nat}

theorem Mv.trans {g1 g2 : G} {L1 L2 : List E} {p1 p2 : V} {B' : Nat} (a : Mv k kw g L lev p w B g1 L1 p1 w1) (b : Mv k kw g1 L1 lev p1 w1 B' g2 L2 p2 w2) : Mv k kw g L lev p w (B + B') g2 L2 p2 w2 :=
  ⟨b.j, b.rs, a.sm.trans b.sm, a.ex.trans b.ex, by have := a.su; have := b.su; omega, a.ft.trans b.ft⟩

theorem Mv.below {g' : G} {L' : List E} {p' : V} (a : Mv k kw g L lev p w B g' L' p' w1) (b : Below w1.heap.size w1 w2) : Mv k kw g L lev p w B g' L' p' w2 :=
  ⟨a.j.below b, a.rs, a.sm, a.ex, a.su, a.ft.trans (FT.below b)⟩

theorem Mv.weak {g' : G} {L' : List E} {p' : V} {B' : Nat} (a : Mv k kw g L lev p w B g' L' p' w1) (hB : B ≤ B') : Mv k kw g L lev p w B' g' L' p' w1 := ⟨a.j, a.rs, a.sm, a.ex, by have := a.su; omega, a.ft⟩

/-- Whoever waits plays no part in the rest. -/
theorem Inv.wait {n : Nat} {H : List Int} {d : Nat → Nat} (h : Inv n g H d X) (xs : List Nat) (v : Value) : Inv n (g.slot (3 * n) xs v) H d X := by
  have hP : ∀ l, l < 3 * n → (g.slot (3 * n) xs v).P l = g.P l := fun l hl => up_ne _ _ (by omega)
  refine ⟨h.rg, h.fr, fun i hi hgi => ?_, fun l hl i hi hgi => ?_, fun l hl => ?_, h.pl, fun i hi hgi => ?_⟩
  · rcases h.wt i hi hgi with q | ⟨q1, q2, q3, q4, q5, q6, q7⟩
    · exact .inl q
    · have r1 := h.rg i hi hgi _ q4
      have r2 := h.rg i hi hgi _ q5
      refine .inr ⟨q1, q2, q3, q4, q5, ?_, ?_⟩
      · show i ∈ (g.slot (3 * n) xs v).P (g.a i).toNat
        rw [hP _ (show (g.a i).toNat < 3 * n by omega)]; exact q6
      · show i ∈ (g.slot (3 * n) xs v).P (g.b i).toNat
        rw [hP _ (show (g.b i).toNat < 3 * n by omega)]; exact q7
  · rw [hP l (by omega)] at hi; exact h.sd l hl i hi hgi
  · rw [hP l (by omega)]; exact h.nd l hl
  · rcases h.ok i hi hgi with q | ⟨h1, x, hx, q, hq, hp⟩ | ⟨h1, h2, h3⟩
    · exact .inl q
    · refine .inr (.inl ⟨h1, x, hx, q, hq, ?_⟩)
      have := vl_lt (h.rg i hi hgi x hx)
      rw [hP _ (by omega)]; exact hp
    · have hw : g.a i ∈ g.lt i ∧ g.b i ∈ g.lt i := by
        rcases h.wt i hi hgi with q | ⟨q1, q2, q3, q4, q5, _⟩
        · exact absurd q.1 h1
        · exact ⟨q4, q5⟩
      have va := vl_lt (h.rg i hi hgi _ hw.1)
      have vb := vl_lt (h.rg i hi hgi _ hw.2)
      refine .inr (.inr ⟨h1, fun q hq e => ?_, fun q hq e => ?_⟩)
      · obtain ⟨r, r1, r2⟩ := h2 q hq e
        refine ⟨r, r1, r2.elim .inl (fun c => .inr ?_)⟩
        show i ∈ (g.slot (3 * n) xs v).P (2 * n + vl (g.b i))
        rw [hP _ (by omega)]; exact c
      · obtain ⟨r, r1, r2⟩ := h3 q hq e
        refine ⟨r, r1, r2.elim .inl (fun c => .inr ?_)⟩
        show i ∈ (g.slot (3 * n) xs v).P (2 * n + vl (g.a i))
        rw [hP _ (by omega)]; exact c

theorem Adv.wait {g1 : G} {L1 : List E} {p1 : V} {zs : List Nat} {v : Value} (A : Adv k kw g L lev p w X B g1 L1 p1 w1) (s : St kw w2 (g1.slot (3 * kw.n) zs v)) (f : FW kw.B w1 w2) (hB : B + zs.length ≤ (g.P (3 * kw.n)).length) :
    Mv k kw g L lev p w 0 (g1.slot (3 * kw.n) zs v) L1 p1 w2 ∧ Inv kw.n (g1.slot (3 * kw.n) zs v) (litsF L1) (fun _ => g.dn) X := by
  refine ⟨⟨A.j.fw f s rfl rfl rfl rfl, A.rs.as rfl rfl rfl, A.sm.trans ⟨rfl, rfl, rfl, rfl, rfl, rfl, rfl, rfl⟩, A.ex, ?_, A.ft.trans (FT.fw f)⟩, ?_⟩
  · have h1 := A.su
    have h2 : sumL kw.n (g1.slot (3 * kw.n) zs v).P = sumL kw.n g1.P := sum_other (.inr (Nat.le_refl _)) _ v
    have h3 : ((g1.slot (3 * kw.n) zs v).P (3 * kw.n)) = zs := up_same _ _ _
    unfold tot
    rw [h2, h3]
    omega
  · have := A.iv.wait zs v
    rw [A.dn] at this
    exact this

def AllEnd (k : K) (kw : WK) (g : G) (L : List E) (lev : Nat) (p : V) (w : World) (e : Ending) (w' : World) : Prop :=
  ∃ g' L' p', Mv k kw g L lev p w 0 g' L' p' w' ∧ g'.dn = g.dn ∧
    ((e = .returned (.pointer none) ∧ Inv kw.n g' (litsF L') (fun _ => g.dn) (fun _ => False) ∧ g'.P (3 * kw.n) = []) ∨
     ∃ c : Nat, e = .returned (.pointer (some ⟨g.cb c, 0, none⟩)) ∧ c < g.nx ∧ g.gn c = false ∧ Inv kw.n g' (litsF L') (fun _ => g.dn) (fun i => i ∈ g'.P (3 * kw.n)) ∧ ∀ x ∈ g.lt c, valueF L' x = -1)

theorem drop_cons {xs : List Nat} {q x : Nat} (h : xs[q]? = some x) : xs.drop q = x :: xs.drop (q + 1) := by
  obtain ⟨h1, h2⟩ := List.getElem?_eq_some_iff.1 h
  rw [List.drop_eq_getElem_cons h1, h2]

theorem SetEnd.out {e : Ending} (h : SetEnd k kw g L lev p X c w e w1) : (∃ g' L' p', e = .returned (.bool true) ∧ Hid (Adv k kw g L lev p w (fun i => X i ∧ i ≠ c) 1 g' L' p' w1)) ∨
    (∃ g', e = .returned (.bool false) ∧ Hid (Adv k kw g L lev p w (fun i => X i ∨ i = c) 0 g' L p w1) ∧ Hid (g.gn c = false ∧ ∀ x ∈ g.lt c, valueF L x = -1)) := by
  rcases h with ⟨h1, g', L', p', h2⟩ | ⟨h1, g', h2, h3⟩
  · exact .inl ⟨g', L', p', h1, h2⟩
  · exact .inr ⟨g', h1, h2, h3⟩

set_option maxHeartbeats 2000000 in
theorem settleAll_is (j : J k kw w g L lev p) (iv : Inv kw.n g (litsF L) (fun _ => g.dn) (fun i => i ∈ g.P (3 * kw.n))) (rs : Rs g L) (hd : g.dn ≤ L.length) (hnx : g.nx ≤ 1000000) (hsu : tot kw.n g ≤ 400000000000) :
    Calls Tryz.prog 48 #[.pointer (some ⟨kw.OB, 0, none⟩), .pointer (some ⟨k.OB, 0, none⟩)] w fun e w' => AllEnd k kw g L lev p w e w' := by
  have A0 := Adv.start j iv rs
  have c4 := j.s.c4
  have r0 := j.s.l.rw (3 * kw.n) (Nat.le_refl _)
  have sub0 := j.s.l.sub (3 * kw.n) (Nat.le_refl _)
  obtain ⟨W0, hW⟩ : ∃ W0, g.P (3 * kw.n) = W0 := ⟨_, rfl⟩
  obtain ⟨ao, cap, ev, hc1, hc2⟩ := r0.shape
  rw [hW] at r0 sub0 ev hc1
  unfold tot at hsu
  rw [hW] at hsu
  rw [ev] at r0 c4
  have HW := hid hW
  have HV := hid ev
  have HR0 := hid r0
  have HSUB := hid sub0
  have hA : Hid (Adv k kw g L lev p w (fun i => i ∈ W0.drop 0) 0 g L p w) := hid (by rw [hW] at A0; exact A0)
  have hlen : W0.length ≤ 400000000000 := by omega
  unfold maxLen at hc2
  clear j iv rs A0 r0 sub0 ev hW
  go_enter Tryz.func48, Tryz.ntmps48
  go_wp2
  go_loopw [5, 6, 12] (fun _ _ i wr => ∃ (q : Nat) (g1 : G) (L1 : List E) (p1 : V), q ≤ W0.length ∧ i = .int .i64 q ∧ Hid (Adv k kw g L lev p w (fun i => i ∈ W0.drop q) q g1 L1 p1 wr)) (fun _ _ i _ => W0.length - (intOf i).toNat)
  case atStart => exact ⟨0, g, L, p, Nat.zero_le _, rfl, hA⟩
  case round =>
    clear c4 hA HR0
    obtain ⟨q, g1, L1, p1, hq, rfl, hA⟩ := hrel
    have r1 : PRow wr g.cb (.slice ao W0.length cap) W0 := by
      have := hA.out.j.s.l.rw (3 * kw.n) (Nat.le_refl _)
      rw [hA.out.wa.1, hA.out.wa.2, hA.out.sm.cb, HW.out, HV.out] at this
      exact this
    have c4 := hA.out.j.s.c4
    rw [hA.out.wa.2, HV.out] at c4
    by_cases hlt : q < W0.length
    · obtain ⟨x, hx⟩ : ∃ x, W0[q]? = some x := ⟨_, List.getElem?_eq_getElem hlt⟩
      obtain ⟨b, off, cap', e, _⟩ := r1.filled (by omega)
      cases e
      have hc := r1.at hx
      have hxn : x < g.nx := HSUB.out x (List.mem_of_getElem? hx)
      have hx1 : Hid (x < g1.nx) := hid (by rw [hA.out.sm.nx]; exact hxn)
      have hd1 : Hid (g1.dn ≤ L1.length) := hid (by rw [hA.out.dn]; exact Nat.le_trans hd hA.out.ex.len)
      have hn1 : Hid (g1.nx ≤ 1000000) := hid (by rw [hA.out.sm.nx]; exact hnx)
      have hs1 : Hid (sumL kw.n g1.P ≤ 500000000000) := hid (by have := hA.out.su; omega)
      have HDR := hid (drop_cons hx)
      have hq' : (q : Int) ≤ W0.length := by omega
      have hq2 : (q : Int) ≤ cap := by omega
      have hqc : ¬ cap = q := by omega
      have R1 := hid r1
      clear r1 hx
      go_wp2_with (go_at_call 77; have T := settle_is hA.out.j hA.out.iv hA.out.rs hd1.out hx1.out hn1.out hs1.out; rw [hA.out.sm.cb] at T; with_reducible (refine T.mono ?_); intro e w2 hse; have hse2 := SetEnd.out hse; rcases hse2 with ⟨g2, L2, p2, rfl, A2⟩ | ⟨g2, rfl, A2, hbad⟩; rotate_left; have A3 := hid (hA.out.trans A2.out); have c5 := A3.out.j.s.c4; have f5 := A3.out.j.s.of 4; rw [A3.out.wa.2, HV.out] at c5)
      · have own := (A3.out.j.s.l.rw (3 * kw.n) (Nat.le_refl _))
        have hP3 := A3.out.wa.1.trans HW.out
        have hv3 := A3.out.wa.2.trans HV.out
        rw [hP3, hv3] at own
        have own2 := own.drop (m := q) (by omega)
        obtain ⟨q1, q2, s6, F6⟩ := A3.out.j.s.pusha (fun i hi => by rw [A3.out.sm.nx]; exact HSUB.out i (List.mem_of_mem_drop hi)) own2 (by rw [hv3]; exact ⟨rfl, rfl, rfl, Nat.le_refl _, fun _ _ _ => rfl⟩) (by rw [hv3]; exact fun j hj => .inl hj)
        obtain ⟨M, I⟩ := A3.out.wait s6.out F6.out (by rw [HW.out, List.length_drop]; omega)
        go_ret
        have hup : (g2.slot (3 * kw.n) (W0.drop q) (.slice (some ⟨b, off + q, none⟩) (W0.length - q) (cap - q))).P (3 * kw.n) = W0.drop q := up_same _ _ _
        refine ⟨_, _, _, M, A3.out.dn, .inr ⟨x, rfl, hxn, by rw [← hA.out.sm.gn]; exact hbad.out.1, I.mono (fun _ => Nat.le_refl _) (fun i hi => ?_), by rw [← hA.out.sm.lt]; exact hbad.out.2⟩⟩
        rw [hup]
        rcases hi with hi | hi
        · exact hi
        · rw [hi, HDR.out]; simp
      · have A3 := hA.out.trans A2.out
        refine ⟨⟨q + 1, g2, L2, p2, by omega, by go_num, hid (A3.weak (Nat.le_refl _) (fun i hi => ?_))⟩, by simp only [intOf]; omega⟩
        rw [HDR.out] at hi
        rcases List.mem_cons.1 hi.1 with h | h
        · exact absurd h hi.2
        · exact h
    · have hqe : q = W0.length := by omega
      have hX : Hid (Adv k kw g L lev p w (fun _ => False) W0.length g1 L1 p1 wr) := hid (by
        rw [hqe] at hA
        exact hA.out.weak (Nat.le_refl _) (fun i hi => by rw [List.drop_length] at hi; simp at hi))
      have hv3 := hX.out.wa.2.trans HV.out
      have f4 := hX.out.j.s.of 4
      rcases id r1 with ⟨e1, e2⟩ | ⟨b, off, cap', cur, e1, _⟩
      · subst e2
        simp at e1
        obtain ⟨rfl, rfl⟩ := e1
        have r8 : PRow wr g1.cb (.slice none 0 0) [] := .inl ⟨rfl, rfl⟩
        have hv3' : g1.pv (3 * kw.n) = .slice none 0 0 := by simpa using hv3
        obtain ⟨q1, q2, s6, F6⟩ := hX.out.j.s.pusha (fun i hi => by simp at hi) r8 (by rw [hv3']; exact ⟨rfl, rfl, rfl, Nat.le_refl _, fun _ _ _ => rfl⟩) (fun j hj => by simp [Value.ownBlock] at hj)
        obtain ⟨M, I⟩ := hX.out.wait s6.out F6.out (by rw [HW.out]; simp)
        have hc0 := run_clear0 wr 0 none 0
        have HM := hid M
        have HI := hid I
        have HDN := hid hX.out.dn
        clear q1 r8 M I hv3 hv3' r1 hX hA
        go_wp2
        go_ret
        exact ⟨_, _, _, HM.out, HDN.out, .inl ⟨rfl, HI.out, up_same _ _ _⟩⟩
      · cases e1
        have r1' : PRow wr g1.cb (.slice (some ⟨b, off, none⟩) W0.length cap) W0 := by rw [hX.out.sm.cb]; exact r1
        obtain ⟨w8, hc8, r8, g8⟩ := run_pclear wr 0 r1'
        obtain ⟨q1, q2, s6, F6⟩ := hX.out.j.s.pusha (fun i hi => by simp at hi) r8 (by rw [hv3]; exact g8) (by rw [hv3]; exact fun j hj => .inl hj)
        rw [hv3] at q1
        obtain ⟨M, I⟩ := hX.out.wait s6.out F6.out (by rw [HW.out]; simp)
        have HM := hid M
        have HI := hid I
        have HDN := hid hX.out.dn
        clear r8 M I hv3 r1 hX hA r1'
        go_wp2
        go_ret
        exact ⟨_, _, _, HM.out, HDN.out, .inl ⟨rfl, HI.out, up_same _ _ _⟩⟩
end

end Go.Proofs.YtimfjoinjfecjaaGreat

namespace Go.Proofs.YtimfjoinjfecjaaGreat
open Go.RowKit Go.Maps
set_option linter.unusedVariables false

/-- As it were if the list at x were V. -/
def G.vir (g : G) (x : Nat) (V : List Nat) : G := { g with P := up g.P x V }

theorem up_comm {α : Type} (f : Nat → α) {i j : Nat} (h : i ≠ j) (x y : α) : up (up f i x) j y = up (up f j y) i x := by
  funext q
  simp only [up]
  by_cases e1 : q = j
  · rw [if_pos e1, if_neg (by omega), if_pos e1]
  · rw [if_neg e1]
    by_cases e2 : q = i
    · rw [if_pos e2, if_pos e2]
    · rw [if_neg e2, if_neg e2, if_neg e1]

theorem vir_slot (g : G) {s x : Nat} (h : s ≠ x) (xs V : List Nat) (v : Value) : (g.slot s xs v).vir x V = (g.vir x V).slot s xs v := by
  unfold G.slot G.vir
  simp only [G.mk.injEq, and_true, true_and]
  exact up_comm _ h _ _

theorem vir_over (g : G) (x : Nat) (M V : List Nat) : (g.slot x M (g.pv x)).vir x V = g.vir x V := by
  unfold G.slot G.vir
  simp only [up_up, up_self]

theorem vir_self (g : G) (x : Nat) : g.vir x (g.P x) = g := by unfold G.vir; rw [up_self]

theorem Inv.like {n : Nat} {g g' : G} {H : List Int} {d : Nat → Nat} {X : Nat → Prop} (h : Inv n g H d X) (e1 : g'.nx = g.nx) (e2 : g'.lt = g.lt) (e3 : g'.a = g.a) (e4 : g'.b = g.b) (e5 : g'.fr = g.fr) (e6 : g'.gn = g.gn) (e7 : g'.P = g.P) (e8 : g'.pl = g.pl) : Inv n g' H d X := by
  obtain ⟨nx, cb, lt, lv, a, b, fr, gn, P, pv, pl, mp, hv, dn, rm⟩ := g
  obtain ⟨nx', cb', lt', lv', a', b', fr', gn', P', pv', pl', mp', hv', dn', rm'⟩ := g'
  simp only at e1 e2 e3 e4 e5 e6 e7 e8
  subst e1 e2 e3 e4 e5 e6 e7 e8
  exact ⟨h.rg, h.fr, h.wt, h.sd, h.nd, h.pl, h.ok⟩

def dT (T : List Nat) (dn : Nat) : Nat → Nat := fun i => if i ∈ T then dn + 1 else dn

section
variable {n : Nat} {g : G} {H : List Int} {d : Nat → Nat} {X : Nat → Prop} {c x : Nat} {T R : List Nat}

theorem vir_P (g : G) (x : Nat) (V : List Nat) : (g.vir x V).P x = V := up_same _ _ _
theorem vir_ne (g : G) {x l : Nat} (h : l ≠ x) (V : List Nat) : (g.vir x V).P l = g.P l := up_ne _ _ h

/-- One that is gone is left out. -/
theorem Inv.vdrop (h : Inv n (g.vir x (T ++ c :: R)) H d X) (hx : x < 2 * n) (hg : g.gn c = true) : Inv n (g.vir x (T ++ R)) H d X := by
  have hmem : ∀ l i, g.gn i = false → (i ∈ (g.vir x (T ++ R)).P l ↔ i ∈ (g.vir x (T ++ c :: R)).P l) := fun l i hi => by
    have hne : i ≠ c := fun e => by rw [e, hg] at hi; cases hi
    by_cases e : l = x
    · subst e; rw [vir_P, vir_P]; simp [hne]
    · rw [vir_ne _ e, vir_ne _ e]
  refine ⟨h.rg, h.fr, fun i hi hgi => ?_, fun l hl i hi hgi => h.sd l hl i ((hmem l i hgi).1 hi) hgi, fun l hl => ?_, h.pl, fun i hi hgi => ?_⟩
  · have := h.wt i hi hgi
    unfold WtOk at this ⊢
    rw [hmem _ i hgi, hmem _ i hgi]
    exact this
  · have := h.nd l hl
    by_cases e : l = x
    · subst e; rw [vir_P] at this ⊢
      exact this.sublist (List.Sublist.append (List.Sublist.refl _) (List.sublist_cons_self _ _))
    · rw [vir_ne _ e] at this ⊢; exact this
  · rcases h.ok i hi hgi with q | q
    · exact .inl q
    · exact .inr (q.as rfl rfl rfl (fun u hu => (hmem _ i hgi).2 hu))

theorem Inv.two {y : Int} (h : Inv n g H d X) (hx : x < 2 * n) (hm : c ∈ g.P x) (hc : c < g.nx) (hg : g.gn c = false) (hy : besideF g c x = y) :
    0 ≤ y ∧ y ≠ x ∧ y ∈ g.lt c ∧ (x : Int) ∈ g.lt c ∧ c ∈ g.P y.toNat ∧ ((g.a c = x ∧ g.b c = y) ∨ (g.a c = y ∧ g.b c = x)) := by
  have hw : 0 ≤ g.a c ∧ 0 ≤ g.b c ∧ g.a c ≠ g.b c ∧ g.a c ∈ g.lt c ∧ g.b c ∈ g.lt c ∧ c ∈ g.P (g.a c).toNat ∧ c ∈ g.P (g.b c).toNat := by
    rcases h.wt c hc hg with ⟨q1, q2⟩ | q
    · rcases h.sd x hx c hm hg with q | q <;> omega
    · exact q
  obtain ⟨q1, q2, q3, q4, q5, q6, q7⟩ := hw
  unfold besideF at hy
  by_cases e : g.a c = x
  · rw [if_pos e] at hy
    subst hy
    exact ⟨q2, by rw [← e]; exact fun c => q3 c.symm, q5, by rw [← e]; exact q4, q7, .inl ⟨e, rfl⟩⟩
  · rw [if_neg e] at hy
    subst hy
    have e2 : g.b c = x := by
      rcases h.sd x hx c hm hg with q | q
      · exact absurd q e
      · exact q
    exact ⟨q1, e, q4, by rw [← e2]; exact q5, q6, .inr ⟨rfl, e2⟩⟩

/-- It watches another literal. -/
theorem Inv.moved {L : List E} {y : Int} {z f : Nat} (h : Inv n (g.vir x (T ++ c :: R)) (litsF L) d X) (hnd : ND L) (hx : x < 2 * n) (hc : c < g.nx) (hg : g.gn c = false) (hy : besideF g c x = y) (hq : (litsF L)[d c]? = some (U.notF x)) (hz : (z : Int) ∈ g.lt c) (hzy : (z : Int) ≠ y) (vz : 0 ≤ valueF L z) (hf : f < (g.lt c).length ∨ g.lt c = []) (v : Value) :
    Inv n ((((g.from c f).watch c y z).slot z (g.P z ++ [c]) v).vir x (T ++ R)) (litsF L) d X := by
  have rz : 0 ≤ (z : Int) ∧ (z : Int) < 2 * n := h.rg c hc hg _ hz
  have vx : valueF L x = -1 := val_not hnd (by omega) hq
  have hzx : z ≠ x := fun e => by rw [e] at vz; omega
  obtain ⟨y0, yx, yl, xl, yP, hab⟩ := h.two (y := y) hx (by rw [vir_P]; simp) hc hg hy
  have ry := h.rg c hc hg _ yl
  have hyx : y.toNat ≠ x := by omega
  have hyz : y.toNat ≠ z := by omega
  rw [vir_ne _ hyx] at yP
  have ndx := h.nd x hx
  rw [vir_P] at ndx
  have hcT : c ∉ T ++ R := by
    rw [List.nodup_append] at ndx
    obtain ⟨_, n2, n3⟩ := ndx
    rw [List.nodup_cons] at n2
    intro hm
    rcases List.mem_append.1 hm with q | q
    · exact n3 c q c (by simp) rfl
    · exact n2.1 q
  have hcz : c ∉ g.P z := fun hm => by
    have := h.sd z (by omega) c (by rw [vir_ne _ hzx]; exact hm) hg
    change g.a c = z ∨ g.b c = z at this
    rcases hab with ⟨q1, q2⟩ | ⟨q1, q2⟩ <;> (change g.a c = _ at q1; change g.b c = _ at q2; rw [q1, q2] at this; rcases this with q | q <;> omega)
  -- the lists as they are now
  have P1 : ((((g.from c f).watch c y z).slot z (g.P z ++ [c]) v).vir x (T ++ R)).P x = T ++ R := vir_P _ _ _
  have P2 : ((((g.from c f).watch c y z).slot z (g.P z ++ [c]) v).vir x (T ++ R)).P z = g.P z ++ [c] := by rw [vir_ne _ hzx]; exact up_same _ _ _
  have P3 : ∀ l, l ≠ x → l ≠ z → ((((g.from c f).watch c y z).slot z (g.P z ++ [c]) v).vir x (T ++ R)).P l = g.P l := fun l h1 h2 => by rw [vir_ne _ h1]; exact up_ne _ _ h2
  have hmem : ∀ l i, i ≠ c → (i ∈ ((((g.from c f).watch c y z).slot z (g.P z ++ [c]) v).vir x (T ++ R)).P l ↔ i ∈ (g.vir x (T ++ c :: R)).P l) := fun l i hi => by
    by_cases e1 : l = x
    · subst e1; rw [P1, vir_P]; simp [hi]
    · by_cases e2 : l = z
      · subst e2; rw [P2, vir_ne _ e1]; simp [hi]
      · rw [P3 l e1 e2, vir_ne _ e1]
  have hA : ∀ i, i ≠ c → ((((g.from c f).watch c y z).slot z (g.P z ++ [c]) v).vir x (T ++ R)).a i = g.a i := fun i hi => up_ne _ _ hi
  have hB : ∀ i, i ≠ c → ((((g.from c f).watch c y z).slot z (g.P z ++ [c]) v).vir x (T ++ R)).b i = g.b i := fun i hi => up_ne _ _ hi
  have hAc : ((((g.from c f).watch c y z).slot z (g.P z ++ [c]) v).vir x (T ++ R)).a c = y := up_same _ _ _
  have hBc : ((((g.from c f).watch c y z).slot z (g.P z ++ [c]) v).vir x (T ++ R)).b c = z := up_same _ _ _
  refine ⟨h.rg, fun i hi hgi => ?_, fun i hi hgi => ?_, fun l hl i hi hgi => ?_, fun l hl => ?_, h.pl, fun i hi hgi => ?_⟩
  · show up g.fr c f i < _ ∨ _
    by_cases e : i = c
    · subst e; rw [up_same]; exact hf
    · rw [up_ne _ _ e]; exact h.fr i hi hgi
  · by_cases e : i = c
    · subst e
      unfold WtOk
      rw [hAc, hBc, Int.toNat_natCast, P2, P3 _ hyx hyz]
      exact .inr ⟨y0, by omega, fun q => hzy q.symm, yl, hz, yP, by simp⟩
    · have := h.wt i hi hgi
      unfold WtOk at this ⊢
      rw [hA i e, hB i e, hmem _ i e, hmem _ i e]
      exact this
  · by_cases e : i = c
    · subst e
      rw [hAc, hBc]
      by_cases e1 : l = x
      · subst e1; rw [P1] at hi; exact absurd hi hcT
      · by_cases e2 : l = z
        · exact .inr (by omega)
        · rw [P3 l e1 e2] at hi
          have := h.sd l hl i (by rw [vir_ne _ e1]; exact hi) hg
          change g.a i = l ∨ g.b i = l at this
          rcases hab with ⟨q1, q2⟩ | ⟨q1, q2⟩ <;> (change g.a i = _ at q1; change g.b i = _ at q2; rw [q1, q2] at this; rcases this with q | q <;> first | exact .inl q | omega)
    · rw [hA i e, hB i e]
      exact h.sd l hl i ((hmem l i e).1 hi) hgi
  · by_cases e1 : l = x
    · subst e1; rw [P1]
      exact ndx.sublist (List.Sublist.append (List.Sublist.refl _) (List.sublist_cons_self _ _))
    · by_cases e2 : l = z
      · subst e2; rw [P2]
        have := h.nd l hl
        rw [vir_ne _ e1] at this
        exact List.nodup_append.2 ⟨this, by simp, fun a ha b hb => by rw [List.mem_singleton] at hb; rw [hb]; intro q; rw [q] at ha; exact hcz ha⟩
      · rw [P3 l e1 e2]
        have := h.nd l hl
        rw [vir_ne _ e1] at this; exact this
  · by_cases e : i = c
    · subst e
      rcases h.ok i hi hgi with q | q
      · exact .inl q
      · refine .inr (.inr ⟨by rw [hAc]; omega, ?_, ?_⟩)
        · rw [hAc, hBc]
          intro q' hq' e'
          exfalso
          have hno : ∃ r : Nat, (litsF L)[r]? = some (x : Int) := by
            rcases q with ⟨q1, _⟩ | ⟨q1, q2, q3⟩
            · change g.a i = -1 at q1
              rcases hab with ⟨r1, r2⟩ | ⟨r1, r2⟩ <;> (change g.a i = _ at r1; omega)
            · rcases hab with ⟨r1, r2⟩ | ⟨r1, r2⟩
              · rw [r1, r2] at q3
                obtain ⟨r, r3, _⟩ := q3 q' hq' e'
                exact ⟨r, r3⟩
              · rw [r1, r2] at q2
                obtain ⟨r, r3, _⟩ := q2 q' hq' e'
                exact ⟨r, r3⟩
          obtain ⟨r, hr⟩ := hno
          exact both_no hnd (by omega) hr hq
        · rw [hAc, hBc]
          exact fun q' _ e' => absurd e' (val_may hnd (by omega) vz q')
    · rcases h.ok i hi hgi with q | q
      · exact .inl q
      · exact .inr (q.as (hA i e) (hB i e) rfl (fun u hu => (hmem _ i e).2 hu))

/-- It stays, and holds by the other one. -/
theorem Inv.stays {L : List E} {y : Int} {dn r : Nat} (h : Inv n g (litsF L) (dT T dn) X) (hnd : ND L) (hx : x < 2 * n) (hm : c ∈ g.P x) (hc : c < g.nx) (hg : g.gn c = false) (hy : besideF g c x = y) (hq : (litsF L)[dn]? = some (U.notF x)) (hr : (litsF L)[r]? = some y) (hl : r ≤ dn ∨ c ∈ g.P (2 * n + vl y)) : Inv n g (litsF L) (dT (T ++ [c]) dn) X := by
  obtain ⟨y0, yx, yl, xl, yP, hab⟩ := h.two (y := y) hx hm hc hg hy
  refine ⟨h.rg, h.fr, h.wt, h.sd, h.nd, h.pl, fun i hi hgi => ?_⟩
  by_cases e : i = c
  · subst e
    refine .inr ?_
    have e1 : dT (T ++ [i]) dn i = dn + 1 := by simp [dT]
    rw [e1]
    have h1 : Hf n g.P (litsF L) (dn + 1) i x y := fun q _ hq2 => ⟨r, hr, by rw [at_inj hnd hq2 hq]; exact hl⟩
    have h2 : Hf n g.P (litsF L) (dn + 1) i y x := fun q _ hq2 => (both_no hnd y0 hr hq2).elim
    rcases hab with ⟨q1, q2⟩ | ⟨q1, q2⟩
    · exact .inr ⟨by omega, by rw [q1, q2]; exact h1, by rw [q1, q2]; exact h2⟩
    · exact .inr ⟨by omega, by rw [q1, q2]; exact h2, by rw [q1, q2]; exact h1⟩
  · have e1 : dT (T ++ [c]) dn i = dT T dn i := by simp [dT, e]
    rw [e1]; exact h.ok i hi hgi

/-- All that watch it are told. -/
theorem Inv.told {L : List E} {dn : Nat} (h : Inv n g (litsF L) (dT T dn) X) (hx : x < 2 * n) (hT : g.P x = T) (hq : (litsF L)[dn]? = some (U.notF x)) : Inv n g (litsF L) (fun _ => dn + 1) X := by
  refine ⟨h.rg, h.fr, h.wt, h.sd, h.nd, h.pl, fun i hi hgi => ?_⟩
  rcases h.ok i hi hgi with q | q
  · exact .inl q
  · by_cases hm : i ∈ T
    · simp only [dT, if_pos hm] at q
      exact .inr q
    · simp only [dT, if_neg hm] at q
      rcases q with q | ⟨q1, q2, q3⟩
      · exact .inr (.inl q)
      · have hw : 0 ≤ g.a i ∧ 0 ≤ g.b i ∧ i ∈ g.P (g.a i).toNat ∧ i ∈ g.P (g.b i).toNat := by
          rcases h.wt i hi hgi with r | ⟨r1, r2, r3, r4, r5, r6, r7⟩
          · exact absurd r.1 q1
          · exact ⟨r1, r2, r6, r7⟩
        have key : ∀ a b : Int, 0 ≤ a → i ∈ g.P a.toNat → Hf n g.P (litsF L) dn i a b → Hf n g.P (litsF L) (dn + 1) i a b := fun a b ha hp hh q hq2 e => by
          by_cases e1 : q < dn
          · exact hh q e1 e
          · have e2 : q = dn := by omega
            subst e2
            rw [hq] at e
            have e3 := Option.some.inj e
            have e4 : a = x := by
              have := (U.not_eq (x := a) (y := x) ha).2
              have h5 := U.not_not (x := (x : Int)) (by omega)
              have h6 := U.not_not ha
              rw [e3] at h5
              omega
            rw [e4, Int.toNat_natCast, hT] at hp
            exact absurd hp hm
        exact .inr (.inr ⟨q1, key _ _ hw.1 hw.2.2.1 q2, key _ _ hw.2.1 hw.2.2.2 q3⟩)
end

end Go.Proofs.YtimfjoinjfecjaaGreat
