/-
  strike: the walk.
-/
import Derived.Test.YtimfjoinjfecjaaGreatP20

namespace Go.Proofs.YtimfjoinjfecjaaGreat
open Go.RowKit Go.Maps
set_option linter.unusedVariables false

theorem append_pstay {w w1 : World} {ops : Array Oper} {rest : List Oper} {o : Oper} {a : Act} {Q : Exit → Act → World → Prop} (hgd : o.guard = none) (s x : Operand)
    (ho : o.op = .call { callee := .builtin .append, args := #[s, x], argTypes := #[82, 82] })
    {cb : Nat → Nat} (c : Nat) (hw : w = w1.alloc (.cells #[.pointer (some ⟨cb c, 0, none⟩)] 92)) {b off n cap m : Nat} (xs : List Nat) (hs : a.eval s = .slice (some ⟨b, off, none⟩) m cap) (own : PRow w1 cb (.slice (some ⟨b, off, none⟩) n cap) xs) (hm : m < n)
    (q : Nat) (hx : a.eval x = .slice (some ⟨q, 0, none⟩) 1 1) (hq : q = w1.heap.size)
    (h : ∀ w', Hid (PRow w' cb (.slice (some ⟨b, off, none⟩) n cap) (xs.set m c)) → Hid (w1.grownBy w' (some b)) → wpList Tryz.prog ops Q rest (a.put o.dst (.slice (some ⟨b, off, none⟩) (m + 1) cap)) w') : wpList Tryz.prog ops Q (o :: rest) a w := by
  obtain ⟨w', hr, h2, h3⟩ := run_pstay o.type c hw own hm q hq
  refine wpList_plain hgd fun K hK => ?_
  unfold Oper.wp execOp
  simp only [ho, resolve, invoke, builtin, Sem.run_bind, Sem.run_pure, Result.andThen_ok, List.map_toArray, List.map_cons, List.map_nil, hs, hx, hr]
  exact hK _ _ (h w' h2 h3)

theorem append_run {w w' : World} {ops : Array Oper} {rest : List Oper} {o : Oper} {a : Act} {Q : Exit → Act → World → Prop} {u v v' : Value} (hgd : o.guard = none) (s x : Operand)
    (ho : o.op = .call { callee := .builtin .append, args := #[s, x], argTypes := #[82, 82] }) (hs : a.eval s = v) (hx : a.eval x = u)
    (hr : ∀ ty, (Builtin.append_ #[82, 82] ty #[v, u]).run Tryz.prog w = .ok v' w') (h : wpList Tryz.prog ops Q rest (a.put o.dst v') w') : wpList Tryz.prog ops Q (o :: rest) a w := by
  refine wpList_plain hgd fun K hK => ?_
  unfold Oper.wp execOp
  simp only [ho, resolve, invoke, builtin, Sem.run_bind, Sem.run_pure, Result.andThen_ok, List.map_toArray, List.map_cons, List.map_nil, hs, hx, hr]
  exact hK _ _ h

section
variable {k : K} {kw : WK} {w w1 w2 w3 : World} {g g1 : G} {L L1 : List E} {lev : Nat} {p p1 : V} {x a c : Nat} {Q T : List Nat} {bd : Option Nat}

theorem StrI.small (h : StrI k kw g L lev p w x Q a T bd g1 L1 p1 w1) (hnx : g.nx ≤ 1000000) (hQ : Q.length ≤ 1000000) : ∀ l, l < 2 * kw.n → (g1.P l).length ≤ 1000000000000 := by
  intro l hl
  by_cases e : l = x
  · subst e; rw [h.ml]; omega
  · have h1 := h.iv.nd l hl
    rw [vir_ne _ e] at h1
    have := nodup_len h1 (h.j.s.l.sub l (by omega))
    rw [h.sm.nx] at this
    omega

theorem StrI.row {b off n cap : Nat} (h : StrI k kw g L lev p w x Q a T bd g1 L1 p1 w1) (hx : x < 2 * kw.n) (ev : g.pv x = .slice (some ⟨b, off, none⟩) n cap) : PRow w1 g.cb (.slice (some ⟨b, off, none⟩) n cap) (g1.P x) := by
  have := h.j.s.l.rw x (by omega)
  rw [h.pv, ev, h.sm.cb] at this
  exact this

theorem StrI.row2 {b off n cap : Nat} {g2 : G} (h : StrI k kw g L lev p w x Q a T bd g1 L1 p1 w1) (hx : x < 2 * kw.n) (ev : g.pv x = .slice (some ⟨b, off, none⟩) n cap) (j : J k kw w2 g2 L1 lev p1) (e2 : g2 = g1 ∨ ∃ f, (f < (g1.lt c).length ∨ g1.lt c = []) ∧ g2 = g1.from c f) : PRow w2 g.cb (.slice (some ⟨b, off, none⟩) n cap) (g1.P x) := by
  have := j.s.l.rw x (by omega)
  rcases e2 with rfl | ⟨f, _, rfl⟩
  · rw [h.pv, ev, h.sm.cb] at this; exact this
  · rw [show (g1.from c f).pv x = g1.pv x from rfl, show (g1.from c f).cb = g1.cb from rfl, h.pv, ev, h.sm.cb] at this; exact this

theorem StrI.stay2 {b off n cap : Nat} {g2 : G} (h : StrI k kw g L lev p w x Q a T none g1 L1 p1 w1) (hx : x < 2 * kw.n) (hc : Q[a]? = some c) (j : J k kw w2 g2 L1 lev p1) (F : FW kw.B w1 w2) (e2 : g2 = g1 ∨ ∃ f, (f < (g1.lt c).length ∨ g1.lt c = []) ∧ g2 = g1.from c f)
    (ev : g.pv x = .slice (some ⟨b, off, none⟩) n cap) (own : PRow w3 g.cb (.slice (some ⟨b, off, none⟩) n cap) ((g1.P x).set T.length c)) (gr : w2.grownBy w3 (some b)) :
    ∃ g3, Hid (StayI k kw g L lev p w x Q a T c g3 L1 p1 w3) ∧ Hid (∀ y, besideF g3 c y = besideF g1 c y) ∧ Hid (g3.pl = g1.pl) := by
  have q1 : g2.P = g1.P ∧ g2.pv = g1.pv ∧ g2.cb = g1.cb ∧ g2.a = g1.a ∧ g2.b = g1.b ∧ g2.pl = g1.pl := by
    rcases e2 with rfl | ⟨f, _, rfl⟩ <;> exact ⟨rfl, rfl, rfl, rfl, rfl, rfl⟩
  obtain ⟨eP, epv, ecb, ea, eb, epl⟩ := q1
  have hv2 : g2.pv x = .slice (some ⟨b, off, none⟩) n cap := by rw [epv, h.pv, ev]
  refine ⟨_, hid (h.stay hx hc j F e2 (by rw [hv2, ecb, h.sm.cb, eP]; exact own) (by rw [hv2]; exact gr)), hid (fun y => ?_), hid epl⟩
  show (if g2.a c = y then g2.b c else g2.a c) = _
  rw [ea, eb]; rfl

theorem self_or (g1 : G) (c : Nat) : g1 = g1 ∨ ∃ f, (f < (g1.lt c).length ∨ g1.lt c = []) ∧ g1 = g1.from c f := .inl rfl

theorem from_or {f : Nat} (hf : f < (g1.lt c).length ∨ g1.lt c = []) : g1.from c f = g1 ∨ ∃ f', (f' < (g1.lt c).length ∨ g1.lt c = []) ∧ g1.from c f = g1.from c f' := .inr ⟨f, hf, rfl⟩

theorem StayI.plx (h : StayI k kw g L lev p w x Q a T c g1 L1 p1 w1) (hq : (litsF L)[g.dn]? = some (U.notF x)) : g1.pl (x / 2) = g.dn := by
  have := h.iv.pl _ _ (h.ex.at hq)
  rw [vl_not (by omega)] at this
  exact this

theorem StayI.ply {m r : Nat} (h : StayI k kw g L lev p w x Q a T c g1 L1 p1 w1) (hr : (litsF L1)[r]? = some (m : Int)) : g1.pl (m / 2) = r := h.iv.pl _ _ hr

theorem StayI.leans {u : Nat} (h : StayI k kw g L lev p w x Q a T c g1 L1 p1 w1) (hsu : sumL kw.n g.P ≤ 400000000000) (ha : a < Q.length) (hQ : Q.length ≤ g.nx) (hnx : g.nx ≤ 1000000) (hu : u < kw.n) : (g1.P (2 * kw.n + u)).length ≤ 1000000000000 := by
  have := sum_le (P := g1.P) hu
  have := h.su
  omega

theorem len_last {L : List E} {e : E} : (litsF (L ++ [e]))[L.length]? = some (e.l : Int) := by
  rw [litsF_app, List.getElem?_append_right (by rw [litsF_len]; exact Nat.le_refl _), litsF_len]
  simp [litsF]

theorem len_lt {d : Nat} (h : d < L.length) (e : Ext L L1 lev) : d < L1.length := Nat.lt_of_lt_of_le h e.len

def StkEnd (k : K) (kw : WK) (g : G) (L : List E) (lev : Nat) (p : V) (w : World) (e : Ending) (w' : World) : Prop :=
  ∃ g' L' p', J k kw w' g' L' lev p' ∧ Rs g' L' ∧ Same g g' ∧ g'.dn = g.dn ∧ (g'.P (3 * kw.n) = g.P (3 * kw.n) ∧ g'.pv (3 * kw.n) = g.pv (3 * kw.n)) ∧ Ext L L' lev ∧ sumL kw.n g'.P ≤ sumL kw.n g.P + g.nx ∧ FT k kw.B p p' w w' ∧
    ((e = .returned (.pointer none) ∧ Inv kw.n g' (litsF L') (fun _ => g.dn + 1) (fun _ => False)) ∨
     ∃ c : Nat, e = .returned (.pointer (some ⟨g.cb c, 0, none⟩)) ∧ c < g.nx ∧ g.gn c = false ∧ (∀ y ∈ g.lt c, valueF L' y = -1) ∧ Inv kw.n g' (litsF L') (fun _ => g.dn) (fun i => i = c))

/-- The list is put back. -/
theorem StrI.fin {v : Value} {m' : Nat} (h : StrI k kw g L lev p w x Q a T bd g1 L1 p1 w1) (hx : x < 2 * kw.n) (hQn : Q.length ≤ g.nx) (hq : (litsF L1)[g.dn]? = some (U.notF x)) (s : St kw w2 (g1.slot x (T ++ Q.drop a) v)) (F : FW kw.B w1 w2) (hend : bd = none → a = Q.length) {e : Ending}
    (he : (bd = none ∧ e = .returned (.pointer none)) ∨ ∃ c, bd = some c ∧ e = .returned (.pointer (some ⟨g.cb c, 0, none⟩))) : StkEnd k kw g L lev p w e w2 := by
  refine ⟨_, L1, p1, h.j.fw F s rfl rfl rfl rfl, h.rs.as rfl rfl rfl, h.sm.trans ⟨rfl, rfl, rfl, rfl, rfl, rfl, rfl, rfl⟩, h.dn, ⟨?_, ?_⟩, h.ex, ?_, h.ft.trans (FT.fw F), ?_⟩
  · rw [← h.wa.1]; exact up_ne _ _ (by omega)
  · rw [← h.wa.2]; exact up_ne _ _ (by omega)
  · have : sumL kw.n (g1.slot x (T ++ Q.drop a) v).P = sumL kw.n g1.P := sum_other (.inl hx) _ v
    rw [this]; have := h.su; have := h.al; omega
  · have iv2 : Inv kw.n (g1.slot x (T ++ Q.drop a) v) (litsF L1) (dT T g.dn) (fun i => bd = some i) := h.iv.like rfl rfl rfl rfl rfl rfl rfl rfl
    rcases he with ⟨e1, e2⟩ | ⟨c, e1, e2⟩
    · refine .inl ⟨e2, ?_⟩
      have ea := hend e1
      have hT : (g1.slot x (T ++ Q.drop a) v).P x = T := by
        rw [show (g1.slot x (T ++ Q.drop a) v).P x = T ++ Q.drop a from up_same _ _ _, ea, List.drop_length, List.append_nil]
      exact (iv2.told hx hT hq).mono (fun _ => Nat.le_refl _) (fun i hi => by rw [e1] at hi; cases hi)
    · obtain ⟨b1, b2, b3⟩ := h.bd c e1
      refine .inr ⟨c, e2, b1, b2, b3, iv2.mono (fun i => ?_) (fun i hi => ?_)⟩
      · unfold dT; split <;> omega
      · rw [e1] at hi; exact (Option.some.inj hi).symm

/-- .. by three steps. -/
theorem StrI.rest {b off n cap : Nat} (h : StrI k kw g L lev p w x Q a T bd g1 L1 p1 w1) (hx : x < 2 * kw.n) (ev : g.pv x = .slice (some ⟨b, off, none⟩) n cap) (hn : n = Q.length) {M : Nat} (hM : T.length + (n - a) = M) (ad ad2 : Addr) (cp cp2 : Nat) (ha : a < n → ad = ⟨b, off + a, none⟩) (ha2 : M < n → ad2 = ⟨b, off + M, none⟩) :
    ∃ w2 w3, (∀ ty, (Builtin.append_ #[82, 82] ty #[.slice (some ⟨b, off, none⟩) T.length cap, .slice (some ad) (n - a) cp]).run Tryz.prog w1 = .ok (.slice (some ⟨b, off, none⟩) M cap) w2) ∧
      (∀ ty, (Builtin.clear_ #[82] ty #[.slice (some ad2) (n - M) cp2]).run Tryz.prog w2 = .ok (.tuple #[]) w3) ∧
      w3.cell? ⟨kw.OB, 2, none⟩ = some (.slice (some ⟨kw.WB, 0, none⟩) (2 * kw.n) (2 * kw.n)) ∧ w3.cell? ⟨kw.WB, x, none⟩ = some (.slice (some ⟨b, off, none⟩) n cap) ∧ w3.frozen? ⟨kw.WB, x, none⟩ = false ∧
      Hid (St kw (w3.setCell ⟨kw.WB, x, none⟩ (.slice (some ⟨b, off, none⟩) M cap)) (g1.slot x (T ++ Q.drop a) (.slice (some ⟨b, off, none⟩) M cap))) ∧ Hid (FW kw.B w1 (w3.setCell ⟨kw.WB, x, none⟩ (.slice (some ⟨b, off, none⟩) M cap))) := by
  subst hM
  subst hn
  have own := h.row hx ev
  have htl := h.tl
  have hal := h.al
  obtain ⟨w2, r1, o1, g1'⟩ := run_prest w1 0 own htl hal ad cp ha
  have hlen : T.length + (Q.length - a) ≤ Q.length := by omega
  obtain ⟨w3, r2, o2, g2'⟩ := run_pcut (m := T.length + (Q.length - a)) w2 0 o1 hlen ad2 cp2 ha2
  have e1 : ((g1.P x).take T.length ++ (g1.P x).drop a ++ (g1.P x).drop (T.length + (Q.length - a))).take (T.length + (Q.length - a)) = T ++ Q.drop a := by
    rw [h.m1, h.m2]
    have : (T ++ Q.drop a).length = T.length + (Q.length - a) := by simp
    rw [← this]; exact List.take_left
  rw [e1] at o2
  have hsub : ∀ i ∈ T ++ Q.drop a, i < g1.nx := fun i hi => by
    refine h.j.s.l.sub x (by omega) i ?_
    rcases List.mem_append.1 hi with q | q
    · rw [← h.m1] at q; exact List.mem_of_mem_take q
    · rw [← h.m2] at q; exact List.mem_of_mem_drop q
  have hpv : g1.pv x = .slice (some ⟨b, off, none⟩) Q.length cap := h.pv.trans ev
  obtain ⟨q0, q1, q2, s6, F6⟩ := h.j.s.setw hx hsub (by rw [h.sm.cb]; exact o2) (by rw [hpv]; exact grown_two g1' g2') (by rw [hpv]; exact fun j hj => .inl hj)
  rw [hpv] at q1
  exact ⟨w2, w3, fun ty => r1, fun ty => r2, q0, q1, q2, s6, F6⟩
end

section
variable {k : K} {kw : WK} {w : World} {g : G} {L : List E} {lev : Nat} {p : V}

set_option maxHeartbeats 4000000 in
theorem strike_row (j : J k kw w g L lev p) (iv : Inv kw.n g (litsF L) (fun _ => g.dn) (fun _ => False)) (rs : Rs g L) (x : Nat) (hx : x < 2 * kw.n) (hq : (litsF L)[g.dn]? = some (U.notF x)) (hnx : g.nx ≤ 1000000) (hsu : sumL kw.n g.P ≤ 400000000000) {b off n cap : Nat} (ev : g.pv x = .slice (some ⟨b, off, none⟩) n cap) :
    Calls Tryz.prog 78 #[.pointer (some ⟨kw.OB, 0, none⟩), .pointer (some ⟨k.OB, 0, none⟩), .int .i64 x] w fun e w' => StkEnd k kw g L lev p w e w' := by
  obtain ⟨Q, hQ⟩ : ∃ Q, g.P x = Q := ⟨_, rfl⟩
  have hn : n = Q.length ∧ n ≤ cap ∧ cap ≤ maxLen := by
    obtain ⟨_, _, e, h1, h2⟩ := (j.s.l.rw x (by omega)).shape
    rw [ev] at e; cases e
    rw [hQ] at h1 ⊢
    exact ⟨rfl, h1, h2⟩
  obtain ⟨hn, hc1, hc2⟩ := hn
  unfold maxLen at hc2
  have hc3 : (cap : Int) ≤ 9223372036854775807 := by omega
  have hQn : Q.length ≤ g.nx := by rw [← hQ]; exact nodup_len (iv.nd x hx) (j.s.l.sub x (by omega))
  have c2 := j.s.c2
  have cx := j.s.c.wc hx
  rw [ev] at cx
  have hx' : (x : Int) < 2 * kw.n := by omega
  have hkn := j.s.l.hn
  have hdl : g.dn < L.length := by have := (List.getElem?_eq_some_iff.1 hq).1; rw [litsF_len] at this; exact this
  have SI : Hid (StrI k kw g L lev p w x Q 0 [] none g L p w) := hid (by
    refine ⟨j, rs, Same.refl g, rfl, ⟨rfl, rfl⟩, rfl, by rw [hQ], by simp, by rw [hQ], by simp, by simp, ?_, (fun c e => by cases e), Ext.refl _ _, by omega, FT.refl _ _ _ _⟩
    have e1 : ([] : List Nat) ++ Q.drop 0 = g.P x := by rw [hQ]; simp
    rw [e1, vir_self]
    exact iv.mono (fun i => by simp [dT]) (fun i hi => hi.elim))
  have HQ := hid hq
  have HEV := hid ev
  have HN := hid hn
  subst hn
  clear j iv rs ev hq hQ
  go_enter Tryz.func78, Tryz.ntmps78
  go_wp2
  go_loopw [8, 9, 10, 11, 12] (fun st at_ bd _ _ wr => ∃ (a : Nat) (T : List Nat) (bdo : Option Nat) (g1 : G) (L1 : List E) (p1 : V), st = .slice (some ⟨b, off, none⟩) T.length cap ∧ at_ = .int .i64 a ∧ a ≤ Q.length ∧ ((bdo = none ∧ bd = .pointer none) ∨ ∃ c, bdo = some c ∧ bd = .pointer (some ⟨g.cb c, 0, none⟩)) ∧ Hid (StrI k kw g L lev p w x Q a T bdo g1 L1 p1 wr)) (fun _ at_ _ _ _ _ => Q.length - (intOf at_).toNat)
  case atStart => exact ⟨0, [], none, g, L, p, rfl, rfl, Nat.zero_le _, .inl ⟨rfl, rfl⟩, SI⟩
  case round =>
    clear SI c2 cx
    obtain ⟨a, T, bdo, g1, L1, p1, rfl, rfl, ha, hbd, si⟩ := hrel
    have HQ1 : Hid ((litsF L1)[g.dn]? = some (U.notF x)) := hid (si.out.ex.at HQ.out)
    have htl := si.out.tl
    rcases hbd with ⟨rfl, rfl⟩ | ⟨cbad, rfl, rfl⟩
    · by_cases hlt : a < Q.length
      · obtain ⟨c, hc⟩ : ∃ c, Q[a]? = some c := ⟨_, List.getElem?_eq_getElem hlt⟩
        have HC := hid hc
        have cc := (si.out.row hx HEV.out).at (si.out.at hc)
        have hcm1 : c ∈ g1.P x := List.mem_of_getElem? (si.out.at hc)
        have hcn1 := si.out.j.s.l.sub x (by omega) c hcm1
        have hcn : c < g.nx := by rw [← si.out.sm.nx]; exact hcn1
        have c5 := si.out.j.s.l.k5 hcn1
        rw [si.out.sm.cb, si.out.sm.gn] at c5
        have hlt' : (a : Int) < Q.length := by omega
        cases hg : g.gn c
        · rw [hg] at c5
          have hg1 : g1.gn c = false := by rw [si.out.sm.gn]; exact hg
          obtain ⟨y, hy⟩ : ∃ y, besideF g1 c x = y := ⟨_, rfl⟩
          have hmv : c ∈ (g1.vir x (T ++ Q.drop a)).P x := by rw [vir_P, drop_cons hc]; simp
          obtain ⟨y0, yx, yl, xl, _, hab⟩ := si.out.iv.two (y := y) hx hmv hcn1 hg1 hy
          obtain ⟨m, rfl⟩ := Int.eq_ofNat_of_zero_le y0
          have ry := si.out.iv.rg c hcn1 hg1 _ yl
          have hml : m < 2 * kw.n := by omega
          have hmx : (m : Int) ≤ 9223372036854775807 := by omega
          have hmu : m / 2 < kw.n := by omega
          have hxu : x / 2 < kw.n := by omega
          have HY := hid hy
          have HRG : Hid (∀ z ∈ g1.lt c, 0 ≤ z ∧ z < 2 * kw.n) := hid (fun z hz => si.out.iv.rg c hcn1 hg1 z hz)
          have HFR : Hid (g1.fr c < (g1.lt c).length ∨ g1.lt c = []) := hid (si.out.iv.fr c hcn1 hg1)
          have hd1 := len_lt hdl si.out.ex
          have hd2 : (g.dn : Int) < L1.length := by omega
          have HSM := hid (si.out.small hnx (by omega))
          have HYL : Hid ((m : Int) ∈ g.lt c) := hid (by rw [← si.out.sm.lt]; exact yl)
          have plx : Hid (g1.pl (x / 2) = g.dn) := hid (by
            have := si.out.iv.pl _ _ HQ1.out
            rw [vl_not (by omega)] at this
            exact this)
          have hTl : T.length < Q.length := by omega
          have hsu1 : sumL kw.n g1.P ≤ 500000000000 := by have := si.out.su; omega
          have ROW0 := hid (si.out.row hx HEV.out)
          clear hc hy y0 yl xl hab hmv ry hcm1
          rcases val_cases (L := L1) (m : Int) with hv | ⟨hv, _, r, hr⟩ | ⟨hv, _, _⟩
          · have HV := hid hv
            have HV0 : Hid (valueF L1 (m : Int) ≤ 0) := hid (by omega)
            clear hv
            go_wp2_with (first
              | (go_at_call 116; have T0 := move_seek si.out.j hcn1 hg1 x m HY.out hmx HRG.out HFR.out HSM.out HV0.out; rw [si.out.sm.cb] at T0; with_reducible (refine T0.mono ?_); rintro e w2 (⟨f, rfl, hno, hf, J2, F2⟩ | ⟨f, z, v, rfl, hz, J2, F2⟩); have E2 := hid (from_or hf.out); have ROW := hid (si.out.row2 hx HEV.out J2.out E2.out))
              | (at_builtin; refine append_pstay (w1 := w2) (cb := g.cb) rfl _ _ rfl c rfl (g1.P x) rfl ROW.out hTl _ rfl rfl ?_; intro w3 own3 gr3; have S3 := si.out.stay2 hx HC.out J2.out F2.out E2.out HEV.out own3.out gr3.out; obtain ⟨g3, S3, hb3, hp3⟩ := S3; have HB3 := hid ((hb3.out x).trans HY.out); have hc3 := hid (show c < g3.nx by rw [S3.out.sm.nx]; exact hcn); have hg3 := hid (show g3.gn c = false by rw [S3.out.sm.gn]; exact hg))
              | (go_at_call 117; have T0 := beside_is S3.out.j.s.l hc3.out hg3.out x m HB3.out; rw [S3.out.sm.cb] at T0; with_reducible (refine T0.mono ?_); rintro e w3 ⟨rfl, rfl⟩)
              | (go_at_call 114; have T0 := follow_new S3.out.j hc3.out hg3.out m (m / 2) rfl hmu HV.out; rw [S3.out.sm.cb] at T0; with_reducible (refine T0.mono ?_); rintro e w4 ⟨rfl, p4, J4, F4⟩; have S4 := hid (S3.out.new hdl hcn hg HYL.out rfl HV.out (fun y hy hne => hno.out y (by rw [si.out.sm.lt]; exact hy) hne) J4.out F4.out); have HP1 := hid (S4.out.ply (r := L1.length) len_last); have HP2 := hid (S4.out.plx HQ.out))
              | (go_at_call 118; have T0 := place_is S4.out.j.s m (m / 2) rfl hmu; rw [HP1.out] at T0; with_reducible (refine T0.mono ?_); rintro e w5 ⟨rfl, b5⟩; have S5 := hid (S4.out.below b5.out))
              | (go_at_call 118; have T0 := place_is S5.out.j.s x (x / 2) rfl hxu; rw [HP2.out] at T0; with_reducible (refine T0.mono ?_); rintro e w6 ⟨rfl, b6⟩; have S6 := hid (S5.out.below b6.out))
              | (go_at_call 115; have T0 := lean_is S6.out.j.s hc3.out m (m / 2) rfl hmu (S6.out.leans hsu hlt hQn hnx hmu); rw [S6.out.sm.cb] at T0; with_reducible (refine T0.mono ?_); rintro e w7 ⟨rfl, v7, s7, f7⟩))
            · have S8 := S6.out.lean hx hcn hg HB3.out rfl hmu (S6.out.ex.at HQ.out) len_last s7.out f7.out
              refine ⟨⟨a + 1, T ++ [c], none, _, _, _, by simp, by go_num, by omega, .inl ⟨rfl, rfl⟩, hid S8⟩, by simp only [intOf]; omega⟩
            · have S8 := si.out.moved hx HC.out hcn hg HY.out HQ1.out hz.out J2.out F2.out
              refine ⟨⟨a + 1, T, none, _, _, _, rfl, by go_num, by omega, .inl ⟨rfl, rfl⟩, hid S8⟩, by simp only [intOf]; omega⟩
          · have HV := hid hv
            have HR := hid hr
            clear hv hr
            by_cases hrd : g.dn < r
            · have hrd' : (g.dn : Int) < r := by omega
              go_wp2_with (first
                | (go_at_call 116; have T0 := move_held si.out.j hcn1 hg1 x m HY.out hmx HRG.out HFR.out HSM.out HV.out; rw [si.out.sm.cb] at T0; with_reducible (refine T0.mono ?_); rintro e w2 ⟨rfl, b2⟩; have J2 := hid (si.out.j.below b2.out); have ROW := hid (si.out.row2 hx HEV.out J2.out (self_or g1 c)))
                | (at_builtin; refine append_pstay (w1 := w2) (cb := g.cb) rfl _ _ rfl c rfl (g1.P x) rfl ROW.out hTl _ rfl rfl ?_; intro w3 own3 gr3; have S3 := si.out.stay2 hx HC.out J2.out (FW.below b2.out) (self_or g1 c) HEV.out own3.out gr3.out; obtain ⟨g3, S3, hb3, hp3⟩ := S3; have HB3 := hid ((hb3.out x).trans HY.out); have hc3 := hid (show c < g3.nx by rw [S3.out.sm.nx]; exact hcn); have hg3 := hid (show g3.gn c = false by rw [S3.out.sm.gn]; exact hg))
                | (go_at_call 117; have T0 := beside_is S3.out.j.s.l hc3.out hg3.out x m HB3.out; rw [S3.out.sm.cb] at T0; with_reducible (refine T0.mono ?_); rintro e w3 ⟨rfl, rfl⟩)
                | (go_at_call 114; have T0 := follow_held S3.out.j hc3.out (m : Int) hmx HV.out; rw [S3.out.sm.cb] at T0; with_reducible (refine T0.mono ?_); rintro e w4 ⟨rfl, b4⟩; have S4 := hid (S3.out.below b4.out); have HP1 := hid (S4.out.ply HR.out); have HP2 := hid (S4.out.plx HQ.out))
                | (go_at_call 118; have T0 := place_is S4.out.j.s m (m / 2) rfl hmu; rw [HP1.out] at T0; with_reducible (refine T0.mono ?_); rintro e w5 ⟨rfl, b5⟩; have S5 := hid (S4.out.below b5.out))
                | (go_at_call 118; have T0 := place_is S5.out.j.s x (x / 2) rfl hxu; rw [HP2.out] at T0; with_reducible (refine T0.mono ?_); rintro e w6 ⟨rfl, b6⟩; have S6 := hid (S5.out.below b6.out))
                | (go_at_call 115; have T0 := lean_is S6.out.j.s hc3.out m (m / 2) rfl hmu (S6.out.leans hsu hlt hQn hnx hmu); rw [S6.out.sm.cb] at T0; with_reducible (refine T0.mono ?_); rintro e w7 ⟨rfl, v7, s7, f7⟩))
              have S8 := S6.out.lean hx hcn hg HB3.out rfl hmu (S6.out.ex.at HQ.out) HR.out s7.out f7.out
              refine ⟨⟨a + 1, T ++ [c], none, _, _, _, by simp, by go_num, by omega, .inl ⟨rfl, rfl⟩, hid S8⟩, by simp only [intOf]; omega⟩
            · have hrd' : ¬ (g.dn : Int) < r := by omega
              have hrdd : decide (g.dn < r) = false := by simpa using hrd
              go_wp2_with (first
                | (go_at_call 116; have T0 := move_held si.out.j hcn1 hg1 x m HY.out hmx HRG.out HFR.out HSM.out HV.out; rw [si.out.sm.cb] at T0; with_reducible (refine T0.mono ?_); rintro e w2 ⟨rfl, b2⟩; have J2 := hid (si.out.j.below b2.out); have ROW := hid (si.out.row2 hx HEV.out J2.out (self_or g1 c)))
                | (at_builtin; refine append_pstay (w1 := w2) (cb := g.cb) rfl _ _ rfl c rfl (g1.P x) rfl ROW.out hTl _ rfl rfl ?_; intro w3 own3 gr3; have S3 := si.out.stay2 hx HC.out J2.out (FW.below b2.out) (self_or g1 c) HEV.out own3.out gr3.out; obtain ⟨g3, S3, hb3, hp3⟩ := S3; have HB3 := hid ((hb3.out x).trans HY.out); have hc3 := hid (show c < g3.nx by rw [S3.out.sm.nx]; exact hcn); have hg3 := hid (show g3.gn c = false by rw [S3.out.sm.gn]; exact hg))
                | (go_at_call 117; have T0 := beside_is S3.out.j.s.l hc3.out hg3.out x m HB3.out; rw [S3.out.sm.cb] at T0; with_reducible (refine T0.mono ?_); rintro e w3 ⟨rfl, rfl⟩)
                | (go_at_call 114; have T0 := follow_held S3.out.j hc3.out (m : Int) hmx HV.out; rw [S3.out.sm.cb] at T0; with_reducible (refine T0.mono ?_); rintro e w4 ⟨rfl, b4⟩; have S4 := hid (S3.out.below b4.out); have HP1 := hid (S4.out.ply HR.out); have HP2 := hid (S4.out.plx HQ.out))
                | (go_at_call 118; have T0 := place_is S4.out.j.s m (m / 2) rfl hmu; rw [HP1.out] at T0; with_reducible (refine T0.mono ?_); rintro e w5 ⟨rfl, b5⟩; have S5 := hid (S4.out.below b5.out))
                | (go_at_call 118; have T0 := place_is S5.out.j.s x (x / 2) rfl hxu; rw [HP2.out] at T0; with_reducible (refine T0.mono ?_); rintro e w6 ⟨rfl, b6⟩; have S6 := hid (S5.out.below b6.out)))
              have S8 := S6.out.done hx hcn hg HB3.out (S6.out.ex.at HQ.out) HR.out (by omega)
              refine ⟨⟨a + 1, T ++ [c], none, _, _, _, by simp, by go_num, by omega, .inl ⟨rfl, rfl⟩, hid S8⟩, by simp only [intOf]; omega⟩
          · have HV := hid hv
            have HV0 : Hid (valueF L1 (m : Int) ≤ 0) := hid (by omega)
            clear hv
            go_wp2_with (first
              | (go_at_call 116; have T0 := move_seek si.out.j hcn1 hg1 x m HY.out hmx HRG.out HFR.out HSM.out HV0.out; rw [si.out.sm.cb] at T0; with_reducible (refine T0.mono ?_); rintro e w2 (⟨f, rfl, hno, hf, J2, F2⟩ | ⟨f, z, v, rfl, hz, J2, F2⟩); have E2 := hid (from_or hf.out); have ROW := hid (si.out.row2 hx HEV.out J2.out E2.out))
              | (at_builtin; refine append_pstay (w1 := w2) (cb := g.cb) rfl _ _ rfl c rfl (g1.P x) rfl ROW.out hTl _ rfl rfl ?_; intro w3 own3 gr3; have S3 := si.out.stay2 hx HC.out J2.out F2.out E2.out HEV.out own3.out gr3.out; obtain ⟨g3, S3, hb3, hp3⟩ := S3; have HB3 := hid ((hb3.out x).trans HY.out); have hc3 := hid (show c < g3.nx by rw [S3.out.sm.nx]; exact hcn); have hg3 := hid (show g3.gn c = false by rw [S3.out.sm.gn]; exact hg))
              | (go_at_call 117; have T0 := beside_is S3.out.j.s.l hc3.out hg3.out x m HB3.out; rw [S3.out.sm.cb] at T0; with_reducible (refine T0.mono ?_); rintro e w3 ⟨rfl, rfl⟩)
              | (go_at_call 114; have T0 := follow_no S3.out.j hc3.out (m : Int) hmx HV.out; rw [S3.out.sm.cb] at T0; with_reducible (refine T0.mono ?_); rintro e w4 ⟨rfl, b4⟩; have S4 := hid (S3.out.below b4.out)))
            · have S8 := S4.out.bad hcn hg (fun y hy => by
                by_cases e : y = m
                · rw [e]; exact HV.out
                · exact (val_neg (hno.out y (by rw [si.out.sm.lt]; exact hy) e)).1)
              refine ⟨⟨a + 1, T ++ [c], some c, _, _, _, by simp, by go_num, by omega, .inr ⟨c, rfl, rfl⟩, hid S8⟩, by simp only [intOf]; omega⟩
            · have S8 := si.out.moved hx HC.out hcn hg HY.out HQ1.out hz.out J2.out F2.out
              refine ⟨⟨a + 1, T, none, _, _, _, rfl, by go_num, by omega, .inl ⟨rfl, rfl⟩, hid S8⟩, by simp only [intOf]; omega⟩
        · rw [hg] at c5
          have S8 := hid (si.out.gone hx hc hg)
          clear hc
          go_wp2
          refine ⟨⟨a + 1, T, none, _, _, _, rfl, by go_num, by omega, .inl ⟨rfl, rfl⟩, S8⟩, by simp only [intOf]; omega⟩
      · obtain ⟨M, hM⟩ : ∃ M, T.length + (Q.length - a) = M := ⟨_, rfl⟩
        have HM := hid hM
        have hMl : M ≤ Q.length := by omega
        have hi1 : (a : Int) ≤ Q.length := by omega
        have hi2 : (a : Int) ≤ cap := by omega
        have hi3 : (M : Int) ≤ Q.length := by omega
        have hi4 : (M : Int) ≤ cap := by omega
        by_cases h1 : cap = a
        · subst h1
          by_cases h2 : cap = M
          · subst h2
            obtain ⟨w2, w3, r1, r2, q0, q1, q2, s6, F6⟩ := si.out.rest hx HEV.out rfl hM ⟨b, off, none⟩ ⟨b, off, none⟩ 0 0 (fun h => by omega) (fun h => by omega)
            have hz : Q.length - cap = 0 := by omega
            rw [hz] at r1 r2
            clear hM hMl hz
            have R1 := hid r1
            clear r1
            go_wp2_with (at_builtin; refine append_run rfl _ _ rfl rfl rfl R1.out ?_)
            all_goals go_ret
            all_goals exact si.out.fin (m' := 0) hx hQn HQ1.out s6.out F6.out (fun _ => by omega) (.inl ⟨rfl, rfl⟩)
          · obtain ⟨w2, w3, r1, r2, q0, q1, q2, s6, F6⟩ := si.out.rest hx HEV.out rfl hM ⟨b, off, none⟩ ⟨b, off + M, none⟩ 0 (cap - M) (fun h => by omega) (fun h => rfl)
            have hz : Q.length - cap = 0 := by omega
            rw [hz] at r1
            clear hM hMl hz
            have R1 := hid r1
            clear r1
            go_wp2_with (at_builtin; refine append_run rfl _ _ rfl rfl rfl R1.out ?_)
            all_goals go_ret
            all_goals exact si.out.fin (m' := 0) hx hQn HQ1.out s6.out F6.out (fun _ => by omega) (.inl ⟨rfl, rfl⟩)
        · by_cases h2 : cap = M
          · exfalso; omega
          · obtain ⟨w2, w3, r1, r2, q0, q1, q2, s6, F6⟩ := si.out.rest hx HEV.out rfl hM ⟨b, off + a, none⟩ ⟨b, off + M, none⟩ (cap - a) (cap - M) (fun h => rfl) (fun h => rfl)
            clear hM hMl
            have R1 := hid r1
            clear r1
            go_wp2_with (at_builtin; refine append_run rfl _ _ rfl rfl rfl R1.out ?_)
            all_goals go_ret
            all_goals exact si.out.fin (m' := 0) hx hQn HQ1.out s6.out F6.out (fun _ => by omega) (.inl ⟨rfl, rfl⟩)
    · obtain ⟨M, hM⟩ : ∃ M, T.length + (Q.length - a) = M := ⟨_, rfl⟩
      have HM := hid hM
      have hMl : M ≤ Q.length := by omega
      have hi1 : (a : Int) ≤ Q.length := by omega
      have hi2 : (a : Int) ≤ cap := by omega
      have hi3 : (M : Int) ≤ Q.length := by omega
      have hi4 : (M : Int) ≤ cap := by omega
      by_cases h1 : cap = a
      · subst h1
        by_cases h2 : cap = M
        · subst h2
          obtain ⟨w2, w3, r1, r2, q0, q1, q2, s6, F6⟩ := si.out.rest hx HEV.out rfl hM ⟨b, off, none⟩ ⟨b, off, none⟩ 0 0 (fun h => by omega) (fun h => by omega)
          have hz : Q.length - cap = 0 := by omega
          rw [hz] at r1 r2
          clear hM hMl hz
          have R1 := hid r1
          clear r1
          go_wp2_with (at_builtin; refine append_run rfl _ _ rfl rfl rfl R1.out ?_)
          all_goals go_ret
          all_goals exact si.out.fin (m' := 0) hx hQn HQ1.out s6.out F6.out (fun h => by cases h) (.inr ⟨cbad, rfl, rfl⟩)
        · obtain ⟨w2, w3, r1, r2, q0, q1, q2, s6, F6⟩ := si.out.rest hx HEV.out rfl hM ⟨b, off, none⟩ ⟨b, off + M, none⟩ 0 (cap - M) (fun h => by omega) (fun h => rfl)
          have hz : Q.length - cap = 0 := by omega
          rw [hz] at r1
          clear hM hMl hz
          have R1 := hid r1
          clear r1
          go_wp2_with (at_builtin; refine append_run rfl _ _ rfl rfl rfl R1.out ?_)
          all_goals go_ret
          all_goals exact si.out.fin (m' := 0) hx hQn HQ1.out s6.out F6.out (fun h => by cases h) (.inr ⟨cbad, rfl, rfl⟩)
      · by_cases h2 : cap = M
        · subst h2
          obtain ⟨w2, w3, r1, r2, q0, q1, q2, s6, F6⟩ := si.out.rest hx HEV.out rfl hM ⟨b, off + a, none⟩ ⟨b, off, none⟩ (cap - a) 0 (fun h => rfl) (fun h => by omega)
          have hz : Q.length - cap = 0 := by omega
          rw [hz] at r2
          clear hM hMl hz
          have R1 := hid r1
          clear r1
          go_wp2_with (at_builtin; refine append_run rfl _ _ rfl rfl rfl R1.out ?_)
          all_goals go_ret
          all_goals exact si.out.fin (m' := 0) hx hQn HQ1.out s6.out F6.out (fun h => by cases h) (.inr ⟨cbad, rfl, rfl⟩)
        · obtain ⟨w2, w3, r1, r2, q0, q1, q2, s6, F6⟩ := si.out.rest hx HEV.out rfl hM ⟨b, off + a, none⟩ ⟨b, off + M, none⟩ (cap - a) (cap - M) (fun h => rfl) (fun h => rfl)
          clear hM hMl
          have R1 := hid r1
          clear r1
          go_wp2_with (at_builtin; refine append_run rfl _ _ rfl rfl rfl R1.out ?_)
          all_goals go_ret
          all_goals exact si.out.fin (m' := 0) hx hQn HQ1.out s6.out F6.out (fun h => by cases h) (.inr ⟨cbad, rfl, rfl⟩)

theorem strike_nil (j : J k kw w g L lev p) (iv : Inv kw.n g (litsF L) (fun _ => g.dn) (fun _ => False)) (rs : Rs g L) (x : Nat) (hx : x < 2 * kw.n) (hq : (litsF L)[g.dn]? = some (U.notF x)) (ev : g.pv x = .slice none 0 0) (hP : g.P x = []) :
    Calls Tryz.prog 78 #[.pointer (some ⟨kw.OB, 0, none⟩), .pointer (some ⟨k.OB, 0, none⟩), .int .i64 x] w fun e w' => StkEnd k kw g L lev p w e w' := by
  have c2 := j.s.c2
  have cx := j.s.c.wc hx
  have fx := j.s.c.wf x
  rw [ev] at cx
  have hx' : (x : Int) < 2 * kw.n := by omega
  have hkn := j.s.l.hn
  have own : PRow w g.cb (.slice none 0 0) [] := .inl ⟨rfl, rfl⟩
  have r1 : ∀ ty, (Builtin.append_ #[82, 82] ty #[.slice none 0 0, .slice none 0 0]).run Tryz.prog w = .ok (.slice none 0 0) w := fun ty => run_pnone w ty own
  have r2 := run_clear0 w 0 none 0
  obtain ⟨q0, q1, q2, s6, F6⟩ := j.s.setw hx (zs := []) (fun i hi => by simp at hi) own (by rw [ev]; exact ⟨rfl, rfl, rfl, Nat.le_refl _, fun _ _ _ => rfl⟩) (fun j hj => by simp [Value.ownBlock] at hj)
  have HE : Hid (StkEnd k kw g L lev p w (.returned (.pointer none)) (w.setCell ⟨kw.WB, x, none⟩ (.slice none 0 0))) := hid (by
    refine ⟨_, L, p, j.fw F6.out s6.out rfl rfl rfl rfl, rs.as rfl rfl rfl, ⟨rfl, rfl, rfl, rfl, rfl, rfl, rfl, rfl⟩, rfl, ⟨up_ne _ _ (by omega), up_ne _ _ (by omega)⟩, Ext.refl _ _, ?_, FT.fw F6.out, .inl ⟨rfl, ?_⟩⟩
    · have : sumL kw.n (g.slot x [] (.slice none 0 0)).P = sumL kw.n g.P := sum_other (.inl hx) _ (.slice none 0 0)
      rw [this]; omega
    · have iv2 : Inv kw.n (g.slot x [] (.slice none 0 0)) (litsF L) (dT [] g.dn) (fun _ => False) := by
        refine Inv.like (g := g) (iv.mono (fun i => by simp [dT]) (fun i hi => hi)) rfl rfl rfl rfl rfl rfl ?_ rfl
        show up g.P x [] = g.P
        rw [← hP]; exact up_self _ _
      exact iv2.told hx (up_same _ _ _) hq)
  have R1 := hid r1
  clear j iv rs ev hq hP own r1 s6 F6 q0 q1 q2
  go_enter Tryz.func78, Tryz.ntmps78
  go_wp2_with (at_builtin; refine append_run rfl _ _ rfl rfl rfl R1.out ?_)
  go_loopw [8, 9, 10, 11, 12] (fun st at_ bd _ _ wr => st = .slice none 0 0 ∧ at_ = .int .i64 0 ∧ bd = .pointer none ∧ wr = w) (fun _ _ _ _ _ _ => 0)
  case atStart => exact ⟨rfl, rfl, rfl, rfl⟩
  case round =>
    obtain ⟨rfl, rfl, rfl, rfl⟩ := hrel
    go_wp2_with (at_builtin; refine append_run rfl _ _ rfl rfl rfl R1.out ?_)
    go_ret
    exact HE.out

theorem strike_is (j : J k kw w g L lev p) (iv : Inv kw.n g (litsF L) (fun _ => g.dn) (fun _ => False)) (rs : Rs g L) (x : Nat) (hx : x < 2 * kw.n) (hq : (litsF L)[g.dn]? = some (U.notF x)) (hnx : g.nx ≤ 1000000) (hsu : sumL kw.n g.P ≤ 400000000000) :
    Calls Tryz.prog 78 #[.pointer (some ⟨kw.OB, 0, none⟩), .pointer (some ⟨k.OB, 0, none⟩), .int .i64 x] w fun e w' => StkEnd k kw g L lev p w e w' := by
  rcases j.s.l.rw x (by omega) with ⟨h1, h2⟩ | ⟨b, off, cap, cur, h1, _⟩
  · exact strike_nil j iv rs x hx hq h1 h2
  · exact strike_row j iv rs x hx hq hnx hsu h1
end

end Go.Proofs.YtimfjoinjfecjaaGreat
