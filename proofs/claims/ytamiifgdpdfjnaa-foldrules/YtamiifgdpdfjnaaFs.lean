/-
  Each rule of chapter 17, of a term, a 0 and a 1 of its width, plain. No Go text here.
-/
import Derived.Test.YtamiifgdpdfjnaaFq
namespace Go.Proofs.Ytamiifgdpdfjnaa
open Go.RowKit
set_option linter.unusedVariables false

/-- The term t is the node m; z is a 0, u a 1, as wide as it. -/
structure Pn (N : List Nd) (t : Int) (m : Nd) (z u : Int) : Prop where
  wl : Wl N
  ti : isN N t = true
  tn : ndA N t = m
  zi : isN N z = true
  zn : ndA N z = ⟨20, m.wd, 0, 0, 0, 0⟩
  ui : isN N u = true
  un : ndA N u = ⟨20, m.wd, 0, 0, 0, 1⟩
  wd : 1 ≤ m.wd ∧ m.wd ≤ 64

theorem fbin_known {N : List Nd} {op a b w : Int} (ha : alk N a b = true) (hw : wdF N a = w) (h1 : 1 ≤ w ∧ w ≤ 64) (hs : sure N op a b = true) (ho : 1 ≤ op ∧ op ≤ 14) {x y : Int} (hx : conV N a = x) (hy : conV N b = y) : fbinP N op a b = constP (opW op w) (Wd.binF op w x y) := by
  have e : setB N op a b = true := by unfold setB; rw [hs, hw, (Wd.bin_yes (a := 0) (b := 0) ho h1).2]; rfl
  have e2 : setV N op a b = Wd.binF op w x y := by unfold setV; rw [hs, hw, hx, hy]; rfl
  unfold fbinP
  rw [ha, e, hw, e2]; rfl
theorem fbin_one {N : List Nd} {op a b i : Int} (ha : alk N a b = true) (hs : sure N op a b = false) (h : oneO N op a b = some i) : fbinP N op a b = .inl (i, 0) := by
  have e : setB N op a b = false := by unfold setB; rw [hs]; rfl
  have e2 : oneB N op a b = true := by unfold oneB; rw [h]; rfl
  have e3 : oneI N op a b = i := by unfold oneI; rw [h]; rfl
  unfold fbinP
  rw [ha, e, e2, e3]; rfl

theorem con_in {N : List Nd} {a w v : Int} (h : ndA N a = ⟨20, w, 0, 0, 0, v⟩) : conB N a = true ∧ conV N a = v ∧ wdF N a = w := by
  simp [conB, conV, wdF, h]
theorem con_out {N : List Nd} {a : Int} (h : (ndA N a).op ≠ 20) : conB N a = false ∧ ∀ x, isC N a x = false := by
  have e : conB N a = false := by simp [conB, h]
  exact ⟨e, fun x => by simp [isC, e]⟩
theorem is_in {N : List Nd} {a w v : Int} (h : ndA N a = ⟨20, w, 0, 0, 0, v⟩) (x : Int) : isC N a x = (v == x) := by
  unfold isC; rw [(con_in h).1, (con_in h).2.1]; rfl
theorem alk_of {N : List Nd} {a b w : Int} (ha : wdF N a = w) (hb : wdF N b = w) (h : 1 ≤ w) : alk N a b = true := by
  unfold alk; rw [ha, hb]; simp; omega
theorem sure_no {N : List Nd} {a b : Int} (ha : conB N a = false) (hb : conB N b = true) (op : Int) : sure N op a b = false ∧ sure N op b a = false := by
  have h : (a == b) = false := by
    simp only [beq_eq_false_iff_ne]
    intro e; subst e; rw [ha] at hb; cases hb
  have h2 : (b == a) = false := by
    simp only [beq_eq_false_iff_ne]
    intro e; subst e; rw [ha] at hb; cases hb
  unfold sure
  rw [ha, hb, h, h2]; exact ⟨rfl, rfl⟩

section
variable {N : List Nd} {t z u : Int} {m : Nd}

theorem Pn.tw (h : Pn N t m z u) : wdF N t = m.wd := by unfold wdF; rw [h.tn]
theorem Pn.ext (h : Pn N t m z u) {N' : List Nd} (e : Ext N N') (r : Wl N') : Pn N' t m z u :=
  ⟨r, e.isN h.ti, (e.ndA h.ti).trans h.tn, e.isN h.zi, (e.ndA h.zi).trans h.zn, e.isN h.ui, (e.ndA h.ui).trans h.un, h.wd⟩
theorem Pn.con (h : Pn N t m z u) (ho : m.op = 20) : m = ⟨20, m.wd, 0, 0, 0, m.v⟩ ∧ cutF m.wd m.v = m.v := by
  have := con_shape h.wl h.ti (by rw [h.tn]; exact ho)
  rwa [h.tn] at this
/-- A word that is t's is t. -/
theorem Pn.back (h : Pn N t m z u) (ho : m.op = 20) (M : Nat) : Tell M N (constP m.wd m.v) t N := by
  obtain ⟨e, hv⟩ := h.con ho
  rw [const_at h.wd, hv]
  exact tell_old h.wl h.ti (h.tn.trans e) M
/-- A 0 is z. -/
theorem Pn.zero (h : Pn N t m z u) (M : Nat) : Tell M N (constP m.wd 0) z N := by
  rw [const_at h.wd, zero_cut]
  exact tell_old h.wl h.zi h.zn M

theorem opW_low {op w : Int} (h : op < 12) : opW op w = w := by unfold opW; rw [if_neg (by omega)]

/-- x + 0, x - 0, x | 0, x ^ 0, x moved by 0 are x. -/
theorem Pn.right0 (h : Pn N t m z u) (M : Nat) {op : Int} (ho : op = 1 ∨ op = 2 ∨ op = 7 ∨ op = 8 ∨ op = 9 ∨ op = 10 ∨ op = 11) : Tell M N (fbinP N op t z) t N := by
  obtain ⟨z1, z2, z3⟩ := con_in h.zn
  have ha := alk_of h.tw z3 h.wd.1
  by_cases hc : m.op = 20
  · obtain ⟨e, hv⟩ := h.con hc
    obtain ⟨t1, t2, _⟩ := con_in (h.tn.trans e)
    have hs : sure N op t z = true := by unfold sure; rw [t1, z1]; rfl
    rw [fbin_known ha h.tw h.wd hs (by omega) t2 z2, bin_r0 h.wd hv ho, opW_low (by omega)]
    exact h.back hc M
  · obtain ⟨t1, t2⟩ := con_out (N := N) (a := t) (by rw [h.tn]; exact hc)
    have z4 : isC N z 0 = true := by rw [is_in h.zn]; rfl
    rw [fbin_one ha (sure_no t1 z1 op).1 (i := t) ?_]
    · exact tell_own M N t
    · have hs : subO N t z = some t := by unfold subO; rw [z4]; rfl
      have hd : addO N t z = some t := by unfold addO; rw [t2, hs]; rfl
      unfold oneO
      rcases ho with rfl | rfl | rfl | rfl | rfl | rfl | rfl <;> simp [hs, hd]

/-- Their twins 0 + x, 0 | x, 0 ^ x are x. -/
theorem Pn.left0 (h : Pn N t m z u) (M : Nat) {op : Int} (ho : op = 1 ∨ op = 7 ∨ op = 8) : Tell M N (fbinP N op z t) t N := by
  obtain ⟨z1, z2, z3⟩ := con_in h.zn
  have ha := alk_of z3 h.tw h.wd.1
  by_cases hc : m.op = 20
  · obtain ⟨e, hv⟩ := h.con hc
    obtain ⟨t1, t2, _⟩ := con_in (h.tn.trans e)
    have hs : sure N op z t = true := by unfold sure; rw [t1, z1]; rfl
    rw [fbin_known ha z3 h.wd hs (by omega) z2 t2, bin_l0 h.wd hv ho, opW_low (by omega)]
    exact h.back hc M
  · obtain ⟨t1, t2⟩ := con_out (N := N) (a := t) (by rw [h.tn]; exact hc)
    have z4 : isC N z 0 = true := by rw [is_in h.zn]; rfl
    rw [fbin_one ha (sure_no t1 z1 op).2 (i := t) ?_]
    · exact tell_own M N t
    · have hd : addO N z t = some t := by unfold addO; rw [z4]; rfl
      unfold oneO
      rcases ho with rfl | rfl | rfl <;> simp [hd]

/-- x * 1, 1 * x are x. -/
theorem Pn.mul1 (h : Pn N t m z u) (M : Nat) : Tell M N (fbinP N 3 t u) t N ∧ Tell M N (fbinP N 3 u t) t N := by
  obtain ⟨u1, u2, u3⟩ := con_in h.un
  by_cases hc : m.op = 20
  · obtain ⟨e, hv⟩ := h.con hc
    obtain ⟨t1, t2, _⟩ := con_in (h.tn.trans e)
    have hs : sure N 3 t u = true := by unfold sure; rw [t1, u1]; rfl
    have hs2 : sure N 3 u t = true := by unfold sure; rw [t1, u1]; rfl
    constructor
    · rw [fbin_known (alk_of h.tw u3 h.wd.1) h.tw h.wd hs (by omega) t2 u2, (bin_r1 h.wd hv).1, opW_low (by omega)]
      exact h.back hc M
    · rw [fbin_known (alk_of u3 h.tw h.wd.1) u3 h.wd hs2 (by omega) u2 t2, (bin_r1 h.wd hv).2, opW_low (by omega)]
      exact h.back hc M
  · obtain ⟨t1, t2⟩ := con_out (N := N) (a := t) (by rw [h.tn]; exact hc)
    have u4 : isC N u 1 = true := by rw [is_in h.un]; rfl
    constructor
    · rw [fbin_one (alk_of h.tw u3 h.wd.1) (sure_no t1 u1 3).1 (i := t) (by unfold oneO mulO; rw [t2, u4]; rfl)]
      exact tell_own M N t
    · rw [fbin_one (alk_of u3 h.tw h.wd.1) (sure_no t1 u1 3).2 (i := t) (by unfold oneO mulO; rw [u4]; rfl)]
      exact tell_own M N t

/-- x * 0, x & 0 are 0. -/
theorem Pn.none0 (h : Pn N t m z u) (M : Nat) {op : Int} (ho : op = 3 ∨ op = 6) : Tell M N (fbinP N op t z) z N := by
  obtain ⟨z1, z2, z3⟩ := con_in h.zn
  have ha := alk_of h.tw z3 h.wd.1
  by_cases hc : m.op = 20
  · obtain ⟨e, hv⟩ := h.con hc
    obtain ⟨t1, t2, _⟩ := con_in (h.tn.trans e)
    have hs : sure N op t z = true := by unfold sure; rw [t1, z1]; rfl
    have hb : Wd.binF op m.wd m.v 0 = 0 := by
      rcases ho with rfl | rfl
      · exact (bin_n0 h.wd hv).1
      · exact (bin_n0 h.wd hv).2
    rw [fbin_known ha h.tw h.wd hs (by omega) t2 z2, hb, opW_low (by omega)]
    exact h.zero M
  · obtain ⟨t1, t2⟩ := con_out (N := N) (a := t) (by rw [h.tn]; exact hc)
    have z4 : isC N z 0 = true := by rw [is_in h.zn]; rfl
    have z5 : isC N z 1 = false := by rw [is_in h.zn]; rfl
    rw [fbin_one ha (sure_no t1 z1 op).1 (i := z) ?_]
    · exact tell_own M N z
    · have hd : andO N t z = some z := by unfold andO; rw [t2, z4]; rfl
      have he : mulO N t z = some z := by unfold mulO; rw [t2, z5, hd]; rfl
      unfold oneO
      rcases ho with rfl | rfl <;> simp [hd, he]

theorem sure_same {op : Int} (N : List Nd) (t : Int) (h : canB op = true) : sure N op t t = true := by
  unfold sure; rw [h]; simp

/-- x ^ x, x - x are 0. -/
theorem Pn.same0 (h : Pn N t m z u) (M : Nat) {op : Int} (ho : op = 8 ∨ op = 2) : Tell M N (fbinP N op t t) z N := by
  have hb : Wd.binF op m.wd (conV N t) (conV N t) = 0 := by
    rcases ho with rfl | rfl
    · exact (bin_same h.wd _).1
    · exact (bin_same h.wd _).2.1
  have hk : canB op = true := by rcases ho with rfl | rfl <;> rfl
  rw [fbin_known (alk_of h.tw h.tw h.wd.1) h.tw h.wd (sure_same N t hk) (by omega) rfl rfl, hb, opW_low (by omega)]
  exact h.zero M

/-- x = x is 1. -/
theorem Pn.eq1 (h : Pn N t m z u) {M : Nat} (hr : N.length < M) : ∃ i N', Tell M N (fbinP N 12 t t) i N' ∧ isN N' i = true ∧ ndA N' i = ⟨20, 1, 0, 0, 0, 1⟩ := by
  rw [fbin_known (alk_of h.tw h.tw h.wd.1) h.tw h.wd (sure_same N t rfl) (by omega) rfl rfl, (bin_same h.wd _).2.2, show opW 12 m.wd = 1 from rfl, const_at (by omega), show cutF 1 1 = 1 by decide]
  exact tell_new hr

/-- A Not of a Not, a negation of a negation are what they are of. -/
theorem Pn.twice (h : Pn N t m z u) {M : Nat} (hr : N.length < M) {op : Int} (ho : op = 15 ∨ op = 16) (hne : m.op ≠ op) : ∃ i N', Tell M N (funP N op t) i N' ∧ Ext N N' ∧ Wl N' ∧ N'.length ≤ N.length + 1 ∧ Tell M N' (funP N' op i) t N' := by
  have hb : ((op == 15) || (op == 16)) = true := by rcases ho with rfl | rfl <;> rfl
  have hw : wdF N t = m.wd := h.tw
  by_cases hc : m.op = 20
  · obtain ⟨e, hv⟩ := h.con hc
    obtain ⟨q1, q2⟩ := un_twice h.wd hv ho
    have e1 : funP N op t = .inr ⟨20, m.wd, 0, 0, 0, Wd.unF op m.wd m.v⟩ := by
      unfold funP
      rw [h.ti, hb, h.tn, hc]
      simp only [Bool.and_self, if_true, beq_self_eq_true]
      rw [const_at h.wd, q2]
    have r2 := fun_wl h.wl M op t
    have x2 := res_ext M N (funP N op t)
    have l2 := resN_more M N (funP N op t)
    obtain ⟨i, N', ht, hi, hn⟩ := tell_new (M := M) (N := N) (n := ⟨20, m.wd, 0, 0, 0, Wd.unF op m.wd m.v⟩) hr
    rw [e1] at r2 x2 l2 ⊢
    rw [ht.2.2] at r2 x2 l2
    have p2 := h.ext x2 r2
    refine ⟨i, N', ht, x2, r2, l2, ?_⟩
    have e3 : funP N' op i = constP m.wd m.v := by
      unfold funP
      rw [hi, hb, hn]
      simp only [Bool.and_self, if_true, beq_self_eq_true]
      rw [q1]
    rw [e3]
    exact p2.back hc M
  · have e1 : funP N op t = .inr ⟨op, m.wd, t, 0, 0, 0⟩ := by
      unfold funP
      rw [h.ti, hb, h.tn]
      have f1 : (m.op == 20) = false := by simpa using hc
      have f2 : (m.op == op) = false := by simpa using hne
      rw [f1, f2]
      simp only [Bool.and_self, if_true, Bool.false_eq_true, if_false]
      unfold unP
      have f3 : ((op != 15) && (op != 16)) = false := by rcases ho with rfl | rfl <;> rfl
      rw [f3, h.ti, hw]; rfl
    have r2 := fun_wl h.wl M op t
    have x2 := res_ext M N (funP N op t)
    have l2 := resN_more M N (funP N op t)
    obtain ⟨i, N', ht, hi, hn⟩ := tell_new (M := M) (N := N) (n := ⟨op, m.wd, t, 0, 0, 0⟩) hr
    rw [e1] at r2 x2 l2 ⊢
    rw [ht.2.2] at r2 x2 l2
    refine ⟨i, N', ht, x2, r2, l2, ?_⟩
    have e3 : funP N' op i = .inl (t, 0) := by
      unfold funP
      rw [hi, hb, hn]
      have f1 : (op == 20) = false := by rcases ho with rfl | rfl <;> rfl
      simp [f1]
    rw [e3]
    exact tell_own M N' t

/-- Ite of a known condition is what it chooses; of a twice it is a. -/
theorem fite_yes {c a b w : Int} (hc : ndA N c = ⟨20, 1, 0, 0, 0, 1⟩) (ha : wdF N a = w) (hb : wdF N b = w) (hw : 1 ≤ w) (M : Nat) : Tell M N (fiteP N c a b) a N := by
  have e : fiteP N c a b = .inl (a, 0) := by
    unfold fiteP
    rw [(con_in hc).2.2, alk_of ha hb hw, is_in hc]
    simp
  rw [e]; exact tell_own M N a
theorem fite_no {c a b w : Int} (hc : ndA N c = ⟨20, 1, 0, 0, 0, 0⟩) (ha : wdF N a = w) (hb : wdF N b = w) (hw : 1 ≤ w) (M : Nat) : Tell M N (fiteP N c a b) b N := by
  have e : fiteP N c a b = .inl (b, 0) := by
    unfold fiteP
    rw [(con_in hc).2.2, alk_of ha hb hw, is_in hc, is_in hc]
    by_cases h : a = b
    · subst h; simp
    · simp [h]
  rw [e]; exact tell_own M N b
theorem fite_same {c a w : Int} (hc : wdF N c = 1) (ha : wdF N a = w) (hw : 1 ≤ w) (M : Nat) : Tell M N (fiteP N c a a) a N := by
  have e : fiteP N c a a = .inl (a, 0) := by
    unfold fiteP
    rw [hc, alk_of ha ha hw]
    simp
  rw [e]; exact tell_own M N a
end

end Go.Proofs.Ytamiifgdpdfjnaa
