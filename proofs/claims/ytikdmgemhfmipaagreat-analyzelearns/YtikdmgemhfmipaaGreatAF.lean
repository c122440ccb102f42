/-
  Literals that are met.
-/
import Derived.Test.YtikdmgemhfmipaaGreatAS
namespace Go.Proofs.YtikdmgemhfmipaaGreat
open Go.RowKit
set_option linter.unusedVariables false

/-- What stands behind the way: a trail, clauses, all older than it. -/
structure Cm (k : SK) (w0 : World) (kt : K) (L : List E) (lev : Nat) (p : V) (cls : List (List Int)) : Prop where
  hB : k.B = w0.heap.size
  t : Trl kt w0 L lev p
  tv : k.tv = .pointer (some ⟨kt.OB, 0, none⟩)
  lv : k.lv = lev
  gr : ∃ la n cap, k.cv = .slice la n cap ∧ U.Grid w0 la n cap cls
  hn : kt.n ≤ 4096

structure Rn (k : SK) (w0 : World) (n : Nat) (w : World) (s : PS) (v : SV) : Prop where
  r : Sr k w s v
  b : Below w0.heap.size w0 w
  wf : Wf n s
  m2 : Mk2 s

section
variable {k : SK} {w0 w w1 w' : World} {kt : K} {L : List E} {lev : Nat} {p : V} {cls : List (List Int)} {s s' : PS} {v v' : SV} {n : Nat}

theorem Rn.below (h : Rn k w0 n w s v) (b : Below w.heap.size w w') : Rn k w0 n w' s v := ⟨h.r.below b, Below.next h.b b, h.wf, h.m2⟩

theorem Cm.trl (c : Cm k w0 kt L lev p cls) (h : Rn k w0 n w s v) : Trl kt w L lev p := c.t.below h.b

theorem Cm.cell (c : Cm k w0 kt L lev p cls) (h : Rn k w0 n w s v) : w.cell? ⟨k.SB, 0, none⟩ = some (.pointer (some ⟨kt.OB, 0, none⟩)) ∧ w.cell? ⟨k.SB, 2, none⟩ = some (.int .i64 lev) := by
  have := h.r.c
  rw [← c.tv, ← c.lv]; exact ⟨this.1, this.2.2.1⟩

theorem Rn.next (c : Cm k w0 kt L lev p cls) (h : Rn k w0 n w s v) (r : Sr k w' s' v') (f : SF k v v' w w') (wf : Wf n s') (m2 : Mk2 s') : Rn k w0 n w' s' v' := ⟨r, by
  have := h.r.be f
  rw [c.hB] at this
  exact h.b.trans this, wf, m2⟩

theorem Sr.as (h : Sr k w s v) (e : s = s') : Sr k w s' v := e ▸ h

/-- Behind the mark: a variable more. -/
theorem Sr.app1 (h : Sr k w s v) {x : Value} {u : Nat} (own : OwnL w1 (k.SB + 1) x (natI s.met ++ [(u : Int)])) (g : w.grownBy w1 v.mv.ownBlock) (nw : Nw w v.mv x) :
    ∃ g8 c8, x = .slice (some ⟨g8, 0, none⟩) (s.met.length + 1) c8 ∧ w1.cell? ⟨k.SB, 259, none⟩ = some v.mv ∧ w1.frozen? ⟨k.SB, 259, none⟩ = false ∧ Hid (Sr k (w1.setCell ⟨k.SB, 259, none⟩ x) { s with met := s.met ++ [u] } { v with mv := x }) ∧ Hid (SF k v { v with mv := x } w (w1.setCell ⟨k.SB, 259, none⟩ x)) := by
  have e : natI s.met ++ [(u : Int)] = natI (s.met ++ [u]) := by simp [natI]
  rw [e] at own
  obtain ⟨a, b, c, d⟩ := h.putme own g nw
  have hl : (natI (s.met ++ [u])).length = s.met.length + 1 := by simp [natI]
  obtain ⟨g8, c8, e8, _⟩ := (LRow.of_own own).filled (by omega)
  rw [hl] at e8
  exact ⟨g8, c8, e8, a, b, c, d⟩

theorem Sr.app2 (h : Sr k w s v) {x : Value} {y : Int} (own : OwnL w1 (k.SB + 1) x (s.oth ++ [y])) (g : w.grownBy w1 v.ov.ownBlock) (nw : Nw w v.ov x) :
    ∃ g8 c8, x = .slice (some ⟨g8, 0, none⟩) (s.oth.length + 1) c8 ∧ w1.cell? ⟨k.SB, 261, none⟩ = some v.ov ∧ w1.frozen? ⟨k.SB, 261, none⟩ = false ∧ Hid (Sr k (w1.setCell ⟨k.SB, 261, none⟩ x) { s with oth := s.oth ++ [y] } { v with ov := x }) ∧ Hid (SF k v { v with ov := x } w (w1.setCell ⟨k.SB, 261, none⟩ x)) := by
  obtain ⟨a, b, c, d⟩ := h.putot own g nw
  have hl : (s.oth ++ [y]).length = s.oth.length + 1 := by simp
  obtain ⟨g8, c8, e8, _⟩ := (LRow.of_own own).filled (by omega)
  rw [hl] at e8
  exact ⟨g8, c8, e8, a, b, c, d⟩

theorem Sr.shapes (h : Sr k w s v) : (∃ a c, v.mv = .slice a s.met.length c) ∧ (∃ a c, v.ov = .slice a s.oth.length c) ∧ LRow w (k.SB + 1) v.mv (natI s.met) ∧ LRow w (k.SB + 1) v.ov s.oth ∧ k.SB + 1 ≤ w.heap.size := by
  obtain ⟨a, c, e, _⟩ := (LRow.of_own h.me).shape
  obtain ⟨a', c', e', _⟩ := (LRow.of_own h.ot).shape
  have hl : (natI s.met).length = s.met.length := by simp [natI]
  rw [hl] at e
  exact ⟨⟨a, c, e⟩, ⟨a', c', e'⟩, LRow.of_own h.me, LRow.of_own h.ot, h.lt⟩

def AddEnd (k : SK) (w0 : World) (n : Nat) (w : World) (s' : PS) (v : SV) (w' : World) : Prop := ∃ v', Rn k w0 n w' s' v' ∧ SF k v v' w w'

set_option maxHeartbeats 2000000 in
theorem add_zero (c : Cm k w0 kt L lev p cls) (h : Rn k w0 kt.n w s v) (x : Int) (u : Nat) (hl : levelF L u = 0) :
    Calls Tryz.prog 76 #[.pointer (some ⟨k.SB, 0, none⟩), .int .i64 x, .int .i64 u] w fun e w' => e = .returned (.tuple #[]) ∧ w' = w := by
  have HT := hid (c.trl h)
  obtain ⟨c0, c2⟩ := c.cell h
  have HL := hid hl
  clear hl h c
  go_enter Tryz.func76, Tryz.ntmps76
  go_wp2_with (go_at_call 26; with_reducible (refine (level_is HT.out _ HL.out).mono ?_); rintro e w ⟨rfl, rfl⟩)
  refine bodyPost_ret (results_none rfl _ _ _) rfl ?_
  exact ⟨rfl, rfl⟩

theorem add_wf (h : Rn k w0 n w s v) {x : Int} {u : Nat} (hu : u < n) (h0 : s.mrk u = 0) (hx : 0 ≤ x ∧ x < 2 * (n : Int)) : Wf n (addP L lev s x u) ∧ Mk2 (addP L lev s x u) := by
  refine ⟨(h.wf.add L lev x hu h0 hx).1, ?_⟩
  unfold addP
  split
  · exact h.m2
  · intro i
    simp only [upN]
    split
    · omega
    · exact h.m2 i

set_option maxHeartbeats 4000000 in
theorem add_lev (c : Cm k w0 kt L lev p cls) (h : Rn k w0 kt.n w s v) (x : Int) (u : Nat) (hu : u < kt.n) (hx : 0 ≤ x ∧ x < 2 * (kt.n : Int)) (h0 : s.mrk u = 0) (hl : levelF L u = lev) (hl0 : lev ≠ 0) (hop : -1000000 ≤ s.op) :
    Calls Tryz.prog 76 #[.pointer (some ⟨k.SB, 0, none⟩), .int .i64 x, .int .i64 u] w fun e w' => e = .returned (.tuple #[]) ∧ AddEnd k w0 kt.n w (addP L lev s x u) v w' := by
  have HT := hid (c.trl h)
  obtain ⟨c0, c2⟩ := c.cell h
  have HL := hid hl
  have hln : (lev : Int) ≠ 0 := by omega
  have hlb : ((lev : Int) == 0) = false := by simpa using hln
  have hu4 : u < 4096 := by have := c.hn; omega
  have hml := h.wf.len
  have hn := c.hn
  have hou := h.wf.ou
  have HP : Hid (addP L lev s x u = { mrk := upN s.mrk u 1, met := s.met ++ [u], op := s.op + 1, oth := s.oth }) := hid (by unfold addP; rw [hl, if_neg hln, if_pos rfl, if_pos rfl])
  have HW := hid (add_wf (L := L) (lev := lev) (x := x) h hu h0 hx)
  obtain ⟨cs, hcs, hcs3⟩ : ∃ cs, w.heap[k.SB]? = some (.cells cs 71 (0, 0)) ∧ cs[3]? = some (ptrO v.pb) := by obtain ⟨cs, a, _, _, _, b, _⟩ := h.r.blk; exact ⟨cs, a, b⟩
  have HC := hid hcs
  have HC3 := hid hcs3
  have HR := hid h
  have HM := hid c
  have HPL : Hid (∀ b, v.pb = some b → b ≠ k.SB) := hid (fun b e => by have := h.r.pl b e; omega)
  have H1 : Hid (((1 : Nat) : Int) = 1) := hid rfl
  clear hl h c hcs hcs3 h0 hx
  go_enter Tryz.func76, Tryz.ntmps76
  go_wp2_with (first
    | (go_at_call 26; with_reducible (refine (level_is HT.out _ HL.out).mono ?_); rintro e w ⟨rfl, rfl⟩)
    | (go_at_call 40; with_reducible (refine (set_is HC.out HC3.out HR.out.r.pg HPL.out u hu4 1 H1.out).mono ?_); rintro e w1 ⟨rfl, pb1, cs1, he1⟩; have q1 := hid (HR.out.r.putmk he1.out HC.out); have sh1 := q1.out.1.shapes; obtain ⟨⟨am, cm, em⟩, _, lm, _, hsz⟩ := sh1; have c259 := q1.out.1.c.2.2.2.2.1; have HLm := hid lm; simp only at em c259; rw [em] at c259; clear lm)
    | (at_builtin; refine append_new (w1 := w1) rfl _ _ rfl u rfl (k.SB + 1) v.mv (natI s.met) em.symm HLm.out _ rfl (by simp) (by simp [natI]; omega) hsz ?_; intro v7 w7 own7 g7 new7; have m7 := q1.out.1.app1 own7.out g7.out new7.out.1; obtain ⟨g8, c8, rfl, d1, d2, r8, f8⟩ := m7; simp only at d1; rw [em] at d1; have d3 := r8.out.c.2.2.1; have d4 := r8.out.c.2.2.2.2.2.1; have d5 := r8.out.f 260; rw [HM.out.lv] at d3))
  go_end0
  obtain ⟨r9, f9⟩ := r8.out.putop (s.op + 1)
  have F := (q1.out.2.trans f8.out).trans f9
  refine ⟨rfl, _, Rn.next HM.out HR.out (r9.as HP.out.symm) F HW.out.1 HW.out.2, F⟩

set_option maxHeartbeats 4000000 in
theorem add_oth (c : Cm k w0 kt L lev p cls) (h : Rn k w0 kt.n w s v) (x : Int) (u : Nat) (hu : u < kt.n) (hx : 0 ≤ x ∧ x < 2 * (kt.n : Int)) (h0 : s.mrk u = 0) (ll : Nat) (hl : levelF L u = ll) (hl0 : ll ≠ 0) (hl1 : ll ≠ lev) :
    Calls Tryz.prog 76 #[.pointer (some ⟨k.SB, 0, none⟩), .int .i64 x, .int .i64 u] w fun e w' => e = .returned (.tuple #[]) ∧ AddEnd k w0 kt.n w (addP L lev s x u) v w' := by
  have HT := hid (c.trl h)
  obtain ⟨c0, c2⟩ := c.cell h
  have HL := hid hl
  have hln : (ll : Int) ≠ 0 := by omega
  have hlv : ¬ (ll : Int) = (lev : Int) := by omega
  have hlvb : ((ll : Int) == (lev : Int)) = false := by simpa using hlv
  have hlb : ((ll : Int) == 0) = false := by simpa using hln
  have hu4 : u < 4096 := by have := c.hn; omega
  have hml := h.wf.len
  have hn := c.hn
  have hol := h.wf.ol
  have HP : Hid (addP L lev s x u = { mrk := upN s.mrk u 1, met := s.met ++ [u], op := s.op, oth := s.oth ++ [x] }) := hid (by unfold addP; rw [hl, if_neg hln, if_neg hlv, if_neg hlv])
  have HW := hid (add_wf (L := L) (lev := lev) (x := x) h hu h0 hx)
  obtain ⟨cs, hcs, hcs3⟩ : ∃ cs, w.heap[k.SB]? = some (.cells cs 71 (0, 0)) ∧ cs[3]? = some (ptrO v.pb) := by obtain ⟨cs, a, _, _, _, b, _⟩ := h.r.blk; exact ⟨cs, a, b⟩
  have HC := hid hcs
  have HC3 := hid hcs3
  have HR := hid h
  have HM := hid c
  have HPL : Hid (∀ b, v.pb = some b → b ≠ k.SB) := hid (fun b e => by have := h.r.pl b e; omega)
  have H1 : Hid (((1 : Nat) : Int) = 1) := hid rfl
  clear hl h c hcs hcs3 h0 hx
  go_enter Tryz.func76, Tryz.ntmps76
  go_wp2_with (first
    | (go_at_call 26; with_reducible (refine (level_is HT.out _ HL.out).mono ?_); rintro e w ⟨rfl, rfl⟩)
    | (go_at_call 40; with_reducible (refine (set_is HC.out HC3.out HR.out.r.pg HPL.out u hu4 1 H1.out).mono ?_); rintro e w1 ⟨rfl, pb1, cs1, he1⟩; have q1 := hid (HR.out.r.putmk he1.out HC.out); have sh1 := q1.out.1.shapes; obtain ⟨⟨am, cm, em⟩, _, lm, _, hsz⟩ := sh1; have c259 := q1.out.1.c.2.2.2.2.1; have HLm := hid lm; simp only at em c259; rw [em] at c259; clear lm)
    | (at_builtin; refine append_new (w1 := w1) rfl _ _ rfl u rfl (k.SB + 1) v.mv (natI s.met) em.symm HLm.out _ rfl (by simp) (by simp [natI]; omega) hsz ?_; intro v7 w7 own7 g7 new7; have m7 := q1.out.1.app1 own7.out g7.out new7.out.1; obtain ⟨g8, c8, rfl, d1, d2, r8, f8⟩ := m7; simp only at d1; rw [em] at d1; have d3 := r8.out.c.2.2.1; have d4 := r8.out.c.2.2.2.2.2.2; rw [HM.out.lv] at d3; have sh8 := r8.out.shapes; obtain ⟨_, ⟨ao, co, eo⟩, _, lo, hsz8⟩ := sh8; simp only at eo d4; rw [eo] at d4; have HLo := hid lo; clear lo)
    | (at_builtin; refine append_new (w1 := w7.setCell ⟨k.SB, 259, none⟩ (.slice (some ⟨g8, 0, none⟩) (s.met.length + 1) c8)) rfl _ _ rfl x rfl (k.SB + 1) v.ov s.oth eo.symm HLo.out _ rfl (by simp) (by omega) hsz8 ?_; intro v9 w9 own9 g9 new9; have m9 := r8.out.app2 own9.out g9.out new9.out.1; obtain ⟨g10, c10, rfl, x1, x2, r10, f10⟩ := m9; simp only at x1; rw [eo] at x1))
  go_end0
  have F := (q1.out.2.trans f8.out).trans f10.out
  refine ⟨rfl, _, Rn.next HM.out HR.out (r10.out.as HP.out.symm) F HW.out.1 HW.out.2, F⟩
end

end Go.Proofs.YtikdmgemhfmipaaGreat
