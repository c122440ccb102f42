/-
  What chapter 17 says of 0, 1, and of twice the same: the walk.
-/
import Derived.Test.YtamiifgdpdfjnaaIt
import Derived.Test.YtamiifgdpdfjnaaBwalk
namespace Go.Proofs.Ytamiifgdpdfjnaa
open Go.RowKit Go.Maps
set_option linter.unusedVariables false
set_option maxRecDepth 100000

/-- Between two calls: the dag has the terms N, t, z and u are what they were; the box B is as it was laid. -/
structure LR (w0 : World) (k : K) (t : Int) (m : Nd) (z u : Int) (L B : Nat) (o : Obj) (N : List Nd) (P : Nat → Prop) (wr : World) : Prop where
  be : Below w0.heap.size w0 wr
  dg : Dg k wr N P
  pn : Pn N t m z u
  ln : N.length ≤ L
  bx : wr.heap[B]? = some o
  nb : ¬ P B
  kb : w0.heap.size ≤ k.B

section
variable {w0 wr w2 : World} {k : K} {t z u : Int} {m : Nd} {L L' B : Nat} {o : Obj} {N N' : List Nd} {P P' : Nat → Prop}
theorem LR.below (h : LR w0 k t m z u L B o N P wr) (b : Below wr.heap.size wr w2) : LR w0 k t m z u L B o N P w2 :=
  ⟨Below.next h.be b, h.dg.below b, h.pn, h.ln, by rw [b.block _ (blk_lt h.bx)]; exact h.bx, h.nb, h.kb⟩
theorem LR.more (h : LR w0 k t m z u L B o N P wr) (s : Dg k w2 N' P') (f : Fr P P' wr w2) (e : Ext N N') (r : Wl N') (l : N'.length ≤ L') : LR w0 k t m z u L' B o N' P' w2 := by
  refine ⟨h.be.trans (f.be (fun j hj => Nat.le_trans h.kb (h.dg.bd hj).1) h.be.size), s, h.pn.ext e r, l, ?_, fun hp => ?_, h.kb⟩
  · rw [f.block _ (blk_lt h.bx) h.nb]; exact h.bx
  · rcases f.new _ hp with g | g
    · exact h.nb g
    · have := blk_lt h.bx; omega
theorem LR.wide (h : LR w0 k t m z u L B o N P wr) (l : L ≤ L') : LR w0 k t m z u L' B o N P wr :=
  ⟨h.be, h.dg, h.pn, Nat.le_trans h.ln l, h.bx, h.nb, h.kb⟩
/-- Another box is laid. -/
theorem LR.box (h : LR w0 k t m z u L B o N P wr) (cs : Array Value) (T : TypeId) : LR w0 k t m z u L wr.heap.size (.cells cs T (0, 0)) N P (wr.alloc (.cells cs T)) := by
  have b : Below wr.heap.size wr (wr.alloc (.cells cs T)) := by go_grown
  refine ⟨Below.next h.be b, h.dg.below b, h.pn, h.ln, new_same _ _, fun hp => ?_, h.kb⟩
  have := (h.dg.bd hp).2
  omega
theorem lr_start (be : Below w0.heap.size w0 wr) (dg : Dg k wr N P) (pn : Pn N t m z u) (ln : N.length ≤ L) (kb : w0.heap.size ≤ k.B) (cs : Array Value) (T : TypeId) : LR w0 k t m z u L wr.heap.size (.cells cs T (0, 0)) N P (wr.alloc (.cells cs T)) := by
  have b : Below wr.heap.size wr (wr.alloc (.cells cs T)) := by go_grown
  refine ⟨Below.next be b, dg.below b, pn, ln, new_same _ _, fun hp => ?_, kb⟩
  have := (dg.bd hp).2
  omega

/-- A call that tells what is there. -/
theorem lr_same (h : Hid (LR w0 k t m z u L B o N P wr)) (hM : Hid (k.M = 4000)) {op a b I : Int} (T : Tell 4000 N (fbinP N op a b) I N) : Calls Try.prog 8 #[.pointer (some ⟨k.DB, 0, none⟩), .int .i64 op, .int .i64 a, .int .i64 b] wr fun e w' =>
    ∃ P', e = .returned (.tuple #[.int .i64 I, .int .i64 0]) ∧ Hid (LR w0 k t m z u L B o N P' w') :=
  (told (fbin_any h.out.dg op a b) hM.out T).mono fun e w' q => by
    obtain ⟨P', rfl, s, f⟩ := q
    exact ⟨P', rfl, hid (h.out.more s.out f.out (Ext.refl N) h.out.pn.wl h.out.ln)⟩
/-- A call that tells, whatever. -/
theorem lr_free (h : Hid (LR w0 k t m z u L B o N P wr)) (hM : Hid (k.M = 4000)) (op a b : Int) : Calls Try.prog 8 #[.pointer (some ⟨k.DB, 0, none⟩), .int .i64 op, .int .i64 a, .int .i64 b] wr fun e w' =>
    ∃ I E N' P', e = .returned (.tuple #[.int .i64 I, .int .i64 E]) ∧ Hid (LR w0 k t m z u (L + 1) B o N' P' w') :=
  (mk_is (fbin_any h.out.dg op a b) hM.out rfl rfl rfl).mono fun e w' q => by
    obtain ⟨P', rfl, s, f⟩ := q
    exact ⟨_, _, _, P', rfl, hid (h.out.more s.out f.out (res_ext _ _ _) (fbin_wl h.out.pn.wl _ _ _ _) (Nat.le_trans (resN_more _ _ _) (Nat.succ_le_succ h.out.ln)))⟩
theorem lr_tell (h : Hid (LR w0 k t m z u L B o N P wr)) (hM : Hid (k.M = 4000)) {op a b I : Int} (T : Tell 4000 N (fbinP N op a b) I N') : Calls Try.prog 8 #[.pointer (some ⟨k.DB, 0, none⟩), .int .i64 op, .int .i64 a, .int .i64 b] wr fun e w' =>
    ∃ P', e = .returned (.tuple #[.int .i64 I, .int .i64 0]) ∧ Hid (LR w0 k t m z u (L + 1) B o N' P' w') :=
  (told (fbin_any h.out.dg op a b) hM.out T).mono fun e w' q => by
    obtain ⟨P', rfl, s, f⟩ := q
    have e1 := res_ext 4000 N (fbinP N op a b)
    have e2 := fbin_wl h.out.pn.wl 4000 op a b
    have e3 := resN_more 4000 N (fbinP N op a b)
    rw [T.2.2] at e1 e2 e3
    exact ⟨P', rfl, hid (h.out.more s.out f.out e1 e2 (Nat.le_trans e3 (Nat.succ_le_succ h.out.ln)))⟩
theorem lr_untell (h : Hid (LR w0 k t m z u L B o N P wr)) (hM : Hid (k.M = 4000)) {op a I : Int} (T : Tell 4000 N (funP N op a) I N') : Calls Try.prog 11 #[.pointer (some ⟨k.DB, 0, none⟩), .int .i64 op, .int .i64 a] wr fun e w' =>
    ∃ P', e = .returned (.tuple #[.int .i64 I, .int .i64 0]) ∧ Hid (LR w0 k t m z u (L + 1) B o N' P' w') :=
  (told (funary_any h.out.dg op a) hM.out T).mono fun e w' q => by
    obtain ⟨P', rfl, s, f⟩ := q
    have e1 := res_ext 4000 N (funP N op a)
    have e2 := fun_wl h.out.pn.wl 4000 op a
    have e3 := resN_more 4000 N (funP N op a)
    rw [T.2.2] at e1 e2 e3
    exact ⟨P', rfl, hid (h.out.more s.out f.out e1 e2 (Nat.le_trans e3 (Nat.succ_le_succ h.out.ln)))⟩
theorem lr_unsame (h : Hid (LR w0 k t m z u L B o N P wr)) (hM : Hid (k.M = 4000)) {op a I : Int} (T : Tell 4000 N (funP N op a) I N) : Calls Try.prog 11 #[.pointer (some ⟨k.DB, 0, none⟩), .int .i64 op, .int .i64 a] wr fun e w' =>
    ∃ P', e = .returned (.tuple #[.int .i64 I, .int .i64 0]) ∧ Hid (LR w0 k t m z u L B o N P' w') :=
  (told (funary_any h.out.dg op a) hM.out T).mono fun e w' q => by
    obtain ⟨P', rfl, s, f⟩ := q
    exact ⟨P', rfl, hid (h.out.more s.out f.out (Ext.refl N) h.out.pn.wl h.out.ln)⟩
end

/-- The term t, a 0 and a 1 as wide as it. -/
theorem pn_of {N : List Nd} {t : Int} {m : Nd} (r : Wl N) (g : Gd N) (ht : isN N t = true) (hm : ndA N t = m) {M : Nat} (hr : N.length + 2 ≤ M) : ∃ z N1 u N2, Tell M N (constP m.wd 0) z N1 ∧ Tell M N1 (constP m.wd 1) u N2 ∧ Pn N2 t m z u ∧ N2.length ≤ N.length + 2 := by
  have hw : 1 ≤ m.wd ∧ m.wd ≤ 64 := by rw [← hm]; exact g.wd _ (ndA_mem ht)
  have d1 : constP m.wd 0 = .inr ⟨20, m.wd, 0, 0, 0, 0⟩ := by rw [const_at hw, zero_cut]
  have d2 : constP m.wd 1 = .inr ⟨20, m.wd, 0, 0, 0, 1⟩ := by rw [const_at hw, one_cut hw]
  obtain ⟨z, N1, T1, i1, n1⟩ := tell_new (M := M) (N := N) (n := ⟨20, m.wd, 0, 0, 0, 0⟩) (by omega)
  rw [← d1] at T1
  have x1 := res_ext M N (constP m.wd 0)
  have l1 := resN_more M N (constP m.wd 0)
  have r1 := const_wl r M m.wd 0
  rw [T1.2.2] at x1 l1 r1
  obtain ⟨u, N2, T2, i2, n2⟩ := tell_new (M := M) (N := N1) (n := ⟨20, m.wd, 0, 0, 0, 1⟩) (by omega)
  rw [← d2] at T2
  have x2 := res_ext M N1 (constP m.wd 1)
  have l2 := resN_more M N1 (constP m.wd 1)
  have r2 := const_wl r1 M m.wd 1
  rw [T2.2.2] at x2 l2 r2
  have x3 := x1.trans x2
  exact ⟨z, N1, u, N2, T1, T2, ⟨r2, x3.isN ht, (x3.ndA ht).trans hm, x2.isN i1, (x2.ndA i1).trans n1, i2, n2, hw⟩, by omega⟩

end Go.Proofs.Ytamiifgdpdfjnaa
