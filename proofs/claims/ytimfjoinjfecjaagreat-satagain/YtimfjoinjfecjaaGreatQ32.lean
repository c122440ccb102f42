/-
  settleAll, exactly.
  What is learned: the clause.
-/
import Derived.Test.YtimfjoinjfecjaaGreatQ15
import Derived.Test.YtimfjoinjfecjaaGreatQ23
import Derived.Test.YtimfjoinjfecjaaGreatQ31

namespace Go.Proofs.YtimfjoinjfecjaaGreat
open Go.RowKit Go.Maps
set_option linter.unusedVariables false

def slotW (q : WP) (s : Nat) (xs : List Nat) : WP := { q with P := up q.P s xs }

/-- What settleAll makes of those that wait. -/
def allF (n lev : Nat) : List Nat → WP → List E → Option Nat × WP × List E
  | [], q, L => (none, slotW q (3 * n) [], L)
  | c :: cs, q, L => if (settleF n lev q L c).1 = true then allF n lev cs (settleF n lev q L c).2.1 (settleF n lev q L c).2.2 else (some c, slotW (settleF n lev q L c).2.1 (3 * n) (c :: cs), (settleF n lev q L c).2.2)

theorem all_good {n lev c : Nat} {cs : List Nat} {q q' : WP} {L L' : List E} (h : settleF n lev q L c = (true, q', L')) : allF n lev (c :: cs) q L = allF n lev cs q' L' := by
  rw [allF, h, if_pos rfl]
theorem all_bad {n lev c : Nat} {cs : List Nat} {q q' : WP} {L L' : List E} (h : settleF n lev q L c = (false, q', L')) : allF n lev (c :: cs) q L = (some c, slotW q' (3 * n) (c :: cs), L') := by
  rw [allF, h, if_neg (by simp)]

section
variable {k : K} {kw : WK} {w w1 w2 w3 : World} {g g1 : G} {L : List E} {lev : Nat} {p : V} {X X' : Nat → Prop} {B c : Nat}

def AllX (k : K) (kw : WK) (g : G) (L : List E) (lev : Nat) (p : V) (w : World) (e : Ending) (w' : World) : Prop :=
  ∃ g' L' p', Mv k kw g L lev p w 0 g' L' p' w' ∧ g'.dn = g.dn ∧
    ((e = .returned (.pointer none) ∧ allF kw.n lev (g.P (3 * kw.n)) g.pt L = (none, g'.pt, L') ∧ Inv kw.n g' (litsF L') (fun _ => g.dn) (fun _ => False) ∧ g'.P (3 * kw.n) = []) ∨
     ∃ c : Nat, e = .returned (.pointer (some ⟨g.cb c, 0, none⟩)) ∧ allF kw.n lev (g.P (3 * kw.n)) g.pt L = (some c, g'.pt, L') ∧ c < g.nx ∧ g.gn c = false ∧ Inv kw.n g' (litsF L') (fun _ => g.dn) (fun i => i ∈ g'.P (3 * kw.n)) ∧ ∀ x ∈ g.lt c, valueF L' x = -1)

theorem SetX.out {e : Ending} (h : SetX k kw g L lev p X c w e w1) : (∃ g' L' p', e = .returned (.bool true) ∧ Hid (Adv k kw g L lev p w (fun i => X i ∧ i ≠ c) 1 g' L' p' w1) ∧ Hid (settleF kw.n lev g.pt L c = (true, g'.pt, L'))) ∨
    (∃ g', e = .returned (.bool false) ∧ Hid (Adv k kw g L lev p w (fun i => X i ∨ i = c) 0 g' L p w1) ∧ Hid (g.gn c = false ∧ ∀ x ∈ g.lt c, valueF L x = -1) ∧ Hid (settleF kw.n lev g.pt L c = (false, g'.pt, L))) := by
  rcases h with ⟨h1, g', L', p', h2, h3⟩ | ⟨h1, g', h2, h3, h4⟩
  · exact .inl ⟨g', L', p', h1, h2, h3⟩
  · exact .inr ⟨g', h1, h2, h4, h3⟩

set_option maxHeartbeats 2000000 in
theorem settleAll_ex (j : J k kw w g L lev p) (iv : Inv kw.n g (litsF L) (fun _ => g.dn) (fun i => i ∈ g.P (3 * kw.n))) (rs : Rs g L) (hd : g.dn ≤ L.length) (hnx : g.nx ≤ 1000000) (hsu : tot kw.n g ≤ 400000000000) :
    Calls Tryz.prog 48 #[.pointer (some ⟨kw.OB, 0, none⟩), .pointer (some ⟨k.OB, 0, none⟩)] w fun e w' => AllX k kw g L lev p w e w' := by
  have A0 := Adv.start j iv rs
  have c4 := j.s.c4
  have r0 := j.s.l.rw (3 * kw.n) (Nat.le_refl _)
  have sub0 := j.s.l.sub (3 * kw.n) (Nat.le_refl _)
  obtain ⟨W0, hW⟩ : ∃ W0, g.P (3 * kw.n) = W0 := ⟨_, rfl⟩
  obtain ⟨ao, cap, ev, hc1, hc2⟩ := r0.shape
  rw [hW] at r0 sub0 ev hc1
  unfold tot at hsu
  rw [hW] at hsu
  rw [ev] at r0 c4
  have HW := hid hW
  have HV := hid ev
  have HR0 := hid r0
  have HSUB := hid sub0
  have hA : Hid (Adv k kw g L lev p w (fun i => i ∈ W0.drop 0) 0 g L p w) := hid (by rw [hW] at A0; exact A0)
  have hlen : W0.length ≤ 400000000000 := by omega
  unfold maxLen at hc2
  clear j iv rs A0 r0 sub0 ev hW
  go_enter Tryz.func48, Tryz.ntmps48
  go_wp2
  go_loopw [5, 6, 12] (fun _ _ i wr => ∃ (q : Nat) (g1 : G) (L1 : List E) (p1 : V), q ≤ W0.length ∧ i = .int .i64 q ∧ Hid (Adv k kw g L lev p w (fun i => i ∈ W0.drop q) q g1 L1 p1 wr) ∧ Hid (allF kw.n lev W0 g.pt L = allF kw.n lev (W0.drop q) g1.pt L1)) (fun _ _ i _ => W0.length - (intOf i).toNat)
  case atStart => exact ⟨0, g, L, p, Nat.zero_le _, rfl, hA, hid rfl⟩
  case round =>
    clear c4 hA HR0
    obtain ⟨q, g1, L1, p1, hq, rfl, hA, hE⟩ := hrel
    have r1 : PRow wr g.cb (.slice ao W0.length cap) W0 := by
      have := hA.out.j.s.l.rw (3 * kw.n) (Nat.le_refl _)
      rw [hA.out.wa.1, hA.out.wa.2, hA.out.sm.cb, HW.out, HV.out] at this
      exact this
    have c4 := hA.out.j.s.c4
    rw [hA.out.wa.2, HV.out] at c4
    by_cases hlt : q < W0.length
    · obtain ⟨x, hx⟩ : ∃ x, W0[q]? = some x := ⟨_, List.getElem?_eq_getElem hlt⟩
      obtain ⟨b, off, cap', e, _⟩ := r1.filled (by omega)
      cases e
      have hc := r1.at hx
      have hxn : x < g.nx := HSUB.out x (List.mem_of_getElem? hx)
      have hx1 : Hid (x < g1.nx) := hid (by rw [hA.out.sm.nx]; exact hxn)
      have hd1 : Hid (g1.dn ≤ L1.length) := hid (by rw [hA.out.dn]; exact Nat.le_trans hd hA.out.ex.len)
      have hn1 : Hid (g1.nx ≤ 1000000) := hid (by rw [hA.out.sm.nx]; exact hnx)
      have hs1 : Hid (sumL kw.n g1.P ≤ 500000000000) := hid (by have := hA.out.su; omega)
      have HDR := hid (drop_cons hx)
      have hq' : (q : Int) ≤ W0.length := by omega
      have hq2 : (q : Int) ≤ cap := by omega
      have hqc : ¬ cap = q := by omega
      have R1 := hid r1
      clear r1 hx
      go_wp2_with (go_at_call 77; have T := settle_ex hA.out.j hA.out.iv hA.out.rs hd1.out hx1.out hn1.out hs1.out; rw [hA.out.sm.cb] at T; with_reducible (refine T.mono ?_); intro e w2 hse; have hse2 := SetX.out hse; rcases hse2 with ⟨g2, L2, p2, rfl, A2, X2⟩ | ⟨g2, rfl, A2, hbad, X2⟩; rotate_left; have A3 := hid (hA.out.trans A2.out); have c5 := A3.out.j.s.c4; have f5 := A3.out.j.s.of 4; rw [A3.out.wa.2, HV.out] at c5)
      · have own := (A3.out.j.s.l.rw (3 * kw.n) (Nat.le_refl _))
        have hP3 := A3.out.wa.1.trans HW.out
        have hv3 := A3.out.wa.2.trans HV.out
        rw [hP3, hv3] at own
        have own2 := own.drop (m := q) (by omega)
        obtain ⟨q1, q2, s6, F6⟩ := A3.out.j.s.pusha (fun i hi => by rw [A3.out.sm.nx]; exact HSUB.out i (List.mem_of_mem_drop hi)) own2 (by rw [hv3]; exact ⟨rfl, rfl, rfl, Nat.le_refl _, fun _ _ _ => rfl⟩) (by rw [hv3]; exact fun j hj => .inl hj)
        obtain ⟨M, I⟩ := A3.out.wait s6.out F6.out (by rw [HW.out, List.length_drop]; omega)
        go_ret
        have hup : (g2.slot (3 * kw.n) (W0.drop q) (.slice (some ⟨b, off + q, none⟩) (W0.length - q) (cap - q))).P (3 * kw.n) = W0.drop q := up_same _ _ _
        refine ⟨_, _, _, M, A3.out.dn, .inr ⟨x, rfl, by rw [HW.out, hE.out, HDR.out, all_bad X2.out, ← HDR.out]; rfl, hxn, by rw [← hA.out.sm.gn]; exact hbad.out.1, I.mono (fun _ => Nat.le_refl _) (fun i hi => ?_), by rw [← hA.out.sm.lt]; exact hbad.out.2⟩⟩
        rw [hup]
        rcases hi with hi | hi
        · exact hi
        · rw [hi, HDR.out]; simp
      · have A3 := hA.out.trans A2.out
        refine ⟨⟨q + 1, g2, L2, p2, by omega, by go_num, hid (A3.weak (Nat.le_refl _) (fun i hi => ?_)), hid (by rw [hE.out, HDR.out, all_good X2.out])⟩, by simp only [intOf]; omega⟩
        rw [HDR.out] at hi
        rcases List.mem_cons.1 hi.1 with h | h
        · exact absurd h hi.2
        · exact h
    · have hqe : q = W0.length := by omega
      have hE2 : Hid (allF kw.n lev (g.P (3 * kw.n)) g.pt L = (none, slotW g1.pt (3 * kw.n) [], L1)) := hid (by rw [HW.out, hE.out, hqe, List.drop_length]; rfl)
      have hX : Hid (Adv k kw g L lev p w (fun _ => False) W0.length g1 L1 p1 wr) := hid (by
        rw [hqe] at hA
        exact hA.out.weak (Nat.le_refl _) (fun i hi => by rw [List.drop_length] at hi; simp at hi))
      have hv3 := hX.out.wa.2.trans HV.out
      have f4 := hX.out.j.s.of 4
      rcases id r1 with ⟨e1, e2⟩ | ⟨b, off, cap', cur, e1, _⟩
      · subst e2
        simp at e1
        obtain ⟨rfl, rfl⟩ := e1
        have r8 : PRow wr g1.cb (.slice none 0 0) [] := .inl ⟨rfl, rfl⟩
        have hv3' : g1.pv (3 * kw.n) = .slice none 0 0 := by simpa using hv3
        obtain ⟨q1, q2, s6, F6⟩ := hX.out.j.s.pusha (fun i hi => by simp at hi) r8 (by rw [hv3']; exact ⟨rfl, rfl, rfl, Nat.le_refl _, fun _ _ _ => rfl⟩) (fun j hj => by simp [Value.ownBlock] at hj)
        obtain ⟨M, I⟩ := hX.out.wait s6.out F6.out (by rw [HW.out]; simp)
        have hc0 := run_clear0 wr 0 none 0
        have HM := hid M
        have HI := hid I
        have HDN := hid hX.out.dn
        clear q1 r8 M I hv3 hv3' r1 hX hA
        go_wp2
        go_ret
        exact ⟨_, _, _, HM.out, HDN.out, .inl ⟨rfl, hE2.out, HI.out, up_same _ _ _⟩⟩
      · cases e1
        have r1' : PRow wr g1.cb (.slice (some ⟨b, off, none⟩) W0.length cap) W0 := by rw [hX.out.sm.cb]; exact r1
        obtain ⟨w8, hc8, r8, g8⟩ := run_pclear wr 0 r1'
        obtain ⟨q1, q2, s6, F6⟩ := hX.out.j.s.pusha (fun i hi => by simp at hi) r8 (by rw [hv3]; exact g8) (by rw [hv3]; exact fun j hj => .inl hj)
        rw [hv3] at q1
        obtain ⟨M, I⟩ := hX.out.wait s6.out F6.out (by rw [HW.out]; simp)
        have HM := hid M
        have HI := hid I
        have HDN := hid hX.out.dn
        clear r8 M I hv3 r1 hX hA r1'
        go_wp2
        go_ret
        exact ⟨_, _, _, HM.out, HDN.out, .inl ⟨rfl, hE2.out, HI.out, up_same _ _ _⟩⟩
end
end Go.Proofs.YtimfjoinjfecjaaGreat

namespace Go.Proofs.YtimfjoinjfecjaaGreat
open Go.RowKit Go.Sort
set_option linter.unusedVariables false

section
variable {k : SK} {w0 w w1 w' : World} {kt : K} {L : List E} {lev : Nat} {p : V} {cls : List (List Int)} {s s' : PS} {v v' : SV} {n : Nat}

/-- The others, in memory. -/
theorem Sr.orow (h : Sr k w s v) (hb : ∀ x ∈ s.oth, 0 ≤ x ∧ x < 2 * (n : Int)) (hn : n ≤ 4096) (hl : s.oth.length ≤ n) : ∃ a c, v.ov = .slice a s.oth.length c ∧ U.Row w a s.oth.length c s.oth := by
  have own : U.Own w (k.SB + 1) v.ov s.oth := ⟨h.ot, fun x hx => by have := hb x hx; omega⟩
  obtain ⟨a, c, e, r⟩ := own.row
  exact ⟨a, c, e, r⟩

/-- What is learned lies in a block of its own. -/
structure Ln (w w' : World) (g c : Nat) (x : Int) (es : List Int) : Prop where
  hg : w.heap.size ≤ g ∧ g < w'.heap.size
  hc : es.length + 1 ≤ c ∧ c ≤ maxLen
  cells : ∀ (j : Nat) (y : Int), (x :: es)[j]? = some y → w'.cell? ⟨g, j, none⟩ = some (.int .i64 y)
  ty : Typ w' g 3

theorem Ln.row {g c : Nat} {x : Int} {es : List Int} (h : Ln w w' g c x es) (hf : U.Fit (x :: es)) : U.Row w' (some ⟨g, 0, none⟩) (es.length + 1) c (x :: es) := by
  refine ⟨by simp, h.hc.1, h.hc.2, fun e => (by cases e), hf, fun _ => ⟨g, 0, rfl, fun j hj => ?_⟩⟩
  rw [Nat.zero_add]
  refine h.cells j _ ?_
  have : j < (x :: es).length := by simpa using hj
  rw [List.getD_eq_getElem?_getD, List.getElem?_eq_getElem this]; rfl

theorem Rn.grownS (c : Cm k w0 kt L lev p cls) {g : Nat} (h : Rn k w0 n w s v) (gr : w.grownBy w' (some g)) (h1 : ∀ j, MineS k v j → j ≠ g) (h2 : w0.heap.size ≤ g) : Rn k w0 n w' s v :=
  ⟨h.r.same (fun j hj => gr.block j (h.r.mine hj).2.1 (fun e => h1 j hj (Option.some.inj e))), ⟨gr.os.trans h.b.os, gr.tape.trans h.b.tape, gr.output.trans h.b.output, Nat.le_trans h.b.size gr.size, fun j hj => (gr.block j (Nat.lt_of_lt_of_le hj h.b.size) (fun e => by have := Option.some.inj e; omega)).trans (h.b.block j hj)⟩, h.wf, h.m2⟩

theorem cw4 {k' : Addr} {o2 o3 : Obj} {w4 : World} (h : Rn k w0 n w s v) (b4 : Below (w.heap.size + 1) (((w.alloc (.cells #[.pointer (some k')] 151)).alloc o2).alloc o3) w4) : Rn k w0 n w4 s v ∧ w4.cell? ⟨w.heap.size, 0, none⟩ = some (.pointer (some k')) ∧ w.heap.size + 1 ≤ w4.heap.size := by
  have h1 : Below w.heap.size w (((w.alloc (.cells #[.pointer (some k')] 151)).alloc o2).alloc o3) := by go_grown
  have h2 : Below w.heap.size w w4 := h1.trans (b4.mono (Nat.le_succ _))
  refine ⟨h.below h2, ?_, ?_⟩
  · rw [b4.cell (p := ⟨w.heap.size, 0, none⟩) (Nat.lt_succ_self _)]
    have hb : (((w.alloc (.cells #[.pointer (some k')] 151)).alloc o2).alloc o3).heap[w.heap.size]? = some (.cells #[.pointer (some k')] 151 (0, 0)) := by
      rw [heap_alloc_old _ _ (by simp; omega), heap_alloc_old _ _ (by simp)]
      exact new_same w _
    exact (cell_of hb).trans rfl
  · have := b4.size
    simp at this
    omega

theorem cw5 {N co : Nat} {ao : Option Addr} (h : Rn k w0 n w s v) (hb : ∀ x ∈ s.oth, 0 ≤ x ∧ x < 2 * (n : Int)) (hn : n ≤ 4096) (he : v.ov = .slice ao N co) (hN : s.oth.length = N) : U.Row w ao N co s.oth := by
  obtain ⟨a, c, e, r⟩ := h.r.orow hb hn (by have := h.wf.ol; have := h.wf.len; omega)
  rw [he, hN] at e
  cases e
  rw [hN] at r
  exact r

theorem cw6 {B : Nat} {w4 w5 : World} {x : Value} (h : Rn k w0 n w4 s v) (t4 : w4.cell? ⟨B, 0, none⟩ = some x) (b5 : Below (B + 1) w4 w5) (hl : ∀ j, MineS k v j → j < B + 1) (hw : w0.heap.size ≤ B) : Rn k w0 n w5 s v ∧ w5.cell? ⟨B, 0, none⟩ = some x :=
  ⟨⟨h.r.same (fun j hj => b5.block j (hl j hj)), h.b.trans (b5.mono (by omega)), h.wf, h.m2⟩, (b5.cell (p := ⟨B, 0, none⟩) (Nat.lt_succ_self _)).trans t4⟩

theorem cw7 {g : Nat} (c : Cm k w0 kt L lev p cls) (h : Rn k w0 n w s v) (hB : w.heap.size + 1 ≤ g) : g ≠ k.SB ∧ ¬ Mine kt p g ∧ g ≠ w.heap.size ∧ (∀ j, MineS k v j → j ≠ g) ∧ w0.heap.size ≤ g := by
  have h1 := h.r.lt
  have h2 := h.b.size
  refine ⟨by omega, fun m => by have := (c.t.lt m).2; omega, by omega, fun j hj => by have := (h.r.mine hj).2.1; omega, by omega⟩

theorem cw8 {a : Nat} (h : a + 1 ≤ 1) : a = 0 := by omega

theorem cw9 {o1 o2 o3 : Obj} {w4 w5 : World} (b4 : Below (w.heap.size + 1) (((w.alloc o1).alloc o2).alloc o3) w4) (b5 : Below (w.heap.size + 1) w4 w5) : Below w.heap.size w w5 := by
  have h1 : Below w.heap.size w (((w.alloc o1).alloc o2).alloc o3) := by go_grown
  exact (h1.trans (b4.mono (Nat.le_succ _))).trans (b5.mono (Nat.le_succ _))

theorem sort_empty (m : Nat) (hm : m = 0) (q : Option Addr) (fv : Value) (w : World) : Calls Tryz.prog 121 #[.slice q m 0, fv] w fun e w' => e = .returned (.tuple #[]) ∧ w' = w := by
  subst hm; exact Tryz.slices_SortFunc_none (α := Nat) q 0 fv w

set_option maxRecDepth 20000 in
set_option maxHeartbeats 4000000 in
theorem clauseWith_is (c : Cm k w0 kt L lev p cls) (h : Rn k w0 kt.n w s v) (x : Int) (hx : 0 ≤ x ∧ x ≤ 9223372036854775807) :
    Calls Tryz.prog 83 #[.pointer (some ⟨k.SB, 0, none⟩), .int .i64 x] w fun e w' => ∃ g cc es, e = .returned (.slice (some ⟨g, 0, none⟩) (s.oth.length + 1) cc) ∧ Hid (Ln w w' g cc x es) ∧ Hid (es.Perm s.oth ∧ Fall L es) ∧ Hid (Rn k w0 kt.n w' s v) ∧ Hid (Below w.heap.size w w') := by
  have hkn := c.hn
  have hol := h.wf.ol
  have hml := h.wf.len
  have hob := h.wf.ob
  obtain ⟨N, hN⟩ : ∃ N, s.oth.length = N := ⟨_, rfl⟩
  have hb1 : Below w.heap.size w (w.alloc (.cells #[.pointer (some ⟨k.SB, 0, none⟩)] 151)) := by go_grown
  have R1 := hid (h.below hb1)
  obtain ⟨ao, co, eo, ro⟩ := R1.out.r.orow hob hkn (by omega)
  have c6 := R1.out.r.c.2.2.2.2.2.2
  rw [eo, hN] at c6
  rw [hN] at ro
  have hmk := make_ints N (by omega) (w.alloc (.cells #[.pointer (some ⟨k.SB, 0, none⟩)] 151))
  have hO := own_made (w.alloc (.cells #[.pointer (some ⟨k.SB, 0, none⟩)] 151)) N (by omega)
  rw [World.size_alloc] at hO
  have HO := hid hO
  clear hO
  have hmc := ro.2.1
  have HRo := hid ro
  have HR := hid h
  have HC := hid c
  have HN := hid hN
  have HEO : Hid (v.ov = .slice ao N co) := hid (by rw [eo, hN])
  have hx1 : -9223372036854775808 ≤ x := by omega
  have hx2 := hx.2
  have hNI : (N : Int) ≤ 4096 := by omega
  have hNw : (1 : Int) + N ≤ 9223372036854775807 := by omega
  have HB := hid hob
  have hX := U.row_one ((w.alloc (.cells #[.pointer (some ⟨k.SB, 0, none⟩)] 151)).alloc (.cells (madeCells #[.int .i64 0] (N + 1)) 3)) x hx1 hx2
  simp only [World.size_alloc] at hX
  have HX := hid hX
  clear hX
  have HB8 : Hid (∀ y ∈ s.oth, 0 ≤ y ∧ y < 8192) := hid (fun y hy => by have := hob y hy; omega)
  have HLN : Hid (s.oth.length ≤ 100000) := hid (by omega)
  have HML : Hid (∀ j, MineS k v j → j < w.heap.size + 1) := hid (fun j hj => by have := (h.r.mine hj).2.1; omega)
  have HW0 : Hid (w0.heap.size ≤ w.heap.size) := hid h.b.size
  clear hob ro h c eo hN hx
  go_enter Tryz.func83, Tryz.ntmps83
  go_wp2_with (first
    | (at_builtin; refine U.append_ints rfl _ _ rfl (w.heap.size + 1) _ [] [x] rfl (HO.out.alloc _) _ 1 1 rfl HX.out (by simp) (by simp) ?_; intro v4 w4 o4 b4; have P4 := cw4 HR.out b4.out; obtain ⟨q4, t4, z4⟩ := P4; have R4 := hid q4; clear q4; have c64 := R4.out.r.c.2.2.2.2.2.2; rw [HEO.out] at c64)
    | (at_builtin; refine U.append_ints rfl _ _ rfl (w.heap.size + 1) _ _ s.oth rfl o4.out ao N co rfl (cw5 R4.out HB.out hkn HEO.out HN.out) (by simp; omega) z4 ?_; intro v5 w5 o5 b5; have P5 := cw6 R4.out t4 b5.out HML.out HW0.out; obtain ⟨q5, t5⟩ := P5; have R5 := hid q5; clear q5; have F5 := own_filled (x := x) (xs := s.oth) o5.out; obtain ⟨g5, c5, cur5, rfl, F5⟩ := F5; have H5 := hid F5; clear F5; have N5 := hid (cw7 HC.out HR.out H5.out.1); have S5 := hid (fun cc => sortFunc_is (x := x) (xs := s.oth) (c := cc) (HC.out.lvl R5.out) t5 N5.out.1 N5.out.2.1 N5.out.2.2.1 H5.out.2.1 H5.out.2.2.2.2 HB8.out HLN.out); by_cases hc5 : c5 = 1; rotate_left; rotate_left; subst hc5; have E5 := hid (cw8 H5.out.2.2.1); rotate_left)
    | (go_at_call 121; with_reducible (refine (S5.out _).mono ?_); rintro e w6 ⟨rfl, es, p6, g6, d6, y6⟩)
    | (go_at_call 121; with_reducible (refine (sort_empty _ E5.out _ _ _).mono ?_); rintro e w6 ⟨rfl, rfl⟩))
  · go_ret
    have b6 : Below w.heap.size w w5 := cw9 b4.out b5.out
    have hl := p6.out.1.length_eq
    refine ⟨g5, c5, es, rfl, hid ⟨⟨by have := H5.out.1; omega, Nat.lt_of_lt_of_le (blk_lt H5.out.2.1) g6.out.size⟩, ⟨by rw [hl]; exact H5.out.2.2.1, H5.out.2.2.2.1⟩, d6.out, y6.out⟩, p6, hid (R5.out.grownS HC.out g6.out N5.out.2.2.2.1 N5.out.2.2.2.2), hid ?_⟩
    exact b6.trans (below_grown g6.out (fun j e => by cases e; have := H5.out.1; omega) b6.size)
  · go_ret
    have b6 := cw9 b4.out b5.out
    have e0 := cw8 H5.out.2.2.1
    have e1 : s.oth = [] := List.eq_nil_of_length_eq_zero e0
    refine ⟨g5, 1, [], rfl, hid ⟨⟨by have := H5.out.1; omega, blk_lt H5.out.2.1⟩, ⟨by simp, by unfold maxLen; omega⟩, fun j y hj => H5.out.2.2.2.2 j y (by rw [e1]; exact hj), ⟨_, _, H5.out.2.1⟩⟩, hid ⟨by rw [e1], by simp [Fall]⟩, R5, hid b6⟩
end

end Go.Proofs.YtimfjoinjfecjaaGreat
