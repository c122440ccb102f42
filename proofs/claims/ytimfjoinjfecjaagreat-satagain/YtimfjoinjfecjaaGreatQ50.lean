/-
  search, exactly.
-/
import Derived.Test.YtimfjoinjfecjaaGreatQ49
import Derived.Test.YtimfjoinjfecjaaGreatQ45

namespace Go.Proofs.YtimfjoinjfecjaaGreat
open Go.RowKit Go.Maps
set_option linter.unusedVariables false

/-- A round of search that is not the last. -/
def Stp1 (c : SC) (a b : SS × WP) : Prop :=
  (∃ (q' : WP) (i lx : Nat) (L' : List E) (ps : PS) (es : List Int), runF c.kw.n a.1.lev a.2 a.1.H a.1.L = (some i, q', L') ∧ a.1.lev ≠ 0 ∧ learnP L' a.1.lev a.1.cls (i : Int) = some (lx, ps) ∧ es.Perm ps.oth ∧ Fall L' es ∧
    b = (lrnF c (upW a.1 L' a.1.lev (litsF L')) (i : Int) (riseI (natI ps.met)) (U.notF lx :: es) (backF L' es), addWP c.kw.n q' (U.notF lx :: es))) ∨
  (∃ (q' : WP) (L' : List E), runF c.kw.n a.1.lev a.2 a.1.H a.1.L = (none, q', L') ∧ a.1.en ≤ a.1.cf ∧ b = (anF c.kw.n (upW a.1 L' a.1.lev (litsF L')), q')) ∨
  (∃ (s' : SS) (q' : WP) (L' : List E), runF c.kw.n a.1.lev a.2 a.1.H a.1.L = (none, q', L') ∧ ¬ a.1.en ≤ a.1.cf ∧ decF c.kw.n (cntOf (upW a.1 L' a.1.lev (litsF L')) + 1) (upW a.1 L' a.1.lev (litsF L')) = (true, s') ∧ b = (s', q'))

theorem Stp1.learn {c : SC} {s : SS} {q q' : WP} {i lx : Nat} {L' : List E} {ps : PS} {es : List Int} (r : runF c.kw.n s.lev q s.H s.L = (some i, q', L')) (l : s.lev ≠ 0) (p : learnP L' s.lev s.cls (i : Int) = some (lx, ps)) (e : es.Perm ps.oth) (f : Fall L' es) :
    Stp1 c (s, q) (lrnF c (upW s L' s.lev (litsF L')) (i : Int) (riseI (natI ps.met)) (U.notF lx :: es) (backF L' es), addWP c.kw.n q' (U.notF lx :: es)) := .inl ⟨q', i, lx, L', ps, es, r, l, p, e, f, rfl⟩
theorem Stp1.anew {c : SC} {s : SS} {q q' : WP} {L' : List E} (r : runF c.kw.n s.lev q s.H s.L = (none, q', L')) (h : s.en ≤ s.cf) : Stp1 c (s, q) (anF c.kw.n (upW s L' s.lev (litsF L')), q') := .inr (.inl ⟨q', L', r, h, rfl⟩)
theorem Stp1.dec {c : SC} {s s' : SS} {q q' : WP} {L' : List E} (r : runF c.kw.n s.lev q s.H s.L = (none, q', L')) (h : ¬ s.en ≤ s.cf) (d : decF c.kw.n (cntOf (upW s L' s.lev (litsF L')) + 1) (upW s L' s.lev (litsF L')) = (true, s')) : Stp1 c (s, q) (s', q') := .inr (.inr ⟨s', q', L', r, h, d, rfl⟩)

/-- So many rounds. -/
def PthN (c : SC) : Nat → SS × WP → SS × WP → Prop
  | 0, a, b => a = b
  | k + 1, a, d => ∃ b, PthN c k a b ∧ Stp1 c b d

def Pth (c : SC) (a b : SS × WP) : Prop := ∃ k, PthN c k a b

theorem Pth.refl {c : SC} {a : SS × WP} : Pth c a a := ⟨0, rfl⟩
theorem Pth.tail {c : SC} {a b d : SS × WP} (h : Pth c a b) (q : Stp1 c b d) : Pth c a d := by
  obtain ⟨k, hk⟩ := h
  exact ⟨k + 1, b, hk, q⟩
theorem Pth.ind {c : SC} {a : SS × WP} (M : SS × WP → Prop) (h0 : M a) (h1 : ∀ b d, Pth c a b → Stp1 c b d → M b → M d) {b : SS × WP} (h : Pth c a b) : M b := by
  obtain ⟨k, hk⟩ := h
  induction k generalizing b with
  | zero => cases (show a = b from hk); exact h0
  | succ k ih =>
    obtain ⟨x, hx, q⟩ := hk
    exact h1 x b ⟨k, hx⟩ q (ih hx)

theorem Stp1.one {c : SC} {a b d : SS × WP} (h1 : Stp1 c a b) (h2 : Stp1 c a d) : b = d := by
  rcases h1 with ⟨q1, i, lx, L1, ps, es, r, l, p, e, f, rfl⟩ | ⟨q1, L1, r, h, rfl⟩ | ⟨s1, q1, L1, r, h, d, rfl⟩
  · rcases h2 with ⟨q2, i2, lx2, L2, ps2, es2, r2, l2, p2, e2, f2, rfl⟩ | ⟨q2, L2, r2, h2, rfl⟩ | ⟨s2, q2, L2, r2, h2, d2, rfl⟩
    · rw [r] at r2; cases r2
      rw [p] at p2; cases p2
      rw [fall_same e f e2 f2]
    · rw [r] at r2; cases r2
    · rw [r] at r2; cases r2
  · rcases h2 with ⟨q2, i2, lx2, L2, ps2, es2, r2, l2, p2, e2, f2, rfl⟩ | ⟨q2, L2, r2, h2, rfl⟩ | ⟨s2, q2, L2, r2, h2, d2, rfl⟩
    · rw [r] at r2; cases r2
    · rw [r] at r2; cases r2; rfl
    · exact absurd h h2
  · rcases h2 with ⟨q2, i2, lx2, L2, ps2, es2, r2, l2, p2, e2, f2, rfl⟩ | ⟨q2, L2, r2, h2, rfl⟩ | ⟨s2, q2, L2, r2, h2, d2, rfl⟩
    · rw [r] at r2; cases r2
    · exact absurd h2 h
    · rw [r] at r2; cases r2
      rw [d] at d2; cases d2; rfl

/-- What search tells, and where it ended. -/
def SEndX (c : SC) (a0 : SS × WP) (bud : Nat) (w0 : World) (e : Ending) (w' : World) : Prop :=
  ∃ (s : SS) (q : WP), Pth c a0 (s, q) ∧ s.cf ≤ bud ∧
  ((∃ (tb : Nat) (q' : WP) (L' : List E) (s' : SS), e = .returned (.agg #[.int .i64 1, .slice (some ⟨tb, 0, none⟩) c.kw.n c.kw.n, .int .i64 s.cf, .slice none 0 0]) ∧ Hid (Below w0.heap.size w0 w') ∧ Hid (w'.heap[tb]? = some (.cells ((ktF s' (-1)).tr.map Value.bool).toArray 4 (0, 0))) ∧ Hid ((ktF s' (-1)).tr.length = c.kw.n) ∧ runF c.kw.n s.lev q s.H s.L = (none, q', L') ∧ ¬ s.en ≤ s.cf ∧ decF c.kw.n (cntOf (upW s L' s.lev (litsF L')) + 1) (upW s L' s.lev (litsF L')) = (false, s')) ∨
   (∃ (v : Value) (F : Nat → Prop) (i : Nat) (q' : WP) (L' : List E), e = .returned (.agg #[.int .i64 2, .slice none 0 0, .int .i64 s.cf, v]) ∧ Hid (UnsEnd F w0 (upW s L' s.lev (litsF L')) v w') ∧ runF c.kw.n s.lev q s.H s.L = (some i, q', L') ∧ s.lev = 0) ∨
   (∃ (i : Nat) (q' : WP) (L' : List E), e = .returned (.agg #[.int .i64 0, .slice none 0 0, .int .i64 bud, .slice none 0 0]) ∧ Hid (Below w0.heap.size w0 w') ∧ runF c.kw.n s.lev q s.H s.L = (some i, q', L') ∧ s.lev ≠ 0 ∧ s.cf = bud))

section
variable {c : SC} {w0 w w' : World} {g g' : G} {s s' : SS} {m m' : MV} {al : Bool} {l : List (List Int)} {bud K0 : Nat}

theorem anew_exact (h : Sm c w0 g s m w) (iv : Iv al c.kw.n l s g) (he : s.en ≤ s.cf) (hcf : s.cf ≤ 255) :
    Calls Tryz.prog 35 #[.pointer (some ⟨c.SB, 0, none⟩)] w fun e w' => e = .returned (.tuple #[]) ∧ Hid (Nx c w0 w m g (anF c.kw.n s) w') ∧ Hid (Iv al c.kw.n l (anF c.kw.n s) g ∧ (anF c.kw.n s).cf = s.cf ∧ (anF c.kw.n s).cf < (anF c.kw.n s).en ∧ tot c.kw.n g ≤ tot c.kw.n g) := by
  have h1 := iv.ns
  have h2 := iv.cf
  have h3 := iv.lm
  have h4 := iv.rd
  obtain ⟨la, lw, _⟩ := h.o.lens
  have hn := h.hn
  obtain ⟨a1, a2, a3, a4⟩ := iv.anew h.W.j.t h.W.j.n (by omega) he
  refine (anew_nil h (.inr (by omega)) (by omega) (by omega)).mono fun e w' q => ?_
  exact ⟨q.1, q.2, hid ⟨a1, a4, a3, Nat.le_refl _⟩⟩

set_option maxRecDepth 20000 in
set_option maxHeartbeats 8000000 in
theorem search_ex (h : Sm c w0 g s m w) (hd : Hd al l bud K0 c g s) (hf : c.fst = l.length) (hn : c.kw.n ≤ 900) (hN : l.length + bud ≤ 20000) (hK : K0 ≤ 250000000000) (hb255 : bud ≤ 255) :
    Calls Tryz.prog 18 #[.pointer (some ⟨c.SB, 0, none⟩), .int .i64 (bud : Nat)] w fun e w' => SEndX c (s, g.pt) bud w0 e w' := by
  have hal : Below w.heap.size w (w.alloc (.cells #[.int .i64 0, .slice none 0 0, .int .i64 0, .slice none 0 0] 27)) := by go_grown
  have hz := h.fresh9 hal (fun j => decide (j = w.heap.size)) (fun j hj _ _ => ⟨27, by cases of_decide_eq_true hj; exact ⟨_, _, new_same w _⟩, by simp [Wt]⟩)
  obtain ⟨h1, k1⟩ := hz
  have H1 := hid h1
  have HR : Hid ((w.alloc (.cells #[.int .i64 0, .slice none 0 0, .int .i64 0, .slice none 0 0] 27)).heap[w.heap.size]? = some (.cells #[.int .i64 0, .slice none 0 0, .int .i64 0, .slice none 0 0] 27 (0, 0))) := hid (new_same w _)
  have OW : Hid (owN m.ow w.heap.size (fun j => decide (j = w.heap.size)) w.heap.size = 9) := hid (owN_new (Nat.le_refl _) (by simp))
  have hw0 : w0.heap.size ≤ w.heap.size := h.b0.size
  have HHD := hid hd
  clear h k1 h1 hal hd
  go_enter Tryz.func18, Tryz.ntmps18
  go_wp2
  generalize hw1 : w.alloc (.cells #[.int .i64 0, .slice none 0 0, .int .i64 0, .slice none 0 0] 27) = w1 at *
  generalize hrr : w.heap.size = r at *
  generalize how : owN m.ow r (fun j => decide (j = r)) = ow1 at *
  have hrl : r < w1.heap.size := blk_lt HR.out
  clear how hw1 hrr
  go_loopw [] (fun wr => ∃ (g1 : G) (s1 : SS) (m1 : MV), Hid (Sm c w0 g1 s1 m1 wr) ∧ Hid (Kp w0 w1 ow1 wr m1.ow) ∧ Hid (Hd al l bud K0 c g1 s1) ∧ Hid (Pth c (s, g.pt) (s1, g1.pt))) (fun wr => muW c c.kw.n bud wr)
  case atStart => exact ⟨g, s, _, H1, hid (Kp.refl _ _ _), HHD, hid .refl⟩
  case round =>
    clear H1 HHD
    obtain ⟨g1, s1, m1, h1, k1, hd1, pth⟩ := hrel
    have NM := hid (mu_of h1.out c.kw.n bud)
    have c0 := h1.out.c0
    have c1 := h1.out.c1
    obtain ⟨mD, hD, kD⟩ := h1.out.xbelow (below_drew wr)
    have HD := hid hD
    have KD := hid (k1.out.trans kD)
    have hnx := hid (hd1.out.nx hN).2
    have hsu := hid (hd1.out.su hN hn hK)
    clear hD kD h1 k1
    go_upto_region 1 with fail
    go_cut [5, 6] from 7 to 19 (fun v5 v6 wz => ∃ (i : Int) (ok : Bool) (g2 : G) (L2 : List E) (m2 : MV), v5 = .int .i64 i ∧ v6 = .bool ok ∧ Hid (RunV g1 g2 L2 i ok) ∧ Hid (Sm c w0 g2 (upW s1 L2 s1.lev (litsF L2)) m2 wz) ∧ Hid (Kp w0 w1 ow1 wz m2.ow) ∧ Hid (Sm0 g1 g2 ∧ tot c.kw.n g2 ≤ tot c.kw.n g1 + (c.kw.n * g1.nx + 1)) ∧ Hid (Ext s1.L L2 s1.lev) ∧ Hid (runF c.kw.n s1.lev g1.pt s1.H s1.L = (bif ok then none else some i.toNat, g2.pt, L2)))
    case first =>
      go_region_with (first
        | (go_at_call 31; with_reducible (refine (srun_ex HD.out hnx.out hsu.out).mono ?_); rintro e w5 ⟨i, ok, g2, L2, m2, rfl, V, S2, K2, T2, X2, Y2⟩))
      all_goals go_wp2
      all_goals go_meet
      all_goals exact ⟨i, ok, g2, L2, m2, rfl, rfl, V, S2, hid (KD.out.trans K2.out), T2, X2, Y2⟩
    case rest =>
      obtain ⟨i, ok, g2, L2, m2, rfl, rfl, V, S2, K2, T2, X2, Y2⟩ := hcut
      clear HD KD hnx hsu c0 c1
      have IV2 := hid (hd1.out.iv.run (H' := litsF L2) T2.out.1 X2.out)
      have hr2 := hid (((K2.out.zz r hrl (.inr OW.out)).1).trans HR.out)
      have ow2 := hid (((K2.out.zz r hrl (.inr OW.out)).2).trans OW.out)
      have d12 := S2.out.c12
      have d14 := S2.out.c14
      have d0 := S2.out.c0
      obtain ⟨cf, hcf⟩ : ∃ cf, (upW s1 L2 s1.lev (litsF L2)).cf = cf := ⟨_, rfl⟩
      obtain ⟨en, hen⟩ : ∃ en, (upW s1 L2 s1.lev (litsF L2)).en = en := ⟨_, rfl⟩
      rw [hcf] at d12
      rw [hen] at d14
      have hcb := hd1.out.cf
      have HUC := hid hcf
      have HCF : Hid (s1.cf = cf) := hid hcf
      have HEN : Hid (s1.en = en) := hid hen
      rw [HCF.out] at hcb
      clear hcf hen
      cases ok
      · obtain ⟨j, rfl, hj⟩ := run_false V.out
        have Y3 : Hid (runF c.kw.n s1.lev g1.pt s1.H s1.L = (some j, g2.pt, L2)) := hid Y2.out
        obtain ⟨lev, hlev⟩ : ∃ lev, s1.lev = lev := ⟨_, rfl⟩
        have HT := hid S2.out.W.j.t
        rw [show (upW s1 L2 s1.lev (litsF L2)).lev = lev from hlev] at HT
        have HLV := hid hlev
        clear hlev
        have hlb : lev ≤ 1048576 := by have := HT.out.len; omega
        by_cases hl0 : lev = 0
        · subst hl0
          have HZ : Hid (U.Stp (l ++ s1.prf) []) := hid (zero_bad (s := upW s1 L2 s1.lev (litsF L2)) IV2.out S2.out HLV.out (i := j) (by rw [T2.out.1.nx]; exact hj.out.1) (by rw [T2.out.1.lt]; exact hj.out.2.2))
          have hpl : Hid ((upW s1 L2 s1.lev (litsF L2)).prf.length ≤ 1000000) := hid (by have := hd1.out.iv.cf; have := HCF.out; show s1.prf.length ≤ _; omega)
          go_wp2_with (first
            | (go_at_call 32; with_reducible (refine (levels_is HT.out).mono ?_); rintro e w6 ⟨rfl, rfl⟩)
            | (go_at_call 33; with_reducible (refine (unsat_is S2.out hpl.out).mono ?_); rw [HUC.out]; rintro e w6 ⟨v, F, rfl, UE, U9⟩; obtain ⟨pa, pp, hv, _⟩ := UE.out.gr _ (fun _ _ => rfl); subst hv; have U8 := U9.out r (blk_lt hr2.out) ow2.out; have hr6 := U8.1.trans hr2.out; have z0 := cell_of (o := 0) hr6; have z1 := cell_of (o := 1) hr6; have z2 := cell_of (o := 2) hr6; have z3 := cell_of (o := 3) hr6; have y0 := frozen_of (o := 0) hr6; have y1 := frozen_of (o := 1) hr6; have y2 := frozen_of (o := 2) hr6; have y3 := frozen_of (o := 3) hr6; have H8 := hid (res_blk (a' := .int .i64 2) (b' := .slice none 0 0) (cc' := .int .i64 cf) (d' := .slice pa ((upW s1 L2 s1.lev (litsF L2)).prf.length + 1) pp) hr6); have HE := hid (uns_store UE.out U8.2 hw0 (a' := .int .i64 2) (b' := .slice none 0 0) (cc' := .int .i64 cf) (d' := .slice pa ((upW s1 L2 s1.lev (litsF L2)).prf.length + 1) pp)); clear hr6 U8 U9 UE))
          generalize hW8 : ((((w6.setCell ⟨r, 0, none⟩ (.int .i64 2)).setCell ⟨r, 1, none⟩ (.slice none 0 0)).setCell ⟨r, 2, none⟩ (.int .i64 cf)).setCell ⟨r, 3, none⟩ (.slice pa ((upW s1 L2 s1.lev (litsF L2)).prf.length + 1) pp)) = w8 at *
          have r0 : w8.cell? ⟨r, 0, none⟩ = some (.int .i64 2) := cell_of H8.out
          have r1 : w8.cell? ⟨r, 1, none⟩ = some (.slice none 0 0) := cell_of H8.out
          have r2 : w8.cell? ⟨r, 2, none⟩ = some (.int .i64 cf) := cell_of H8.out
          have r3 : w8.cell? ⟨r, 3, none⟩ = some (.slice pa ((upW s1 L2 s1.lev (litsF L2)).prf.length + 1) pp) := cell_of H8.out
          refine bodyPost_ret (by simp [results, Tryz.results18, go_sem, r0, r1, r2, r3]; try rfl) rfl ?_
          exact ⟨s1, g1.pt, pth.out, hd1.out.cf, .inr (.inl ⟨_, F, j, _, L2, by rw [HCF.out], HE, Y3.out, HLV.out⟩)⟩
        · have hl1 : ((lev : Int) == 0) = false := by rw [beq_eq_false_iff_ne]; omega
          by_cases hb : cf = bud
          · rw [hb] at d12
            have z0 := cell_of (o := 0) hr2.out
            have z1 := cell_of (o := 1) hr2.out
            have z2 := cell_of (o := 2) hr2.out
            have z3 := cell_of (o := 3) hr2.out
            have y0 := frozen_of (o := 0) hr2.out
            have y1 := frozen_of (o := 1) hr2.out
            have y2 := frozen_of (o := 2) hr2.out
            have y3 := frozen_of (o := 3) hr2.out
            have H8 := hid (res_blk (a' := .int .i64 0) (b' := .slice none 0 0) (cc' := .int .i64 bud) (d' := .slice none 0 0) hr2.out)
            have HE := hid (res_bel (a' := .int .i64 0) (b' := .slice none 0 0) (cc' := .int .i64 bud) (d' := .slice none 0 0) S2.out.b0 hw0)
            go_wp2_with (first
              | (go_at_call 32; with_reducible (refine (levels_is HT.out).mono ?_); rintro e w6 ⟨rfl, rfl⟩))
            rename_i w6
            generalize hW8 : ((((w6.setCell ⟨r, 0, none⟩ (.int .i64 0)).setCell ⟨r, 1, none⟩ (.slice none 0 0)).setCell ⟨r, 2, none⟩ (.int .i64 bud)).setCell ⟨r, 3, none⟩ (.slice none 0 0)) = w8 at *
            have r0 : w8.cell? ⟨r, 0, none⟩ = some (.int .i64 0) := cell_of H8.out
            have r1 : w8.cell? ⟨r, 1, none⟩ = some (.slice none 0 0) := cell_of H8.out
            have r2 : w8.cell? ⟨r, 2, none⟩ = some (.int .i64 bud) := cell_of H8.out
            have r3 : w8.cell? ⟨r, 3, none⟩ = some (.slice none 0 0) := cell_of H8.out
            refine bodyPost_ret (by simp [results, Tryz.results18, go_sem, r0, r1, r2, r3]; try rfl) rfl ?_
            exact ⟨s1, g1.pt, pth.out, hd1.out.cf, .inr (.inr ⟨j, _, L2, rfl, HE, Y3.out, by rw [HLV.out]; exact hl0, by rw [HCF.out, hb]⟩)⟩
          · have hb2 : ((cf : Int) == bud) = false := by rw [beq_eq_false_iff_ne]; omega
            have hjn : j < g2.nx := by rw [T2.out.1.nx]; exact hj.out.1
            obtain ⟨lx, ps, hlp, ta⟩ := IV2.out.teach S2.out.W.j.t S2.out.W.j.n S2.out.W.rs (show 1 ≤ s1.lev by rw [HLV.out]; omega) hjn (by rw [T2.out.1.gn]; exact hj.out.2.1) (by rw [T2.out.1.lt]; exact hj.out.2.2)
            have hlen : Hid (g2.nx ≤ 20000 ∧ s1.prf.length ≤ 20000 ∧ s1.fs.length ≤ 20000 ∧ s1.ns.length ≤ 20000 ∧ s1.cls.length ≤ 20000 ∧ (g2.P (3 * c.kw.n)).length ≤ 1000000000000) := hid (by
              have a1 := hd1.out.nx hN
              have a2 := hd1.out.iv.cf
              have a3 := hd1.out.iv.fs
              have a4 := hd1.out.iv.ns
              have a5 := hd1.out.iv.cn
              have a6 := hd1.out.cf
              have a7 := tot_pl c.kw.n g2
              have a8 := hd1.out.su hN hn hK
              have a9 := T2.out.2
              rw [T2.out.1.nx]
              omega)
            have HLS := hid (learn_s S2.out (j : Int) hlp hn (by rw [hf]; exact IV2.out.rsn S2.out.W.rs hjn _) (by have := hlen.out; omega) hlen.out.2.2.2.2.2 (show s1.cls.length ≤ _ by have := hlen.out; omega) (show s1.fs.length ≤ _ by have := hlen.out; omega) (show s1.ns.length ≤ _ by have := hlen.out; omega) (by omega) (show s1.prf.length ≤ _ by have := hlen.out; omega) (show s1.wg ≤ _ by have := hd1.out.iv.wg; omega) (show s1.cf ≤ _ by have := HCF.out; omega))
            have HTA := hid ta
            have HLT : Hid (s1.cf < bud) := hid (by have := HCF.out; omega)
            have HLP := hid hlp
            clear hlp ta hlen
            go_wp2_with (first
              | (go_at_call 32; with_reducible (refine (levels_is HT.out).mono ?_); rintro e w6 ⟨rfl, rfl⟩)
              | (go_at_call 34; with_reducible (refine HLS.out.mono ?_); rintro e w7 ⟨es, g7, rfl, PM, N7, D7⟩; have n8 := Nx.out N7.out; obtain ⟨m7, h7, k7⟩ := n8))
            have HH := hid (hd1.out.lrn (cn := (j : Int)) hN S2.out IV2.out HTA.out PM.out D7.out T2.out.2 rfl HLT.out hf)
            go_roundw
            case rel => exact ⟨g7, _, m7, h7, hid (K2.out.trans k7.out), hid HH.out.1, hid (by rw [D7.out.pt]; exact pth.out.tail (.learn Y3.out (by rw [HLV.out]; exact hl0) HLP.out PM.out.1 PM.out.2))⟩
            case measure => rw [mu_of h7.out, NM.out]; exact HH.out.2
      · have HCL := hid (run_true V.out)
        have Y3 : Hid (runF c.kw.n s1.lev g1.pt s1.H s1.L = (none, g2.pt, L2)) := hid Y2.out
        by_cases hce : en ≤ cf
        · have hce' : (en : Int) ≤ cf := by omega
          go_upto_region 8 with fail
          go_quiet (fail)
          obtain ⟨mE, hE, kE⟩ := S2.out.xbelow (drewN_any _ wc nq)
          have HE2 := hid hE
          have KE := hid (K2.out.trans kE)
          clear hE kE
          have HAC := hid (anew_exact HE2.out IV2.out (show s1.en ≤ s1.cf by rw [HEN.out, HCF.out]; exact hce) (Nat.le_trans hd1.out.cf hb255))
          go_wp2_with (first
            | (go_at_call 35; with_reducible (refine HAC.out.mono ?_); rintro e w7 ⟨rfl, N7, I7⟩; have n8 := Nx.out N7.out; obtain ⟨m7, h7, k7⟩ := n8))
          have HH := hid (hd1.out.anew hN I7.out.1 T2.out.2 I7.out.2.2.2 I7.out.2.1 I7.out.2.2.1 (by rw [HEN.out, HCF.out]; exact hce))
          go_roundw
          case rel => exact ⟨g2, _, m7, h7, hid (KE.out.trans k7.out), hid HH.out.1, hid (pth.out.tail (.anew Y3.out (by rw [HEN.out, HCF.out]; exact hce)))⟩
          case measure => rw [mu_of h7.out, NM.out]; exact HH.out.2
        · have hce' : ¬ (en : Int) ≤ cf := by omega
          go_upto_region 8 with fail
          go_quiet (fail)
          obtain ⟨mE, hE, kE⟩ := S2.out.xbelow (drewN_any _ wc nq)
          have HE2 := hid hE
          have KE := hid (K2.out.trans kE)
          clear hE kE
          have HDE := hid (decide_s HE2.out)
          go_wp2_with (first
            | (go_at_call 36; with_reducible (refine HDE.out.mono ?_); rintro e w7 ⟨bq, rfl, nw⟩; cases bq <;> (have n8 := NxW.out nw; obtain ⟨s7, m7, HD7, h7, k7⟩ := n8; clear nw))
            | (go_at_call 37; with_reducible (refine (sat_is h7.out).mono ?_); rintro e w8 ⟨tb, rfl, B8, M8, L8, Z8⟩; obtain ⟨cf7, hcf7⟩ : ∃ cf7, s7.cf = cf7 := ⟨_, rfl⟩; have hr7 := hid (((KE.out.trans k7.out).zz r hrl (.inr OW.out)).1.trans HR.out); have ow7 := hid (((KE.out.trans k7.out).zz r hrl (.inr OW.out)).2.trans OW.out); have Z9 := Z8.out r (blk_lt hr7.out) ow7.out; have hr8 := Z9.1.trans hr7.out; have z0 := cell_of (o := 0) hr8; have z1 := cell_of (o := 1) hr8; have z2 := cell_of (o := 2) hr8; have z3 := cell_of (o := 3) hr8; have y0 := frozen_of (o := 0) hr8; have y1 := frozen_of (o := 1) hr8; have y2 := frozen_of (o := 2) hr8; have y3 := frozen_of (o := 3) hr8))
          · have SE := hid (sat_end S2.out h7.out IV2.out HCL.out HD7.out)
            have HCF7 : Hid (s7.cf = cf) := hid (SE.out.1.trans HUC.out)
            obtain rfl : cf = cf7 := HCF7.out.symm.trans hcf7
            have H8 := hid (res_blk (a' := .int .i64 1) (b' := .slice (some ⟨tb, 0, none⟩) c.kw.n c.kw.n) (cc' := .int .i64 cf) (d' := .slice none 0 0) hr8)
            have HE := hid (res_bel (a' := .int .i64 1) (b' := .slice (some ⟨tb, 0, none⟩) c.kw.n c.kw.n) (cc' := .int .i64 cf) (d' := .slice none 0 0) B8.out hw0)
            have HM := hid ((res_oth (a' := .int .i64 1) (b' := .slice (some ⟨tb, 0, none⟩) c.kw.n c.kw.n) (cc' := .int .i64 cf) (d' := .slice none 0 0) Z9.2.symm).trans M8.out)
            generalize hW9 : ((((w8.setCell ⟨r, 0, none⟩ (.int .i64 1)).setCell ⟨r, 1, none⟩ (.slice (some ⟨tb, 0, none⟩) c.kw.n c.kw.n)).setCell ⟨r, 2, none⟩ (.int .i64 cf)).setCell ⟨r, 3, none⟩ (.slice none 0 0)) = w9 at *
            have r0 : w9.cell? ⟨r, 0, none⟩ = some (.int .i64 1) := cell_of H8.out
            have r1 : w9.cell? ⟨r, 1, none⟩ = some (.slice (some ⟨tb, 0, none⟩) c.kw.n c.kw.n) := cell_of H8.out
            have r2 : w9.cell? ⟨r, 2, none⟩ = some (.int .i64 cf) := cell_of H8.out
            have r3 : w9.cell? ⟨r, 3, none⟩ = some (.slice none 0 0) := cell_of H8.out
            refine bodyPost_ret (by simp [results, Tryz.results18, go_sem, r0, r1, r2, r3]; try rfl) rfl ?_
            exact ⟨s1, g1.pt, pth.out, hd1.out.cf, .inl ⟨tb, _, L2, s7, by rw [HCF.out], HE, HM, L8, Y3.out, by rw [HEN.out, HCF.out]; exact hce, HD7.out⟩⟩
          · have HH := hid (hd1.out.dec hN S2.out h7.out IV2.out HCL.out T2.out.2 rfl rfl X2.out.len HD7.out)
            go_roundw
            case rel => exact ⟨g2, s7, m7, h7, hid (KE.out.trans k7.out), hid HH.out.1, hid (pth.out.tail (.dec Y3.out (by rw [HEN.out, HCF.out]; exact hce) HD7.out))⟩
            case measure => rw [mu_of h7.out, NM.out]; exact HH.out.2
end
end Go.Proofs.YtimfjoinjfecjaaGreat
