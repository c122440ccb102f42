/-
  add: a clause is there.
  The order's calls, of a solver; weigh.
  keepTruths: the truths of what is taken back are kept.
-/
import Derived.Test.YtimfjoinjfecjaaGreatP30
import Derived.Test.YtimfjoinjfecjaaGreatP13

namespace Go.Proofs.YtimfjoinjfecjaaGreat
open Go.RowKit Go.Maps
set_option linter.unusedVariables false

section
variable {c : SC} {w0 w w' : World} {g g' : G} {s s' : SS} {m m' : MV} {ow : Nat → Nat}

theorem GVt.app {vs us : List Value} {xss yss : List (List Int)} (h : GVt w0 w ow vs xss) (g : GVt w0 w ow us yss) : GVt w0 w ow (vs ++ us) (xss ++ yss) := by
  refine ⟨by simp [h.1, g.1], fun j hj => ?_⟩
  by_cases hjl : j < vs.length
  · obtain ⟨a, m, c, e1, e2, e3⟩ := h.2 j hjl
    refine ⟨a, m, c, by rw [List.getElem?_append_left hjl]; exact e1, ?_, e3⟩
    have : (xss ++ yss).getD j [] = xss.getD j [] := by
      simp only [List.getD_eq_getElem?_getD]; rw [List.getElem?_append_left (by rw [← h.1]; exact hjl)]
    rw [this]; exact e2
  · have hj2 : j - vs.length < us.length := by simp at hj; omega
    obtain ⟨a, m, c, e1, e2, e3⟩ := g.2 (j - vs.length) hj2
    refine ⟨a, m, c, by rw [List.getElem?_append_right (by omega)]; exact e1, ?_, e3⟩
    have : (xss ++ yss).getD j [] = yss.getD (j - vs.length) [] := by
      simp only [List.getD_eq_getElem?_getD]; rw [List.getElem?_append_right (by rw [← h.1]; omega), ← h.1]
    rw [this]; exact e2

theorem GVt.one {ao : Option Addr} {n cap : Nat} {xs : List Int} (h : GVt w0 w ow [.slice ao n cap] [xs]) : U.Row w ao n cap xs := by
  obtain ⟨a, k, p, e1, e2, _⟩ := h.2 0 (by simp)
  simp at e1
  obtain ⟨rfl, rfl, rfl⟩ := e1
  exact e2

/-- The trail and the watch behind Add. -/
theorem Sm.added {xs : List Int} {L : List E} (h : Sm c w0 g s m w) (W' : Wa c.k c.kw w' g' s.L s.lev m.p s.H) (d : AddD c.kw.n w.heap.size g g' xs) (f : FW c.kw.B w w') : Nx c w0 w m g' s w' := by
  have := h.wa (L' := s.L) (lev' := s.lev) (H' := s.H) W' (FT.fw f) (fun i hi hg j e h0 hj => ?_) (fun h0 j e hj => h.t.ft j (.inr (.inr (.inr ⟨h0, by rw [← d.hv]; exact e⟩))))
  · exact ⟨_, this.1, this.2⟩
  · obtain ⟨lv, e1, e2⟩ := d.lo
    rw [d.nx] at hi
    rw [d.gn] at hg
    rw [e1] at e
    rw [d.lt] at h0
    by_cases q : i = g.nx
    · subst q
      rw [up_same] at e h0
      have := e2 j e h0
      omega
    · rw [up_ne _ _ q] at e h0 hg
      exact h.t.ft j (.inr (.inr (.inl ⟨i, by omega, hg, e, h0⟩)))

set_option maxHeartbeats 2000000 in
theorem add_s (h : Sm c w0 g s m w) {ao : Option Addr} {n cap : Nat} {xs : List Int} (row : GVt w0 w m.ow [.slice ao n cap] [xs]) (hn : n ≤ 1000) (hx : ∀ x ∈ xs, 0 ≤ x ∧ x < 2 * (c.kw.n : Int)) (hnx : g.nx ≤ 1000000) (hpl : (g.P (3 * c.kw.n)).length ≤ 1000000000000) (hcl : s.cls.length ≤ 1000000) :
    Calls Tryz.prog 28 #[.pointer (some ⟨c.SB, 0, none⟩), .slice ao n cap] w fun e w' => ∃ g', e = .returned (.tuple #[]) ∧ Hid (Nx c w0 w m g' (s.C (s.cls ++ [xs])) w') ∧ Hid (AddD c.kw.n w.heap.size g g' xs) := by
  obtain ⟨md, hd, kd⟩ := h.xbelow (below_drew w)
  have c0 := h.c0
  have c1 := h.c1
  have HD := hid hd
  have KD := hid kd
  have HX := hid hx
  have GD := hid (kd.gv _ _ row)
  have e0 : (w.drew).heap.size = w.heap.size := rfl
  clear hd kd hx h row
  go_enter Tryz.func28, Tryz.ntmps28
  go_upto_region 0 with fail
  go_region_with (first
    | (go_at_call 42; with_reducible (refine (add_is HD.out.W ⟨c.k.OB, 0, none⟩ GD.out.one hn HX.out hnx hpl).mono ?_); rintro e w5 ⟨g5, rfl, W5, D5, F5⟩))
  all_goals
    obtain ⟨m5, h5, k5⟩ := HD.out.added (L := s.L) W5.out D5.out F5.out
    obtain ⟨vs, q1, q2, q3⟩ := h5.cl
    have G5 := hid (k5.gv _ _ GD.out)
    have x3 := h5.c3
    obtain ⟨ca, cp, ecv⟩ : ∃ ca cp, m5.cv = .slice ca s.cls.length cp := by
      rcases q1.2 with ⟨e, e2⟩ | ⟨b, cap, cur, e, _⟩
      · exact ⟨none, 0, by rw [e, e2]⟩
      · exact ⟨_, cap, e⟩
    obtain ⟨v7, w7, r7, o7, g7, n7⟩ := run_cls (w1 := w5) (w := w5.alloc (.cells #[.slice ao n cap] 42)) 0 (.slice ao n cap) rfl (by go_grown) w0.heap.size m5.cv s.cls.length vs q1 w5.heap.size (cell_of (o := 0) (new_same w5 _)) hcl h5.b0.size
    obtain ⟨b7, p7, rfl⟩ := own_pos o7
    obtain ⟨q7, h8, k8⟩ := h5.addc (xs := xs) q1 (q3.1.app G5.out) q2 o7 g7 n7
    have y3 : w7.cell? ⟨c.SB, 3, none⟩ = some m5.cv := by rw [cell_of q7]; rfl
    have u3 : w7.frozen? ⟨c.SB, 3, none⟩ = false := frozen_of q7
    rw [ecv] at x3 y3
    have R7 : Hid (∀ ty, (Builtin.append_ #[22, 22] ty #[.slice ca s.cls.length cp, .slice (some ⟨w5.heap.size, 0, none⟩) 1 1]).run Tryz.prog (w5.alloc (.cells #[.slice ao n cap] 42)) = .ok (.slice (some ⟨b7, 0, none⟩) (s.cls.length + 1) p7) w7) := hid (fun ty => by rw [← ecv]; exact r7)
    have HE : Hid (Nx c w0 w m g5 (s.C (s.cls ++ [xs])) (w7.setCell ⟨c.SB, 3, none⟩ (.slice (some ⟨b7, 0, none⟩) (s.cls.length + 1) p7))) := hid ⟨_, h8, (KD.out.trans k5).trans k8⟩
    have lt5 := h5.sb_lt
    clear h8 k8 q7 o7 g7 n7 r7 q1 q2 q3 h5 k5 W5 F5 G5
    go_wp2_with (at_builtin; refine list_of (t := 22) (v := .slice ca s.cls.length cp) (u := .slice (some ⟨w5.heap.size, 0, none⟩) 1 1) rfl _ _ rfl rfl rfl (R7.out _) ?_)
    go_end0
    exact ⟨g5, rfl, HE, D5⟩
end
end Go.Proofs.YtimfjoinjfecjaaGreat

namespace Go.Proofs.YtimfjoinjfecjaaGreat
open Go.RowKit Go.Maps
set_option linter.unusedVariables false

def bumpsF (A : List Int) (d : Int) (xs : List Int) : List Int := xs.foldl (fun A v => Od.bumpF A v d) A
theorem bumps_next {A : List Int} {d : Int} {xs : List Int} {q : Nat} {y : Int} (h : xs[q]? = some y) : bumpsF A d (xs.take (q + 1)) = Od.bumpF (bumpsF A d (xs.take q)) y d := by
  rw [List.take_add_one, h]
  simp [bumpsF, List.foldl_append]

def hlvF : Nat → List Int → Nat → List Int × Nat
  | 0, A, x => (A, x)
  | f + 1, A, x => if 262144 ≤ x then hlvF f (Od.halveF A) (x / 2) else (A, x)

def weighF (s : SS) (met : List Int) : SS :=
  if s.wg + s.wg / 32 ≤ 17179869184 then (upO s (bumpsF s.A s.wg met) s.W).wt (s.wg + s.wg / 32)
  else (upO s (hlvF (s.wg + s.wg / 32) (bumpsF s.A s.wg met) (s.wg + s.wg / 32)).1 s.W).wt (hlvF (s.wg + s.wg / 32) (bumpsF s.A s.wg met) (s.wg + s.wg / 32)).2

theorem weigh_a {s : SS} {met : List Int} {x : Nat} (hx : s.wg + s.wg / 32 = x) (h : x ≤ 17179869184) : weighF s met = (upO s (bumpsF s.A s.wg met) s.W).wt x := by unfold weighF; rw [hx, if_pos h]
theorem weigh_b {s : SS} {met : List Int} {x f y : Nat} {A : List Int} (hx : s.wg + s.wg / 32 = x) (h : ¬ x ≤ 17179869184) (hh : hlvF f A y = hlvF x (bumpsF s.A s.wg met) x) (hy : ¬ 262144 ≤ y) : weighF s met = (upO s A s.W).wt y := by
  have e : hlvF f A y = (A, y) := by
    cases f with
    | zero => rfl
    | succ f => unfold hlvF; rw [if_neg hy]
  unfold weighF
  rw [hx, if_neg h, ← hh, e]

section
variable {c : SC} {w0 w w' : World} {g g' : G} {s s' : SS} {m m' : MV}

/-- A field, as a number. -/
def numOf (c : SC) (i : Nat) (w : World) : Nat := match w.cell? ⟨c.SB, i, none⟩ with
  | some (.int _ x) => x.toNat
  | _ => 0
theorem num_wg (h : Sm c w0 g s m w) : numOf c 11 w = s.wg := by unfold numOf; rw [h.c11]; simp

theorem Nx.out (h : Nx c w0 w m g' s' w') : ∃ m', Hid (Sm c w0 g' s' m' w') ∧ Hid (Kp w0 w m.ow w' m'.ow) := h

theorem sbump (h : Sm c w0 g s m w) (v d : Int) : Calls Tryz.prog 86 #[.pointer (some ⟨c.ko.OB, 0, none⟩), .int .i64 v, .int .i64 d] w fun e w' => ∃ b, e = .returned (.bool b) ∧ Hid (Nx c w0 w m g (upO s (Od.bumpF s.A v d) s.W) w') := by
  refine (Od.bump_any h.o v d).mono fun e w' q => ?_
  obtain ⟨rfl, q1, q2⟩ := q
  exact ⟨_, rfl, h.xord q1 q2⟩
theorem shalve (h : Sm c w0 g s m w) : Calls Tryz.prog 87 #[.pointer (some ⟨c.ko.OB, 0, none⟩)] w fun e w' => e = .returned (.tuple #[]) ∧ Hid (Nx c w0 w m g (upO s (Od.halveF s.A) s.W) w') := by
  refine (Od.halve_any h.o).mono fun e w' q => ?_
  obtain ⟨rfl, q1, q2⟩ := q
  exact ⟨rfl, h.xord q1 q2⟩
theorem spush (h : Sm c w0 g s m w) (v : Int) : Calls Tryz.prog 29 #[.pointer (some ⟨c.ko.OB, 0, none⟩), .int .i64 v] w fun e w' => ∃ b, e = .returned (.bool b) ∧ Hid (Nx c w0 w m g (upO s s.A (Od.pushW c.kw.n s.W v)) w') := by
  refine (Od.push_any h.o v).mono fun e w' q => ?_
  obtain ⟨rfl, v', q1, q2⟩ := q
  rw [h.hn] at q1
  exact ⟨_, rfl, h.xord q1 q2⟩
theorem spop (h : Sm c w0 g s m w) : Calls Tryz.prog 60 #[.pointer (some ⟨c.ko.OB, 0, none⟩)] w fun e w' => e = .returned (.tuple #[.int .i64 (Od.popV s.A s.W), .bool (Od.popA s.A s.W)]) ∧ Hid (Nx c w0 w m g (upO s s.A (Od.popW s.A s.W)) w') := by
  refine (Od.pop_any h.o).mono fun e w' q => ?_
  obtain ⟨rfl, v', q1, q2⟩ := q
  exact ⟨rfl, h.xord q1 q2⟩

set_option maxHeartbeats 4000000 in
theorem weigh_is (h : Sm c w0 g s m w) {ao : Option Addr} {n cap : Nat} {xs : List Int} (row : GVt w0 w m.ow [.slice ao n cap] [xs]) (hw : s.wg ≤ 20000000000) :
    Calls Tryz.prog 52 #[.pointer (some ⟨c.SB, 0, none⟩), .slice ao n cap] w fun e w' => e = .returned (.tuple #[]) ∧ Nx c w0 w m g (weighF s xs) w' := by
  obtain ⟨wg, hwg⟩ : ∃ wg, s.wg = wg := ⟨_, rfl⟩
  obtain ⟨u, hu⟩ : ∃ u, wg / 32 = u := ⟨_, rfl⟩
  rw [hwg] at hw
  have HWG := hid hwg
  have hmx : (n : Int) ≤ 9223372036854775807 := by have := row.one.max; omega
  have H := hid h
  have R := hid row
  clear h row
  go_enter Tryz.func52, Tryz.ntmps52
  go_wp2
  go_loopw [8] (fun i wr => ∃ (q : Nat) (m1 : MV), q ≤ n ∧ i = .int .i64 q ∧ Hid (Sm c w0 g (upO s (bumpsF s.A wg (xs.take q)) s.W) m1 wr) ∧ Hid (Kp w0 w m.ow wr m1.ow)) (fun i _ => n - (intOf i).toNat)
  case atStart => exact ⟨0, m, Nat.zero_le _, rfl, H, hid (Kp.refl _ _ _)⟩
  case round =>
    clear H
    obtain ⟨q, m1, hq, rfl, h1, k1⟩ := hrel
    have c2 := h1.out.c2
    have c11 := h1.out.c11
    have f11 := h1.out.frz 11
    rw [show (upO s (bumpsF s.A wg (xs.take q)) s.W).wg = wg from hwg] at c11
    by_cases hlt : q < n
    · have hlt' : (q : Int) < n := by omega
      obtain ⟨b, off, y, rfl, hc, hy, y0, y1⟩ := (k1.out.gv _ _ R.out).one.at hlt
      have HU : Hid (bumpsF s.A wg (xs.take (q + 1)) = Od.bumpF (bumpsF s.A wg (xs.take q)) y wg) := hid (bumps_next hy.out)
      obtain ⟨m2, h2, k2⟩ := h1.out.xbelow (below_drew wr)
      have H2 := hid h2
      have K2 := hid (k1.out.trans k2)
      clear h2 k2 h1 k1
      go_wp2
      go_region_with (first
        | (go_at_call 86; with_reducible (refine (sbump H2.out y wg).mono ?_); rintro e w5 ⟨bb, rfl, n5⟩; have n6 := Nx.out n5.out; obtain ⟨m5, h5, k5⟩ := n6))
      all_goals go_wp2
      all_goals go_roundw
      all_goals first
        | exact ⟨q + 1, m5, by omega, by go_num, hid (by rw [HU.out]; exact h5.out), hid (K2.out.trans k5.out)⟩
        | (simp only [intOf]; omega)
    · have HT : Hid (xs.take q = xs) := hid (List.take_of_length_le (by have := R.out.one.1; omega))
      have H1 : Hid (Sm c w0 g (upO s (bumpsF s.A wg xs) s.W) m1 wr) := hid (by have := h1.out; rw [HT.out] at this; exact this)
      clear h1 HT
      obtain ⟨x, hx⟩ : ∃ x, wg + u = x := ⟨_, rfl⟩
      have hxI : (wg : Int) + u = x := by omega
      have HX : Hid (s.wg + s.wg / 32 = x) := hid (by rw [hwg, hu]; exact hx)
      have huI : (wg : Int) / 32 = u := by omega
      obtain ⟨m2, h2, k2⟩ := H1.out.xwg x
      obtain ⟨m3, h3, k3⟩ := h2.xbelow (below_drew _)
      have H3 := hid h3
      have K3 := hid ((k1.out.trans k2).trans k3)
      have hxw : IntKind.i64.wrap ((wg : Int) + (wg : Int) / 32) = x := by rw [IntKind.wrap_i64]; omega
      clear h2 k2 h3 k3 H1 k1
      go_upto_region 5 with fail
      go_region
      generalize hw3 : (wr.setCell ⟨c.SB, 11, none⟩ (.int .i64 (x : Int))).drew = w3 at *
      clear hw3 c2 c11 f11
      have d11 := H3.out.c11
      rw [show ((upO s (bumpsF s.A wg xs) s.W).wt x).wg = x from rfl] at d11
      by_cases hsm : x ≤ 17179869184
      · have hsm' : (x : Int) ≤ 17179869184 := by omega
        have HE : Hid (Nx c w0 w m g (weighF s xs) w3) := hid (by rw [weigh_a HX.out hsm, hwg]; exact ⟨m3, H3.out, K3.out⟩)
        clear H3 K3
        go_wp2
        refine bodyPost_ret (results_none rfl _ _ _) rfl ?_
        exact ⟨rfl, HE.out⟩
      · have hsm' : ¬ (x : Int) ≤ 17179869184 := by omega
        go_wp2
        go_loopw [] (fun wl => ∃ (f y : Nat) (A : List Int) (m4 : MV), y ≤ f ∧ y ≤ x ∧ Hid (hlvF f A y = hlvF x (bumpsF s.A wg xs) x) ∧ Hid (Sm c w0 g ((upO s A s.W).wt y) m4 wl) ∧ Hid (Kp w0 w m.ow wl m4.ow)) (fun wl => numOf c 11 wl)
        case atStart => exact ⟨x, x, _, m3, Nat.le_refl _, Nat.le_refl _, hid rfl, H3, K3⟩
        case round =>
          clear H3 K3 d11
          obtain ⟨f, y, A, m4, hyf, hyx, hh, h4, k4⟩ := hrel
          have z2 := h4.out.c2
          have z11 := h4.out.c11
          rw [show ((upO s A s.W).wt y).wg = y from rfl] at z11
          have NM := hid (num_wg h4.out)
          by_cases hy : 262144 ≤ y
          · have hy' : (262144 : Int) ≤ y := by omega
            obtain ⟨v, hv⟩ : ∃ v, y / 2 = v := ⟨_, rfl⟩
            have hvI : (y : Int) / 2 = v := by omega
            have hvl : v < y := by omega
            obtain ⟨f', rfl⟩ : ∃ f', f = f' + 1 := ⟨f - 1, by omega⟩
            have HH : Hid (hlvF f' (Od.halveF A) v = hlvF x (bumpsF s.A wg xs) x) := hid (by
              have := hh.out
              unfold hlvF at this
              rw [if_pos hy, hv] at this
              rw [this]
              conv => rhs; unfold hlvF)
            clear hh
            go_wp2_with (first
              | (go_at_call 87; with_reducible (refine (shalve h4.out).mono ?_); rintro e w5 ⟨rfl, n5⟩; have n6 := Nx.out n5.out; obtain ⟨m5, h5, k5⟩ := n6; have a11 := h5.out.c11; rw [show (upO ((upO s A s.W).wt y) (Od.halveF ((upO s A s.W).wt y).A) ((upO s A s.W).wt y).W).wg = y from rfl] at a11; have b11 := h5.out.frz 11))
            obtain ⟨m6, h6, k6⟩ := h5.out.xwg v
            have e6 := num_wg h6
            refine ⟨⟨f', v, Od.halveF A, m6, by omega, by omega, HH, hid h6, hid ((k4.out.trans k5.out).trans k6)⟩, ?_⟩
            rw [e6, NM.out]
            exact hvl
          · have hy' : ¬ (262144 : Int) ≤ y := by omega
            have HE : Hid (Nx c w0 w m g (weighF s xs) wr) := hid (by rw [weigh_b HX.out hsm (by rw [hwg]; exact hh.out) hy]; exact ⟨m4, h4.out, k4.out⟩)
            clear h4 k4 hh
            go_wp2
            go_end0
            exact ⟨rfl, HE.out⟩
end
end Go.Proofs.YtimfjoinjfecjaaGreat

namespace Go.Proofs.YtimfjoinjfecjaaGreat
open Go.RowKit Go.Shelf
set_option linter.unusedVariables false

attribute [local go_sem] Oper.semAt_some

/-- The last literals first, till one of a level that stays. -/
def keepTF (L : List E) (level : Int) : List Nat → List Bool → List Bool
  | [], tr => tr
  | x :: r, tr => if levelF L ((x / 2 : Nat) : Int) ≤ level then tr else keepTF L level r (tr.set (x / 2) (!decide (x % 2 = 1)))

def ktF (s : SS) (level : Int) : SS := s.T (keepTF s.L level (s.L.reverse.map E.l) s.tr)

section
variable {c : SC} {w0 w w' : World} {g g' : G} {s s' : SS} {m m' : MV} {W W' : World} {tr tr' : List Bool} {level : Int}

/-- What stands while truths are kept. -/
structure Kt (c : SC) (m : MV) (w : World) (level : Int) (tr : List Bool) (W : World) : Prop where
  os : W.os = w.os
  tape : W.tape = w.tape
  output : W.output = w.output
  blk : ∀ j, j < w.heap.size → j ≠ m.tb → W.heap[j]? = w.heap[j]?
  tb : W.heap[m.tb]? = some (.cells (tr.map Value.bool).toArray 4 (0, 0))
  len : tr.length = c.kw.n
  b0 : Boxed W w.heap.size 44 (.pointer (some ⟨c.SB, 0, none⟩))
  b1 : Boxed W (w.heap.size + 1) 3 (.int .i64 level)
  sz : w.heap.size + 3 ≤ W.heap.size

theorem Kt.own {row : Option Nat} (d : Kt c m w level tr W) (g : W.grownBy W' row) (hr : ∀ r, row = some r → w.heap.size + 3 ≤ r) (htb : m.tb < w.heap.size) : Kt c m w level tr W' := by
  have hsz := d.sz
  have hbox : ∀ j, j < w.heap.size + 3 → W'.heap[j]? = W.heap[j]? := fun j hj => g.block j (by omega) (fun e => by have := hr j e.symm; omega)
  exact ⟨g.os.trans d.os, g.tape.trans d.tape, g.output.trans d.output, fun j hj hne => (hbox j (by omega)).trans (d.blk j hj hne), (hbox _ (by omega)).trans d.tb, d.len, box_as d.b0 (hbox _ (by omega)), box_as d.b1 (hbox _ (by omega)), Nat.le_trans hsz g.size⟩

theorem Kt.below (d : Kt c m w level tr W) (b : Below W.heap.size W W') (htb : m.tb < w.heap.size) : Kt c m w level tr W' := d.own (grown_below b) (fun r e => by cases e) htb

theorem Kt.put (d : Kt c m w level tr W) (htb : m.tb < w.heap.size) (i : Nat) (b : Bool) : Kt c m w level (tr.set i b) (W.setCell ⟨m.tb, i, none⟩ (.bool b)) := by
  have hsz := d.sz
  have ho : ∀ j, j ≠ m.tb → (W.setCell ⟨m.tb, i, none⟩ (.bool b)).heap[j]? = W.heap[j]? := fun j hj => set_other _ hj
  exact ⟨d.os, d.tape, d.output, fun j hj hne => (ho j hne).trans (d.blk j hj hne), by rw [set_same d.tb]; simp [List.map_set], by simpa using d.len, box_as d.b0 (ho _ (by omega)), box_as d.b1 (ho _ (by omega)), by simpa [World.setCell] using d.sz⟩

theorem Sm.tb_lt (h : Sm c w0 g s m w) : m.tb < w.heap.size := blk_lt h.tr.1

/-- The truths are others now. -/
theorem Sm.truths (h : Sm c w0 g s m w) (os : W.os = w.os) (tape : W.tape = w.tape) (output : W.output = w.output) (size : w.heap.size ≤ W.heap.size) (blk : ∀ j, j < w.heap.size → j ≠ m.tb → W.heap[j]? = w.heap[j]?) (tb : W.heap[m.tb]? = some (.cells (tr.map Value.bool).toArray 4 (0, 0))) (len : tr.length = c.kw.n) : Nx c w0 w m g (s.T tr) W := by
  have ch : Cg m.ow 7 7 w W := ⟨os, tape, output, size, fun j hj hn _ => blk j hj (fun e => by subst e; exact hn h.t.tb)⟩
  have R := h.rest ch (h.old ch (by decide) (by decide)) (by decide) (by decide) (fun j => decide (j = m.tb))
  refine ⟨{ m with ow := owT m.ow 7 w.heap.size (fun j => decide (j = m.tb)) }, ⟨R.W (by decide) (by decide), R.o (by decide) (by decide), R.sb (by decide) (by decide), R.cl (by decide) (by decide), R.pr (by decide) (by decide), R.fa (by decide) (by decide), R.nu (by decide) (by decide), ⟨tb, len⟩, R.b0, h.hB, h.hn, R.lo, R.ft (by decide), R.od (by decide), R.tsb (by decide), owT_mine (Q := fun j => decide (j = m.tb)) (.inl h.t.tb) (decide_eq_true rfl), fun j hj h1 => ?_, R.u6 (by decide), fun j hj => ?_⟩, kpT R.gv ch.size R.zz⟩
  · by_cases e : owT m.ow 7 w.heap.size (fun j => decide (j = m.tb)) j = 7
    · rcases owT_cases m.ow 7 w.heap.size (fun j => decide (j = m.tb)) j with q | ⟨_, q⟩ | ⟨q1, q2, q3⟩
      · exact absurd q h1
      · have : j = m.tb := by simpa using q
        subst this
        exact ⟨4, ⟨_, _, tb⟩, by simp [Wt]⟩
      · rw [q1] at e; exact absurd e q3
    · exact R.ty j hj h1 e e
  · change owT m.ow 7 w.heap.size (fun j => decide (j = m.tb)) j = 7 at hj
    rcases owT_cases m.ow 7 w.heap.size (fun j => decide (j = m.tb)) j with q | ⟨_, q⟩ | ⟨q1, q2, q3⟩
    · omega
    · simpa using q
    · omega

theorem Kt.nx (h : Sm c w0 g s m w) (d : Kt c m w level tr W) : Nx c w0 w m g (s.T tr) W :=
  h.truths d.os d.tape d.output (by have := d.sz; omega) d.blk d.tb d.len

theorem Kt.trl (h : Sm c w0 g s m w) (d : Kt c m w level tr W) : Trl c.k W s.L s.lev m.p := by
  obtain ⟨F, S, r, q, e⟩ := h.W.j.t
  exact ⟨F, S, r.same (fun j hj => d.blk j (r.mine_lt hj).2 (fun q => by subst q; have := h.t.ft _ (.inl hj); rw [h.t.tb] at this; omega)), q, e⟩

theorem Kt.sb (h : Sm c w0 g s m w) (d : Kt c m w level tr W) : W.heap[c.SB]? = some (.cells (sbc c s m) 61 (0, 0)) := by
  rw [d.blk _ h.sb_lt (fun q => by have h1 := h.t.sb; rw [q, h.t.tb] at h1; omega)]; exact h.sb

/-! ### Over an empty list -/
set_option maxRecDepth 100000 in
theorem backward1_nil (N : Nat) (hN : 1 ≤ N) (l Bs cap n : Nat) (ao : Option Addr) (J Jx : List (Al n) → World → Prop) (W : World) (hBs : W.cell? ⟨Bs, 0, none⟩ = some (.slice ao 0 cap)) (h0 : J [] W) :
    CallsIn Fence.wide N Tryz.prog 134 #[.func (.yield l) #[] #[], .pointer (some ⟨Bs, 0, none⟩)] W fun e W' => (∃ v, e = .returned v) ∧
      ((∃ ys, ys = [] ∧ J ys W') ∨ (∃ pre, pre <+: ([] : List (Al n)) ∧ Jx pre W')) := by
  refine callsIn_of_wp Tryz.func134 rfl trivial ?_ rfl
  simp only [Tryz.ntmps134, List.size_toArray, List.length_cons, List.length_nil, Nat.reduceAdd, Nat.reduceSub, Array.replicate_succ, Array.replicate_zero, List.push_toArray, List.append_toArray, List.nil_append, List.cons_append]
  gi_wp2
  gi_loopw [3] (fun i wr => i = .int .i64 (-1) ∧ J [] wr) (fun i _ => 0)
  case atStart => exact ⟨rfl, h0⟩
  case round =>
    obtain ⟨rfl, hJs⟩ := hrel
    gi_wp2
    go_end0
    exact ⟨⟨_, rfl⟩, .inl ⟨_, rfl, hJs⟩⟩

theorem backward_nil (N : Nat) (hN : 1 ≤ N) (Bs b cap n : Nat) (ao : Option Addr) (w : World) (hBl : Bs < w.heap.size) (hBs : w.cell? ⟨Bs, 0, none⟩ = some (.slice ao 0 cap)) :
    SeqStopsK Fence.wide N Tryz.prog 134 #[.pointer (some ⟨Bs, 0, none⟩)] (fun x : Al n => #[Value.int .i64 (x.1.1 : Int), Value.int .i64 (x.1.2 : Int)]) (Keep2 Bs b) (fun ys => ys = []) (fun pre => pre <+: []) 0 w := fun l J Jx W hW _ _ hY h0 =>
  backward1_nil N hN l Bs cap n ao J Jx W ((hW.cell (p := ⟨Bs, 0, none⟩) hBl).trans hBs) h0
end
end Go.Proofs.YtimfjoinjfecjaaGreat
