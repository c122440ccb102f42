/-
  goBack: what was assigned above a level is taken back, and waits.
  beginAnew, where no clause is given up; sat, unsat.
  reasons: the clauses that played a part.
  What is known of a clause that was learned is kept.
  Glue: how many levels.
-/
import Derived.Test.YtimfjoinjfecjaaGreatG33
import Derived.Test.YtimfjoinjfecjaaGreatG32
import Derived.Test.YtimfjoinjfecjaaGreatG09
import Derived.Test.YtimfjoinjfecjaaGreatG16

namespace Go.Proofs.YtimfjoinjfecjaaGreat
open Go.RowKit Go.Maps
set_option linter.unusedVariables false

def pushvF (n : Nat) (W : List Bool) (vs : List Int) : List Bool := vs.foldl (Od.pushW n) W
theorem pushv_next {n : Nat} {W : List Bool} {xs : List Int} {q : Nat} {y : Int} (h : xs[q]? = some y) : pushvF n W (xs.take (q + 1)) = Od.pushW n (pushvF n W (xs.take q)) y := by
  rw [List.take_add_one, h]
  simp [pushvF, List.foldl_append]

def bkF (s : SS) (x : Int) : SS := upW s (backL s.L s.lev x) (backV s.lev x) s.H
def gbF (n : Nat) (s : SS) (x : Int) : SS := upO (bkF (ktF s x) x) s.A (pushvF n s.W (backG s.L s.lev x))

section
variable {c : SC} {w0 w w' : World} {g g' : G} {s s' : SS} {m m' : MV}

theorem Rs.back {L : List E} (h : Rs g L) (lev : Nat) (x : Int) : Rs g (backL L lev x) := by
  unfold backL
  split
  · exact h.take _
  · exact h

theorem sback (h : Sm c w0 g s m w) (x : Int) : Calls Tryz.prog 92 #[.pointer (some ⟨c.k.OB, 0, none⟩), .int .i64 x] w fun e w' => ∃ ao n cp m', e = .returned (.slice ao n cp) ∧ Hid (Sm c w0 g (bkF s x) m' w') ∧ Hid (Kp w0 w m.ow w' m'.ow) ∧ Hid (OwnL w' w.heap.size (.slice ao n cp) (backG s.L s.lev x)) ∧ Hid (∀ j, (Value.slice ao n cp).ownBlock = some j → m'.ow j = 1) := by
  refine (back_is h.W.j.t x).mono fun e w' q => ?_
  obtain ⟨ao, n, cp, p', rfl, bt, hn⟩ := q
  have W' := h.W.fr bt.out.fr bt.out.trl (h.W.rs.back s.lev x)
  have z := h.wa W' (FT.fr h.W.j.t h.W.j.b bt.out.fr) (fun i hi hg j e h0 hj => h.t.ft j (.inr (.inr (.inl ⟨i, hi, hg, e, h0⟩)))) (fun h0 j e hj => h.t.ft j (.inr (.inr (.inr ⟨h0, e⟩))))
  refine ⟨ao, n, cp, _, rfl, hid z.1, hid z.2, hid bt.out.row, hid (fun j e => ?_)⟩
  show owT m.ow 1 w.heap.size (fun _ => true) j = 1
  exact owT_one (.inr (bt.out.row.lt e).1)

theorem spush2 (h : Sm c w0 g s m w) (v : Int) : Calls Tryz.prog 29 #[.pointer (some ⟨c.ko.OB, 0, none⟩), .int .i64 v] w fun e w' => ∃ b m', e = .returned (.bool b) ∧ Hid (Sm c w0 g (upO s s.A (Od.pushW c.kw.n s.W v)) m' w') ∧ Hid (Kp w0 w m.ow w' m'.ow) ∧ Hid (∀ j, j < w.heap.size → m.ow j = 1 → w'.heap[j]? = w.heap[j]?) := by
  refine (Od.push_any h.o v).mono fun e w' q => ?_
  obtain ⟨rfl, v', q1, q2⟩ := q
  rw [h.hn] at q1
  obtain ⟨m', h1, k1⟩ := h.xord q1 q2
  exact ⟨_, m', rfl, h1, k1, fun j hj e => q2.block j hj (fun mm => by have := h.t.od j mm; omega)⟩

set_option maxHeartbeats 2000000 in
theorem goBack_is (h : Sm c w0 g s m w) (x : Int) : Calls Tryz.prog 57 #[.pointer (some ⟨c.SB, 0, none⟩), .int .i64 x] w fun e w' => e = .returned (.tuple #[]) ∧ Nx c w0 w m g (gbF c.kw.n s x) w' := by
  have HK := hid (keep_s h x)
  have hlen : (backG s.L s.lev x).length ≤ 1048576 := by
    have := h.W.j.t.len
    unfold backG
    split
    · simp; omega
    · simp
  have HB : ∀ {w1 : World} {m1 : MV}, Sm c w0 g (ktF s x) m1 w1 → backG (ktF s x).L (ktF s x).lev x = backG s.L s.lev x := fun _ => rfl
  clear h
  go_enter Tryz.func57, Tryz.ntmps57
  go_wp2_with (first
    | (go_at_call 63; with_reducible (refine HK.out.mono ?_); rintro e w1 ⟨rfl, n1⟩; have n2 := Nx.out n1; obtain ⟨m1, h1, k1⟩ := n2; have c0 := h1.out.c0)
    | (go_at_call 92; with_reducible (refine (sback h1.out x).mono ?_); rintro e w2 ⟨ao, n, cp, m2, rfl, h2, k2, o2, t2⟩))
  have hn := hid (own_row o2.out).1
  have K2 := hid (k1.out.trans k2.out)
  have HG : Hid (backG (ktF s x).L (ktF s x).lev x = backG s.L s.lev x) := hid rfl
  rw [HG.out] at o2 hn
  have hnl : n ≤ 1048576 := by rw [hn.out]; exact hlen
  clear h1 k1 k2 c0 HK hlen
  go_loopw [16] (fun i wr => ∃ (q : Nat) (m3 : MV), q ≤ n ∧ i = .int .i64 q ∧ Hid (Sm c w0 g (upO (bkF (ktF s x) x) s.A (pushvF c.kw.n s.W ((backG s.L s.lev x).take q))) m3 wr) ∧ Hid (Kp w0 w m.ow wr m3.ow) ∧ Hid (OwnL wr w1.heap.size (.slice ao n cp) (backG s.L s.lev x)) ∧ Hid (∀ j, (Value.slice ao n cp).ownBlock = some j → m3.ow j = 1)) (fun i _ => n - (intOf i).toNat)
  case atStart => exact ⟨0, m2, Nat.zero_le _, rfl, h2, K2, o2, t2⟩
  case round =>
    clear h2 K2 o2 t2
    obtain ⟨q, m3, hq, rfl, h3, k3, o3, t3⟩ := hrel
    by_cases hlt : q < n
    · have hlt' : (q : Int) < n := by omega
      obtain ⟨b, y, rfl, hy, hc⟩ := (own_row o3.out).2 q hlt
      have c2 := h3.out.c2
      have HU : Hid (pushvF c.kw.n s.W ((backG s.L s.lev x).take (q + 1)) = Od.pushW c.kw.n (pushvF c.kw.n s.W ((backG s.L s.lev x).take q)) y) := hid (pushv_next hy)
      clear hy
      go_wp2_with (first
        | (go_at_call 29; with_reducible (refine (spush2 h3.out y).mono ?_); rintro e w5 ⟨bb, m5, rfl, h5, k5, f5⟩))
      go_roundw
      case rel =>
        refine ⟨q + 1, m5, by omega, by go_num, hid (by rw [HU.out]; exact h5.out), hid (k3.out.trans k5.out), hid (OwnL.same o3.out (fun j e => f5.out j (o3.out.lt e).2 (t3.out j e))), hid (fun j e => k5.out.on j (o3.out.lt e).2 (t3.out j e))⟩
      case measure => simp only [intOf]; omega
    · have HT : Hid ((backG s.L s.lev x).take q = backG s.L s.lev x) := hid (List.take_of_length_le (by rw [← hn.out]; omega))
      have HE : Hid (Nx c w0 w m g (gbF c.kw.n s x) wr) := hid ⟨m3, by have := h3.out; rw [HT.out] at this; exact this, k3.out⟩
      clear h3 k3 o3 t3 HT
      go_wp2
      go_end0
      exact ⟨rfl, HE.out⟩
end
end Go.Proofs.YtimfjoinjfecjaaGreat

namespace Go.Proofs.YtimfjoinjfecjaaGreat
open Go.RowKit Go.Maps
set_option linter.unusedVariables false

def anF (n : Nat) (s : SS) : SS := nextF (gbF n s 0)

section
variable {c : SC} {w0 w w' : World} {g g' : G} {s s' : SS} {m m' : MV}

theorem num_shape (h : Sm c w0 g s m w) : ∃ a cp, m.nv = .slice a s.ns.length cp := by
  rcases h.nu.1.2 with ⟨e, e2⟩ | ⟨b, cap, cur, e, _⟩
  · exact ⟨none, 0, by rw [e, e2]⟩
  · exact ⟨_, cap, e⟩

set_option maxRecDepth 20000 in
set_option maxHeartbeats 2000000 in
theorem reduce_nil (h : Sm c w0 g s m w) (hr : c.all = true ∨ s.ns.length < s.lim) : Calls Tryz.prog 58 #[.pointer (some ⟨c.SB, 4, none⟩)] w fun e w' => e = .returned (.slice none 0 0) ∧ Hid (Below w.heap.size w w') := by
  have c7 := h.c7
  have c6 := h.c6
  have c8 := h.c8
  obtain ⟨na, np, en⟩ := num_shape h
  rw [en] at c6
  obtain ⟨lim, hlim⟩ : ∃ lim, s.lim = lim := ⟨_, rfl⟩
  obtain ⟨nl, hnl⟩ : ∃ nl, s.ns.length = nl := ⟨_, rfl⟩
  rw [hlim, hnl] at hr
  rw [hlim] at c8
  rw [hnl] at c6
  obtain ⟨al, hal⟩ : ∃ al, c.all = al := ⟨_, rfl⟩
  rw [hal] at c7 hr
  have BD := hid (below_drew w)
  clear h en hlim hnl hal
  cases al with
  | true =>
    clear hr
    go_enter Tryz.func58, Tryz.ntmps58
    go_wp2
    go_region
    all_goals go_wp2
    all_goals go_ret
    all_goals exact ⟨rfl, BD⟩
  | false =>
    have hr' : nl < lim := by
      rcases hr with hr | hr
      · cases hr
      · exact hr
    have hrI : (nl : Int) < lim := by omega
    clear hr
    go_enter Tryz.func58, Tryz.ntmps58
    go_wp2
    go_region
    all_goals go_wp2
    all_goals go_ret
    all_goals exact ⟨rfl, BD⟩

set_option maxHeartbeats 2000000 in
theorem anew_nil (h : Sm c w0 g s m w) (hr : c.all = true ∨ s.ns.length < s.lim) (hrd : s.rd ≤ 1000000000) (hcf : s.cf ≤ 1000000000) : Calls Tryz.prog 35 #[.pointer (some ⟨c.SB, 0, none⟩)] w fun e w' => e = .returned (.tuple #[]) ∧ Hid (Nx c w0 w m g (anF c.kw.n s) w') := by
  have HB := hid (goBack_is h 0)
  have HR : Hid (c.all = true ∨ (gbF c.kw.n s 0).ns.length < (gbF c.kw.n s 0).lim) := hid hr
  have HRD : Hid ((gbF c.kw.n s 0).rd ≤ 1000000000) := hid hrd
  have HCF : Hid ((gbF c.kw.n s 0).cf ≤ 1000000000) := hid hcf
  clear h hr
  go_enter Tryz.func35, Tryz.ntmps35
  go_wp2_with (first
    | (go_at_call 57; with_reducible (refine HB.out.mono ?_); rintro e w1 ⟨rfl, n1⟩; have n2 := Nx.out n1; obtain ⟨m1, h1, k1⟩ := n2)
    | (go_at_call 58; with_reducible (refine (reduce_nil h1.out HR.out).mono ?_); rintro e w2 ⟨rfl, b2⟩; have n3 := Nx.out (h1.out.xbelow b2.out); obtain ⟨m2, h2, k2⟩ := n3))
  go_loopw [11] (fun i wr => i = .int .i64 0 ∧ wr = w2) (fun _ _ => 0)
  case atStart => exact ⟨rfl, rfl⟩
  case round =>
    obtain ⟨rfl, rfl⟩ := hrel
    go_wp2_with (go_at_call 30; with_reducible (refine (next_is h2.out HRD.out HCF.out).mono ?_); rintro e w4 ⟨rfl, n4⟩; have n5 := Nx.out n4; obtain ⟨m4, h4, k4⟩ := n5)
    go_end0
    exact ⟨rfl, hid ⟨m4, h4.out, (k1.out.trans k2.out).trans k4.out⟩⟩
end
end Go.Proofs.YtimfjoinjfecjaaGreat

namespace Go.Proofs.YtimfjoinjfecjaaGreat
open Go.RowKit Go.Maps
set_option linter.unusedVariables false

def rsnF (L : List E) (lev : Nat) (failed : Int) (met : List Int) : List Int := failed :: (met.filter (fun v => decide (levelF L v = lev))).map (reasonF L)
theorem rsn_yes {L : List E} {lev : Nat} {failed : Int} {met : List Int} {q : Nat} {y : Int} (h : met[q]? = some y) (hl : levelF L y = lev) : rsnF L lev failed (met.take (q + 1)) = rsnF L lev failed (met.take q) ++ [reasonF L y] := by
  unfold rsnF; rw [List.take_add_one, h]; simp [List.filter_append, hl]
theorem rsn_no {L : List E} {lev : Nat} {failed : Int} {met : List Int} {q : Nat} {y : Int} (h : met[q]? = some y) (hl : ¬ levelF L y = lev) : rsnF L lev failed (met.take (q + 1)) = rsnF L lev failed (met.take q) := by
  unfold rsnF; rw [List.take_add_one, h]; simp [List.filter_append, hl]
theorem rsn_len (L : List E) (lev : Nat) (failed : Int) (met : List Int) : (rsnF L lev failed met).length ≤ met.length + 1 := by
  unfold rsnF; simp only [List.length_cons, List.length_map]; have := List.length_filter_le (fun v => decide (levelF L v = lev)) met; omega

section
variable {c : SC} {w0 w w' : World} {g g' : G} {s s' : SS} {m m' : MV}

theorem one_own (w : World) (x : Int) : OwnL (w.alloc (.cells #[.int .i64 x] 3)) w.heap.size (.slice (some ⟨w.heap.size, 0, none⟩) 1 1) [x] :=
  ⟨rfl, .inr ⟨w.heap.size, 1, #[.int .i64 x], rfl, Nat.le_refl _, new_same w _, Nat.le_refl _, by unfold maxLen; omega, rfl, rfl⟩⟩

set_option maxHeartbeats 4000000 in
theorem reasons_is (h : Sm c w0 g s m w) {ao : Option Addr} {n cap : Nat} {xs : List Int} (row : GVt w0 w m.ow [.slice ao n cap] [xs]) (failed : Int) (hn : n ≤ 100000) :
    Calls Tryz.prog 54 #[.pointer (some ⟨c.SB, 0, none⟩), .int .i64 failed, .slice ao n cap] w fun e w' => ∃ b k p, e = .returned (.slice (some ⟨b, 0, none⟩) k p) ∧ Hid (OwnL w' w.heap.size (.slice (some ⟨b, 0, none⟩) k p) (rsnF s.L s.lev failed xs)) ∧ Hid (Below w.heap.size w w') := by
  obtain ⟨lev, hlev⟩ : ∃ lev, s.lev = lev := ⟨_, rfl⟩
  have c0 := h.c0
  have H := hid h
  have R := hid row.one
  rw [hlev]
  have HL := hid hlev
  clear h row hlev
  have b1 : Below w.heap.size w (w.alloc (.cells #[.int .i64 failed] 3)) := by go_grown
  have O1 := hid (one_own w failed)
  go_enter Tryz.func54, Tryz.ntmps54
  go_wp2
  generalize hw1 : w.alloc (.cells #[.int .i64 failed] 3) = w1 at *
  have B1 := hid b1
  clear hw1 b1
  go_loopw [7, 14] (fun v i wr => ∃ (q b k p : Nat), q ≤ n ∧ i = .int .i64 q ∧ v = .slice (some ⟨b, 0, none⟩) k p ∧ Hid (OwnL wr w.heap.size (.slice (some ⟨b, 0, none⟩) k p) (rsnF s.L lev failed (xs.take q))) ∧ Hid (Below w.heap.size w wr)) (fun _ i _ => n - (intOf i).toNat)
  case atStart => exact ⟨0, _, 1, 1, Nat.zero_le _, rfl, rfl, O1, B1⟩
  case round =>
    clear O1 B1
    obtain ⟨q, b, k, p, hq, rfl, rfl, o1, bw⟩ := hrel
    by_cases hlt : q < n
    · have hlt' : (q : Int) < n := by omega
      obtain ⟨rb, off, y, rfl, hc, hy, y0, y1⟩ := (R.out.keep bw.out).at hlt
      have d0 := bl_cell bw.out c0
      obtain ⟨z, hz⟩ : ∃ z, levelF s.L y = z := ⟨_, rfl⟩
      have HZ := hid hz
      have T1 := hid (H.out.W.j.t.below (bw.out.trans ((below_drew wr).mono bw.out.size)))
      by_cases hl : z = lev
      · have hb : (z == (lev : Int)) = true := by simpa using hl
        have hk := hid (own_row o1.out).1
        obtain ⟨r, hr⟩ : ∃ r, reasonF s.L y = r := ⟨_, rfl⟩
        have HR := hid hr
        have hB : w.heap.size ≤ wr.drew.heap.size := bw.out.size
        obtain ⟨v7, w7, r7, o7, g7, n7⟩ := run_num (w1 := wr.drew) (w := (wr.drew.alloc (.cells #[.int .i64 r] 3))) 0 r (by go_grown) w.heap.size (.slice (some ⟨b, 0, none⟩) k p) (rsnF s.L lev failed (xs.take q)) (OwnL.same o1.out (fun _ _ => rfl)) wr.drew.heap.size (cell_of (o := 0) (new_same wr.drew _)) (by have := rsn_len s.L lev failed (xs.take q); rw [List.length_take] at this; omega) hB
        obtain ⟨b7, p7, rfl⟩ := own_posL o7
        have R7 : Hid (∀ ty, (Builtin.append_ #[42, 42] ty #[.slice (some ⟨b, 0, none⟩) k p, .slice (some ⟨wr.drew.heap.size, 0, none⟩) 1 1]).run Tryz.prog (wr.drew.alloc (.cells #[.int .i64 r] 3)) = .ok (.slice (some ⟨b7, 0, none⟩) ((rsnF s.L lev failed (xs.take q)).length + 1) p7) w7) := hid (fun ty => r7)
        have O7 : Hid (OwnL w7 w.heap.size (.slice (some ⟨b7, 0, none⟩) ((rsnF s.L lev failed (xs.take q)).length + 1) p7) (rsnF s.L lev failed (xs.take (q + 1)))) := hid (by rw [rsn_yes hy.out (by rw [hz]; exact hl), hr]; exact o7)
        have B7 : Hid (Below w.heap.size w w7) := hid ((bw.out.trans ((below_drew wr).mono bw.out.size)).trans (below_grown (w := wr.drew) g7 (fun j hj => (own_lt o1.out hj).1) bw.out.size))
        clear o7 g7 n7 r7 hr hz o1
        go_wp2
        go_region_with (first
          | (go_at_call 88; with_reducible (refine (level_is T1.out y HZ.out).mono ?_); rintro e w5 ⟨rfl, rfl⟩)
          | (go_at_call 32; with_reducible (refine (levels_is T1.out).mono ?_); rw [HL.out]; rintro e w5 ⟨rfl, rfl⟩))
        all_goals go_wp2_with (first
          | (go_at_call 89; with_reducible (refine (reason_is T1.out y HR.out).mono ?_); rintro e w6 ⟨rfl, rfl⟩)
          | (at_builtin; refine list_of (t := 42) (v := .slice (some ⟨b, 0, none⟩) k p) (u := .slice (some ⟨wr.drew.heap.size, 0, none⟩) 1 1) rfl _ _ rfl rfl rfl (R7.out _) ?_))
        all_goals go_roundw
        all_goals first
          | exact ⟨q + 1, b7, _, p7, by omega, by go_num, rfl, O7, B7⟩
          | (simp only [intOf]; omega)
      · have hb : (z == (lev : Int)) = false := by simpa using hl
        have O2 : Hid (OwnL wr.drew w.heap.size (.slice (some ⟨b, 0, none⟩) k p) (rsnF s.L lev failed (xs.take (q + 1)))) := hid (by rw [rsn_no hy.out (by rw [hz]; exact hl)]; exact OwnL.same o1.out (fun _ _ => rfl))
        have B2 : Hid (Below w.heap.size w wr.drew) := hid (bw.out.trans ((below_drew wr).mono bw.out.size))
        clear hz o1 hl
        go_wp2
        go_region_with (first
          | (go_at_call 88; with_reducible (refine (level_is T1.out y HZ.out).mono ?_); rintro e w5 ⟨rfl, rfl⟩)
          | (go_at_call 32; with_reducible (refine (levels_is T1.out).mono ?_); rw [HL.out]; rintro e w5 ⟨rfl, rfl⟩))
        all_goals go_wp2
        all_goals go_roundw
        all_goals first
          | exact ⟨q + 1, b, k, p, by omega, by go_num, rfl, O2, B2⟩
          | (simp only [intOf]; omega)
    · have HT : Hid (xs.take q = xs) := hid (List.take_of_length_le (by have := R.out.1; omega))
      have O2 : Hid (OwnL wr w.heap.size (.slice (some ⟨b, 0, none⟩) k p) (rsnF s.L lev failed xs)) := hid (by have := o1.out; rw [HT.out] at this; exact this)
      clear o1 HT
      go_wp2
      go_ret
      exact ⟨b, k, p, rfl, O2, bw⟩
end
end Go.Proofs.YtimfjoinjfecjaaGreat

namespace Go.Proofs.YtimfjoinjfecjaaGreat
open Go.RowKit Go.Maps
set_option linter.unusedVariables false

section
variable {c : SC} {w0 w w' : World} {g g' : G} {s s' : SS} {m m' : MV}

set_option maxRecDepth 20000 in
set_option maxHeartbeats 2000000 in
theorem sadd_is (h : Sm c w0 g s m w) (f : Fa) (hl : s.fs.length ≤ 1000000) (hn : s.ns.length ≤ 1000000) (hf : c.fst ≤ 1000000) :
    Calls Tryz.prog 55 #[.pointer (some ⟨c.SB, 4, none⟩), .agg #[.int .i64 f.s, .int .i64 f.g, .int .i64 f.a]] w fun e w' => e = .returned (.tuple #[]) ∧ Nx c w0 w m g (saddF c s f) w' := by
  obtain ⟨fl, hfl⟩ : ∃ fl, s.fs.length = fl := ⟨_, rfl⟩
  obtain ⟨h1, k1⟩ := h.below (w' := w.alloc (.cells #[.int .i64 f.s, .int .i64 f.g, .int .i64 f.a] 105)) (by go_grown)
  have H1 := hid h1
  have K1 := hid k1
  obtain ⟨fa, fcap, efv⟩ : ∃ fa fcap, m.fv = .slice fa fl fcap := by
    rcases h.fa.1.2 with ⟨e, e2⟩ | ⟨b, cap, cur, e, _⟩
    · exact ⟨none, 0, by rw [e, ← hfl, e2]⟩
    · exact ⟨_, cap, by rw [e, hfl]⟩
  have hnl : ∀ j, m.nv.ownBlock = some j → j < w.heap.size := fun j e => (h.nu.1.lt e).2
  have e0 : (w.alloc (.cells #[.int .i64 f.s, .int .i64 f.g, .int .i64 f.a] 105)).heap[w.heap.size]? = some (.cells #[.int .i64 f.s, .int .i64 f.g, .int .i64 f.a] 105 (0, 0)) := new_same w _
  have hlt := h.sb_lt
  clear h h1 k1
  go_enter Tryz.func55, Tryz.ntmps55
  go_upto_region 1 with fail
  generalize hw1 : w.alloc (.cells #[.int .i64 f.s, .int .i64 f.g, .int .i64 f.a] 105) = w1 at *
  have hb1 := H1.out.b0.size
  obtain ⟨v5, w5, r5, o5, g5, n5⟩ := run_num (w1 := w1) (w := (w1.alloc (.cells #[.int .i64 (IntKind.i64.wrap ((c.fst : Int) + (fl : Int)))] 3)).drew) 0 (IntKind.i64.wrap ((c.fst : Int) + (fl : Int))) (by go_grown) w0.heap.size m.nv s.ns H1.out.nu.1 w1.heap.size (one_new_cell w1 _ _) hn hb1
  obtain ⟨b5, p5, rfl⟩ := own_posL o5
  have R5 : Hid (∀ ty, (Builtin.append_ #[42, 42] ty #[m.nv, .slice (some ⟨w1.heap.size, 0, none⟩) 1 1]).run Tryz.prog (w1.alloc (.cells #[.int .i64 (IntKind.i64.wrap ((c.fst : Int) + (fl : Int)))] 3)).drew = .ok (.slice (some ⟨b5, 0, none⟩) (s.ns.length + 1) p5) w5) := hid (fun ty => r5)
  rw [show IntKind.i64.wrap ((c.fst : Int) + (fl : Int)) = ((c.fst + s.fs.length : Nat) : Int) from by rw [IntKind.wrap_i64, hfl]; omega] at o5
  obtain ⟨q5, h6, k6⟩ := H1.out.addn o5 g5 n5
  have d4 := H1.out.c4
  have d5 := H1.out.c5
  have d6 := H1.out.c6
  simp only [efv] at d5
  have lt1 := H1.out.sb_lt
  have z6 : w5.cell? ⟨c.SB, 6, none⟩ = some m.nv := by rw [cell_of q5]; rfl
  have y6 : w5.frozen? ⟨c.SB, 6, none⟩ = false := frozen_of q5
  have hbx : (w5.setCell ⟨c.SB, 6, none⟩ (.slice (some ⟨b5, 0, none⟩) (s.ns.length + 1) p5)).heap[w.heap.size]? = some (.cells #[.int .i64 f.s, .int .i64 f.g, .int .i64 f.a] 105 (0, 0)) := by
    rw [set_other _ (by show _ ≠ c.SB; omega), g5.block _ (blk_lt e0) (fun e => by have := hnl _ e.symm; omega)]; exact e0
  have HX := hid hbx
  have H6 := hid h6
  have K6 := hid k6
  clear hbx q5 h6 k6 o5 g5 n5 r5
  go_region_law (refine step_of (t := 42) (v := m.nv) (u := .slice (some ⟨w1.heap.size, 0, none⟩) 1 1) rfl _ _ rfl rfl rfl (R5.out _) ?_)
  all_goals
    generalize hw6 : w5.setCell ⟨c.SB, 6, none⟩ (.slice (some ⟨b5, 0, none⟩) (s.ns.length + 1) p5) = w6 at *
    clear hw6 z6 y6 d4 d5 d6 e0 hw1 R5
    have hb6 := H6.out.b0.size
    have x0 : w6.cell? ⟨w.heap.size, 0, none⟩ = some (.int .i64 f.s) := by rw [cell_of HX.out]; rfl
    have x1 : w6.cell? ⟨w.heap.size, 1, none⟩ = some (.int .i64 f.g) := by rw [cell_of HX.out]; rfl
    have x2 : w6.cell? ⟨w.heap.size, 2, none⟩ = some (.int .i64 f.a) := by rw [cell_of HX.out]; rfl
    have hxl := blk_lt HX.out
    have hE : (w6.alloc (.cells #[.int .i64 f.s, .int .i64 f.g, .int .i64 f.a] 105)).heap[w6.heap.size]? = some (.cells #[.int .i64 f.s, .int .i64 f.g, .int .i64 f.a] 105 (0, 0)) := new_same w6 _
    obtain ⟨v7, w7, r7, o7, g7, n7⟩ := run_fact (w1 := w6) (w := (w6.alloc (.cells #[.int .i64 f.s, .int .i64 f.g, .int .i64 f.a] 105)).drew) 0 f (by go_grown) w0.heap.size m.fv s.fs H6.out.fa.1 w6.heap.size (cell_of (o := 0) hE) (cell_of (o := 1) hE) (cell_of (o := 2) hE) hl hb6
    obtain ⟨b7, p7, rfl⟩ := own_pos o7
    have R7 : Hid (∀ ty, (Builtin.append_ #[57, 57] ty #[.slice fa fl fcap, .slice (some ⟨w6.heap.size, 0, none⟩) 1 1]).run Tryz.prog (w6.alloc (.cells #[.int .i64 f.s, .int .i64 f.g, .int .i64 f.a] 105)).drew = .ok (.slice (some ⟨b7, 0, none⟩) (s.fs.length + 1) p7) w7) := hid (fun ty => by rw [← efv]; exact r7)
    obtain ⟨q7, h8, k8⟩ := H6.out.addf o7 g7 n7
    have z5 := H6.out.c5
    simp only [efv] at z5
    have y5 : w7.cell? ⟨c.SB, 5, none⟩ = some (.slice fa fl fcap) := by rw [cell_of q7, ← efv]; rfl
    have u5 : w7.frozen? ⟨c.SB, 5, none⟩ = false := frozen_of q7
    have lt6 := H6.out.sb_lt
    have HF := hid (show Nx c w0 w m g (saddF c s f) (w7.setCell ⟨c.SB, 5, none⟩ (.slice (some ⟨b7, 0, none⟩) (s.fs.length + 1) p7)) from ⟨_, h8, (K1.out.trans K6.out).trans k8⟩)
    clear H6 H1 K1 K6 HX q7 h8 k8 o7 g7 n7 r7 hE
    go_upto_region 2 with fail
    go_region_law (refine step_of (t := 57) (v := .slice fa fl fcap) (u := .slice (some ⟨w6.heap.size, 0, none⟩) 1 1) rfl _ _ rfl rfl rfl (R7.out _) ?_)
    all_goals go_end0
    all_goals exact ⟨rfl, by rw [← hfl]; exact HF.out⟩

end
end Go.Proofs.YtimfjoinjfecjaaGreat

namespace Go.Proofs.YtimfjoinjfecjaaGreat
open Go.RowKit
set_option linter.unusedVariables false

def glueS (L : List E) (q : (Nat → Nat) × Nat) (x : Int) : (Nat → Nat) × Nat :=
  if 0 < levelF L (vl x : Nat) ∧ q.1 (levelF L (vl x : Nat) - 1).toNat ≠ 1 then (upN q.1 (levelF L (vl x : Nat) - 1).toNat 1, q.2 + 1) else q

def glueF (L : List E) (xs : List Int) : (Nat → Nat) × Nat := xs.foldl (glueS L) (fun _ => 0, 0)

theorem glue_snoc {L : List E} {xs : List Int} {q : Nat} {x : Int} (h : xs[q]? = some x) : glueF L (xs.take (q + 1)) = glueS L (glueF L (xs.take q)) x := by
  rw [take_snoc h]; unfold glueF; rw [List.foldl_append]; rfl

/-- Marks of one's own. -/
structure Gl (w : World) (MB : Nat) (mk : Nat → Nat) (pb : Option Nat) (cs : Array Value) (wr : World) : Prop where
  blk : wr.heap[MB]? = some (.cells cs 122 (0, 0))
  ptr : cs[0]? = some (ptrO pb)
  pg : Pg wr pb mk
  pl : ∀ b, pb = some b → MB < b
  be : Below w.heap.size w wr
  lo : w.heap.size ≤ MB

theorem Gl.below {w : World} {MB : Nat} {mk : Nat → Nat} {pb : Option Nat} {cs : Array Value} {wr w' : World} (h : Gl w MB mk pb cs wr) (b : Below wr.heap.size wr w') : Gl w MB mk pb cs w' := by
  refine ⟨by rw [b.block _ (blk_lt h.blk)]; exact h.blk, h.ptr, h.pg.keep (fun q e => ?_), h.pl, Below.next h.be b, h.lo⟩
  have := h.pg
  rw [e] at this
  obtain ⟨pc, hp, _⟩ := this
  exact b.block _ (blk_lt hp)

theorem Gl.set {w : World} {MB : Nat} {mk : Nat → Nat} {pb pb' : Option Nat} {cs cs' : Array Value} {wr w' : World} {i m : Nat} (h : Gl w MB mk pb cs wr) (e : MarkEnd wr MB 0 122 cs pb mk i m pb' cs' w') : Gl w MB (upN mk i m) pb' cs' w' := by
  refine ⟨e.blk, e.ptr, e.pg, fun b hb => ?_, ?_, h.lo⟩
  · rcases e.nw with q | q
    · exact h.pl b (by rw [← q]; exact hb)
    · rw [q] at hb; cases hb; exact blk_lt h.blk
  · refine h.be.trans ⟨e.os, e.tape, e.output, e.size, fun j hj => e.block j ?_ ?_ (fun c => ?_)⟩
    · have := h.be.size; omega
    · have := h.lo; omega
    · have := h.pl j c; have := h.lo; omega

section
variable {k : K} {w : World} {L : List E} {lev : Nat} {p : V}

theorem z69_at : Tryz.zeroCells122[0]? = some (.pointer none) := by kernel_rfl

theorem levelF_le (t : Trl k w L lev p) (v : Int) : -1 ≤ levelF L v ∧ levelF L v ≤ lev := by
  obtain ⟨F, S, s, g, e⟩ := t
  unfold levelF
  cases ha : atF L v with
  | none => simp only; omega
  | some e' =>
    have := g.lv e' (at_some ha).1
    simp only
    omega

theorem glue_count (L : List E) (xs : List Int) : (glueF L xs).2 ≤ xs.length := by
  unfold glueF
  have : ∀ (ys : List Int) (q : (Nat → Nat) × Nat), (ys.foldl (glueS L) q).2 ≤ q.2 + ys.length := by
    intro ys
    induction ys with
    | nil => intro q; simp
    | cons y ys ih =>
      intro q
      have h1 := ih (glueS L q y)
      have h2 : (glueS L q y).2 ≤ q.2 + 1 := by unfold glueS; split <;> simp
      simp only [List.foldl_cons, List.length_cons]
      omega
  have := this xs (fun _ => 0, 0)
  simpa using this

set_option maxHeartbeats 2000000 in
theorem glue_is (t : Trl k w L lev p) (hn : k.n ≤ 4096) {ao : Option Addr} {m cap : Nat} {xs : List Int} (row : U.Row w ao m cap xs) (hx : ∀ x ∈ xs, 0 ≤ x) (hm : m ≤ 100000) :
    Calls Tryz.prog 56 #[.pointer (some ⟨k.OB, 0, none⟩), .slice ao m cap] w fun e w' => e = .returned (.int .i64 ((glueF L xs).2 : Nat)) ∧ Below w.heap.size w w' := by
  have HT := hid t
  have HR := hid row
  have HX := hid hx
  have hlen := row.1
  have hlev : lev ≤ 4096 := by have := t.len; omega
  have HG : Hid (Gl w w.heap.size (glueF L (xs.take 0)).1 none Tryz.zeroCells122 (w.alloc (.cells Tryz.zeroCells122 122))) := hid ⟨new_same w _, z69_at, fun i _ => rfl, fun b e => (by cases e), by go_grown, Nat.le_refl _⟩
  have H1 : Hid (((1 : Nat) : Int) = 1) := hid rfl
  clear t row hx
  go_enter Tryz.func56, Tryz.ntmps56
  go_wp2
  go_loopw [6, 8, 9, 12] (fun c _ _ i wr => ∃ (q : Nat) (n0 : Nat), q ≤ m ∧ c = .int .i64 n0 ∧ i = .int .i64 q ∧ Hid (n0 = (glueF L (xs.take q)).2) ∧ ∃ pb cs, Hid (Gl w w.heap.size (glueF L (xs.take q)).1 pb cs wr)) (fun _ _ _ i _ => m - (intOf i).toNat)
  case atStart => exact ⟨0, 0, Nat.zero_le _, rfl, rfl, hid rfl, none, _, HG⟩
  case round =>
    obtain ⟨q, n0, hq, rfl, rfl, hc0, pb, cs, hg⟩ := hrel
    by_cases hlt : q < m
    · have hlt' : (q : Int) < m := by omega
      obtain ⟨b, off, y, rfl, hc, hy, y0, y1⟩ := (HR.out.keep hg.out.be).at hlt
      have hy0 := HX.out y (List.mem_of_getElem? hy.out)
      obtain ⟨u, rfl⟩ := Int.eq_ofNat_of_zero_le hy0
      have hvu : vl (u : Int) = u / 2 := by unfold vl; simp
      obtain ⟨ll, hll⟩ : ∃ ll, levelF L ((u / 2 : Nat) : Int) = ll := ⟨_, rfl⟩
      have hle := levelF_le HT.out ((u / 2 : Nat) : Int)
      rw [hll] at hle
      have HLL := hid hll
      have HU : Hid (u / 2 = u / 2) := hid rfl
      obtain ⟨vv, hvv⟩ : ∃ vv, u / 2 = vv := ⟨_, rfl⟩
      have HV := hid hvv
      rw [hvv] at hll
      have HL2 := hid hll
      have HS := hid (glue_snoc (L := L) hy.out)
      have hn0 : n0 ≤ 100000 := by have h1 := glue_count L (xs.take q); have h2 := hc0.out; rw [List.length_take] at h1; omega
      clear hll hvv
      by_cases hpos : 0 < ll
      · obtain ⟨i, hi⟩ := Int.eq_ofNat_of_zero_le (show 0 ≤ ll - 1 by omega)
        have hi4 : i < 4096 := by omega
        have hll1 : ll - 1 = (i : Int) := hi
        have hlli : ll = (i : Int) + 1 := by omega
        have HI : Hid ((ll - 1).toNat = i) := hid (by omega)
        obtain ⟨y2, hy2⟩ : ∃ y2, (glueF L (xs.take q)).1 i = y2 := ⟨_, rfl⟩
        have HY : Hid ((((glueF L (xs.take q)).1 i : Nat) : Int) = (y2 : Int)) := hid (by rw [hy2])
        by_cases hmk : y2 = 1
        · subst hmk
          have hmb : (((1 : Nat) : Int) != 1) = false := by simp
          have HE : Hid (glueS L (glueF L (xs.take q)) u = glueF L (xs.take q)) := hid (by
            unfold glueS
            rw [hvu, HLL.out, HI.out, hy2, if_neg (by simp)])
          clear hy2 hi hpos
          subst hlli
          have hpos' : (0 : Int) < (i : Int) + 1 := by omega
          go_wp2_with (first
            | (go_at_call 24; with_reducible (refine (var_nat u vv HV.out y1 _).mono ?_); rintro e w2 ⟨rfl, b2⟩; have G2 := hid (hg.out.below b2))
            | (go_at_call 88; with_reducible (refine (level_is (HT.out.below G2.out.be) _ HL2.out).mono ?_); rintro e w2 ⟨rfl, rfl⟩)
            | (go_at_call 90; with_reducible (refine (of_is ((cell_of G2.out.blk).trans G2.out.ptr) G2.out.pg i hi4 HY.out).mono ?_); rintro e w2 ⟨rfl, rfl⟩))
          go_roundw
          case rel => exact ⟨q + 1, n0, by omega, rfl, by go_num, hid (by rw [HS.out, HE.out]; exact hc0.out), pb, cs, hid (by rw [HS.out, HE.out]; exact G2.out)⟩
          case measure => simp only [intOf]; omega
        · have hmb : ((y2 : Int) != 1) = true := by simp; omega
          have HE : Hid (glueS L (glueF L (xs.take q)) u = (upN (glueF L (xs.take q)).1 i 1, (glueF L (xs.take q)).2 + 1)) := hid (by
            unfold glueS
            rw [hvu, HLL.out, HI.out, hy2, if_pos ⟨hpos, hmk⟩])
          clear hy2 hi hpos
          subst hlli
          have hpos' : (0 : Int) < (i : Int) + 1 := by omega
          have HPL : Hid (∀ b, pb = some b → b ≠ w.heap.size) := hid (fun b e => by have := hg.out.pl b e; omega)
          go_wp2_with (first
            | (go_at_call 24; with_reducible (refine (var_nat u vv HV.out y1 _).mono ?_); rintro e w2 ⟨rfl, b2⟩; have G2 := hid (hg.out.below b2))
            | (go_at_call 88; with_reducible (refine (level_is (HT.out.below G2.out.be) _ HL2.out).mono ?_); rintro e w2 ⟨rfl, rfl⟩)
            | (go_at_call 90; with_reducible (refine (of_is ((cell_of G2.out.blk).trans G2.out.ptr) G2.out.pg i hi4 HY.out).mono ?_); rintro e w2 ⟨rfl, rfl⟩)
            | (go_at_call 91; with_reducible (refine (set_is G2.out.blk G2.out.ptr G2.out.pg HPL.out i hi4 1 H1.out).mono ?_); rintro e w3 ⟨rfl, pb3, cs3, he3⟩; have G3 := hid (G2.out.set he3.out)))
          go_roundw
          case rel => exact ⟨q + 1, n0 + 1, by omega, by go_num, by go_num, hid (by rw [HS.out, HE.out, hc0.out]), pb3, cs3, hid (by rw [HS.out, HE.out]; exact G3.out)⟩
          case measure => simp only [intOf]; omega
      · have HE : Hid (glueS L (glueF L (xs.take q)) u = glueF L (xs.take q)) := hid (by
          unfold glueS
          rw [hvu, HLL.out, if_neg (fun c => hpos c.1)])
        go_wp2_with (first
          | (go_at_call 24; with_reducible (refine (var_nat u vv HV.out y1 _).mono ?_); rintro e w2 ⟨rfl, b2⟩; have G2 := hid (hg.out.below b2))
          | (go_at_call 88; with_reducible (refine (level_is (HT.out.below G2.out.be) _ HL2.out).mono ?_); rintro e w2 ⟨rfl, rfl⟩))
        go_roundw
        case rel => exact ⟨q + 1, n0, by omega, rfl, by go_num, hid (by rw [HS.out, HE.out]; exact hc0.out), pb, cs, hid (by rw [HS.out, HE.out]; exact G2.out)⟩
        case measure => simp only [intOf]; omega
    · obtain rfl : q = m := by omega
      have hlt' : ¬ (q : Int) < q := by omega
      have e1 : xs.take q = xs := List.take_of_length_le (by omega)
      have hc1 := hc0.out
      rw [e1] at hc1
      have HB := hid hg.out.be
      have HC1 := hid hc1
      clear hc1
      go_wp2
      go_ret
      exact ⟨by rw [← HC1.out]; rfl, HB.out⟩

set_option maxHeartbeats 2000000 in
theorem glue_none {w : World} {ao : Option Addr} {m cap : Nat} {xs : List Int} (row : U.Row w ao m cap xs) (hx : ∀ x ∈ xs, 0 ≤ x) (hm : m ≤ 100000) :
    Calls Tryz.prog 56 #[.pointer none, .slice ao m cap] w fun e w' => e = .returned (.int .i64 0) ∧ Below w.heap.size w w' := by
  have HR := hid row
  have HX := hid hx
  have hlen := row.1
  have HB : Hid (Below w.heap.size w (w.alloc (.cells Tryz.zeroCells122 122))) := hid (by go_grown)
  clear row hx
  go_enter Tryz.func56, Tryz.ntmps56
  go_wp2
  go_loopw [6, 8, 9, 12] (fun c _ _ i wr => ∃ (q : Nat), q ≤ m ∧ c = .int .i64 0 ∧ i = .int .i64 q ∧ Hid (Below w.heap.size w wr)) (fun _ _ _ i _ => m - (intOf i).toNat)
  case atStart => exact ⟨0, Nat.zero_le _, rfl, rfl, HB⟩
  case round =>
    obtain ⟨q, hq, rfl, rfl, hg⟩ := hrel
    by_cases hlt : q < m
    · have hlt' : (q : Int) < m := by omega
      obtain ⟨b, off, y, rfl, hc, hy, y0, y1⟩ := (HR.out.keep hg.out).at hlt
      have hy0 := HX.out y (List.mem_of_getElem? hy.out)
      obtain ⟨u, rfl⟩ := Int.eq_ofNat_of_zero_le hy0
      obtain ⟨vv, hvv⟩ : ∃ vv, u / 2 = vv := ⟨_, rfl⟩
      have HV := hid hvv
      clear hvv
      go_wp2_with (first
        | (go_at_call 24; with_reducible (refine (var_nat u vv HV.out y1 _).mono ?_); rintro e w2 ⟨rfl, b2⟩; have G2 := hid (Below.next hg.out b2))
        | (go_at_call 88; with_reducible (refine (level_none _ _).mono ?_); rintro e w2 ⟨rfl, rfl⟩))
      go_roundw
      case rel => exact ⟨q + 1, by omega, rfl, by go_num, G2⟩
      case measure => simp only [intOf]; omega
    · obtain rfl : q = m := by omega
      have hlt' : ¬ (q : Int) < q := by omega
      go_wp2
      go_ret
      exact ⟨rfl, hg.out⟩
end

end Go.Proofs.YtimfjoinjfecjaaGreat
