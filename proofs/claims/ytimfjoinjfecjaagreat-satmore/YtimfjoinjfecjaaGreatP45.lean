/-
  reduce: the walk.
  beginAnew, where clauses go.
  What a solver keeps where clauses go; the walk of SatMore.
-/
import Derived.Test.YtimfjoinjfecjaaGreatP44
import Derived.Test.YtimfjoinjfecjaaGreatP33
import Derived.Test.YtimfjoinjfecjaaGreatP41

namespace Go.Proofs.YtimfjoinjfecjaaGreat
open Go.RowKit Go.Maps
set_option linter.unusedVariables false

section
variable {c : SC} {w0 w w' : World} {g g' : G} {s s' : SS} {m m' : MV}

set_option maxRecDepth 20000 in
set_option maxHeartbeats 4000000 in
theorem reduce_full (h : Sm c w0 g s m w) (ha : c.all = false) (hr : ¬ s.ns.length < s.lim) (hx : ∀ x ∈ s.ns, ∃ i : Nat, x = (c.fst : Int) + i ∧ i < s.fs.length) (hl : s.fs.length ≤ 100000) (hn : s.ns.length ≤ 10000) (hf : c.fst ≤ 100000) (hlm : s.lim ≤ 1000000) :
    Calls Tryz.prog 58 #[.pointer (some ⟨c.SB, 4, none⟩)] w fun e w' => ∃ ao n cp, e = .returned (.slice ao n cp) ∧ Hid (RedEnd c w0 w g s m ao n cp w') := by
  obtain ⟨mD, hD, kD⟩ := h.xbelow (below_drew w)
  obtain ⟨m2, h2, k2⟩ := hD.xlm (s.lim + 300)
  have c7 := h.c7
  rw [ha] at c7
  have c6 := h.c6
  have c8 := h.c8
  have f8 := h.frz 8
  obtain ⟨na, np, en⟩ : ∃ na np, m.nv = .slice na s.ns.length np := by
    rcases h.nu.1.2 with ⟨e, e2⟩ | ⟨b, cap, cur, e, _⟩
    · exact ⟨none, 0, by rw [e, e2]⟩
    · exact ⟨_, cap, e⟩
  rw [en] at c6
  obtain ⟨lim, hlim⟩ : ∃ lim, s.lim = lim := ⟨_, rfl⟩
  obtain ⟨nn, hnn⟩ : ∃ nn, s.ns.length = nn := ⟨_, rfl⟩
  rw [hlim, hnn] at hr
  rw [hlim] at c8 hlm
  rw [hnn] at c6 hn
  have hrI : ¬ (nn : Int) < lim := by omega
  have hrd : decide ((nn : Int) < lim) = false := decide_eq_false hrI
  have HS2 := hid h2
  have K2 := hid (kD.trans k2)
  have HNN := hid hnn
  have HX := hid hx
  have HFIT : Hid (∀ x ∈ s.ns, -9223372036854775808 ≤ x ∧ x ≤ 9223372036854775807) := hid (fun x hx2 => by obtain ⟨i, e, hi⟩ := hx x hx2; omega)
  have HTH := hid (there_is (s := s.lm (s.lim + 300)) h2 hx hl (show s.ns.length ≤ 10000 by omega) hf)
  rw [show (s.lm (s.lim + 300)).ns.length = nn from hnn] at HTH
  have ewl : ((s.lim + 300 : Nat) : Int) = (lim : Int) + 300 := by rw [hlim]; omega
  rw [ewl] at HTH HS2 K2
  have hw2 : Hid (w.heap.size ≤ (w.drew.setCell ⟨c.SB, 8, none⟩ (.int .i64 ((lim : Int) + 300))).heap.size) := hid (by simp [World.setCell])
  clear h hD h2 k2 kD hx en hlim hnn ha
  go_enter Tryz.func58, Tryz.ntmps58
  go_wp2
  go_region
  have HS3 : Hid (Sm c w0 g (s.lm (s.lim + 300)) m2 ((w.setCell ⟨c.SB, 8, none⟩ (.int .i64 ((lim : Int) + 300))).drew)) := HS2
  have K3 : Hid (Kp w0 w m.ow ((w.setCell ⟨c.SB, 8, none⟩ (.int .i64 ((lim : Int) + 300))).drew) m2.ow) := K2
  have HTH3 : Hid (Calls Tryz.prog 94 #[.pointer (some ⟨c.SB, 4, none⟩)] ((w.setCell ⟨c.SB, 8, none⟩ (.int .i64 ((lim : Int) + 300))).drew) fun e w' => ∃ ao cp, e = .returned (.slice ao nn cp) ∧ Hid (Kn.Deeds w' ao nn (dsOf (thereF c.fst s.fs s.ns))) ∧ Hid (Below ((w.setCell ⟨c.SB, 8, none⟩ (.int .i64 ((lim : Int) + 300))).drew).heap.size ((w.setCell ⟨c.SB, 8, none⟩ (.int .i64 ((lim : Int) + 300))).drew) w')) := HTH
  clear HS2 K2 HTH
  go_upto_region 5 with fail
  generalize hW2 : (w.setCell ⟨c.SB, 8, none⟩ (.int .i64 ((lim : Int) + 300))).drew = W2 at *
  have hw3 : Hid (w.heap.size ≤ W2.heap.size) := hid (by rw [← hW2]; simp [World.setCell])
  clear hW2 c7 f8 c8 c6 hrd hrI hr
  have HKF : Hid (Kn.keepF nn (dsOf (thereF c.fst s.fs s.ns)) = keptF c.fst s) := hid (by unfold keptF; rw [HNN.out])
  go_wp2_with (first
    | (go_at_call 94; with_reducible (refine HTH3.out.mono ?_); rintro e w3 ⟨ao, cp, rfl, D3, b3⟩)
    | (go_at_call 93; with_reducible (refine (Kn.keep_is D3.out hn).mono ?_); rw [HKF.out]; rintro e w4 ⟨bg, rfl, L4, b4⟩))
  obtain ⟨m4, h4, k4⟩ := HS3.out.xbelow (Below.next b3.out b4.out)
  have H4 := hid h4
  have K4 := hid (K3.out.trans k4)
  have hw4 : w.heap.size ≤ w4.heap.size := by have := hw3.out; have := b3.out.size; have := b4.out.size; omega
  have d6 := h4.c6
  obtain ⟨na4, np4, en4⟩ : ∃ na np, m4.nv = .slice na nn np := by
    rcases h4.nu.1.2 with ⟨e, e2⟩ | ⟨b, cap, cur, e, _⟩
    · exact ⟨none, 0, by rw [e, ← HNN.out]; exact congrArg (fun q => Value.slice none q 0) e2.symm⟩
    · exact ⟨_, cap, by rw [← HNN.out]; exact e⟩
  rw [en4] at d6
  have HN4 : Hid (OwnL w4 w0.heap.size (.slice na4 nn np4) s.ns) := hid (by rw [← en4]; exact h4.nu.1)
  clear h4 k4 b3 b4 D3 HTH3 HS3 K3 en4
  go_loopw [3, 4, 34] (fun v3 v4 i wr => ∃ (q : Nat), q ≤ nn ∧ i = .int .i64 q ∧ Hid (Srt w4 (keptF c.fst s) s.ns q v3 v4 wr)) (fun _ _ i _ => nn - (intOf i).toNat)
  case atStart => exact ⟨0, Nat.zero_le _, rfl, hid ⟨World.ownsRow_nil _ _ _ _, World.ownsRow_nil _ _ _ _, (fun j e => by simp [Value.ownBlock] at e), Below.refl _ _⟩⟩
  case round =>
    obtain ⟨q, hq, rfl, sr⟩ := hrel
    obtain ⟨a3, p3, e3⟩ := sr.out.st.shape
    obtain ⟨a4, p4, e4⟩ := sr.out.go.shape
    by_cases hlt : q < nn
    · have hlt' : (q : Int) < nn := by omega
      obtain ⟨nb, y, rfl, hy, hc⟩ := (own_row HN4.out).2 q hlt
      have dy := bl_cell sr.out.be hc
      have d6' := bl_cell sr.out.be d6
      have db := bl_cell sr.out.be (L4.out q hlt)
      have lt6 := Nat.lt_of_lt_of_le H4.out.sb_lt sr.out.be.size
      have hlq : (s.ns.take q).length ≤ 10000 := by rw [List.length_take, HNN.out]; omega
      have hl3 : (selF true (keptF c.fst s) 0 (s.ns.take q)).length ≤ 1000000 := by have := (sel_sub true (keptF c.fst s) (s.ns.take q) 0).length_le; omega
      have hl4 : (selF false (keptF c.fst s) 0 (s.ns.take q)).length ≤ 1000000 := by have := (sel_sub false (keptF c.fst s) (s.ns.take q) 0).length_le; omega
      cases hk : keptF c.fst s q
      · obtain ⟨v7, w7, r7, o7, g7, n7⟩ := run_num (w1 := wr) (w := wr.alloc (.cells #[.int .i64 y] 3)) 0 y (by go_grown) w4.heap.size u4 (selF false (keptF c.fst s) 0 (s.ns.take q)) sr.out.go wr.heap.size (cell_of (o := 0) (new_same wr _)) hl4 sr.out.be.size
        obtain ⟨b7, p7, rfl⟩ := own_posL o7
        have R7 : Hid (∀ ty, (Builtin.append_ #[42, 42] ty #[u4, .slice (some ⟨wr.heap.size, 0, none⟩) 1 1]).run Tryz.prog (wr.alloc (.cells #[.int .i64 y] 3)) = .ok (.slice (some ⟨b7, 0, none⟩) ((selF false (keptF c.fst s) 0 (s.ns.take q)).length + 1) p7) w7) := hid (fun ty => r7)
        have S7 := hid (sr.out.no hy hk o7 g7 n7)
        obtain ⟨ll, hll⟩ : ∃ ll, (selF false (keptF c.fst s) 0 (s.ns.take q)).length = ll := ⟨_, rfl⟩
        rw [hll] at R7 S7 e4
        rw [hk] at db
        subst e4 e3
        clear o7 g7 n7 r7 sr hy hc hk hl3 hl4 hlq
        go_wp2_with (at_builtin; refine list_of (t := 42) (v := .slice a4 ll p4) (u := .slice (some ⟨wr.heap.size, 0, none⟩) 1 1) rfl _ _ rfl rfl rfl (R7.out _) ?_)
        go_roundw
        case rel => exact ⟨q + 1, by omega, by go_num, S7⟩
        case measure => simp only [intOf]; omega
      · obtain ⟨v7, w7, r7, o7, g7, n7⟩ := run_num (w1 := wr) (w := wr.alloc (.cells #[.int .i64 y] 3)) 0 y (by go_grown) w4.heap.size u3 (selF true (keptF c.fst s) 0 (s.ns.take q)) sr.out.st wr.heap.size (cell_of (o := 0) (new_same wr _)) hl3 sr.out.be.size
        obtain ⟨b7, p7, rfl⟩ := own_posL o7
        have R7 : Hid (∀ ty, (Builtin.append_ #[42, 42] ty #[u3, .slice (some ⟨wr.heap.size, 0, none⟩) 1 1]).run Tryz.prog (wr.alloc (.cells #[.int .i64 y] 3)) = .ok (.slice (some ⟨b7, 0, none⟩) ((selF true (keptF c.fst s) 0 (s.ns.take q)).length + 1) p7) w7) := hid (fun ty => r7)
        have S7 := hid (sr.out.yes hy hk o7 g7 n7)
        obtain ⟨ll, hll⟩ : ∃ ll, (selF true (keptF c.fst s) 0 (s.ns.take q)).length = ll := ⟨_, rfl⟩
        rw [hll] at R7 S7 e3
        rw [hk] at db
        subst e3 e4
        clear o7 g7 n7 r7 sr hy hc hk hl3 hl4 hlq
        go_wp2_with (at_builtin; refine list_of (t := 42) (v := .slice a3 ll p3) (u := .slice (some ⟨wr.heap.size, 0, none⟩) 1 1) rfl _ _ rfl rfl rfl (R7.out _) ?_)
        go_roundw
        case rel => exact ⟨q + 1, by omega, by go_num, S7⟩
        case measure => simp only [intOf]; omega
    · obtain rfl : q = nn := by omega
      obtain ⟨l3, hl3⟩ : ∃ l3, (selF true (keptF c.fst s) 0 (s.ns.take q)).length = l3 := ⟨_, rfl⟩
      obtain ⟨l4, hl4⟩ : ∃ l4, (selF false (keptF c.fst s) 0 (s.ns.take q)).length = l4 := ⟨_, rfl⟩
      rw [hl3] at e3
      rw [hl4] at e4
      subst e3 e4
      have RE := hid (red_end (s := s) (m := m) hw4 H4.out K4.out (by rw [HNN.out]; exact sr.out) HFIT.out)
      have z6 : wr.cell? ⟨c.SB, 6, none⟩ = some m4.nv := by rw [cell_of RE.out.1]; rfl
      have y6 : wr.frozen? ⟨c.SB, 6, none⟩ = false := frozen_of RE.out.1
      clear hl3 hl4 sr d6 HN4
      go_wp2
      go_ret
      exact ⟨_, _, _, rfl, hid RE.out.2⟩
end
end Go.Proofs.YtimfjoinjfecjaaGreat

namespace Go.Proofs.YtimfjoinjfecjaaGreat
open Go.RowKit Go.Maps
set_option linter.unusedVariables false

def setsF (cls : List (List Int)) (xs : List Int) : List (List Int) := xs.foldl (fun c x => c.set x.toNat []) cls
theorem sets_next {cls : List (List Int)} {xs : List Int} {q : Nat} {x : Int} (h : xs[q]? = some x) : setsF cls (xs.take (q + 1)) = (setsF cls (xs.take q)).set x.toNat [] := by
  unfold setsF
  rw [List.take_add_one, h]
  simp [List.foldl_append]
theorem sets_len : ∀ (xs : List Int) (cls : List (List Int)), (setsF cls xs).length = cls.length := by
  intro xs
  induction xs with
  | nil => intro cls; rfl
  | cons x xs ih => intro cls; show (setsF (cls.set x.toNat []) xs).length = _; rw [ih, List.length_set]
theorem sets_at : ∀ (xs : List Int) (cls : List (List Int)) (i : Nat), (∀ x ∈ xs, x.toNat ≠ i) → (setsF cls xs)[i]? = cls[i]? := by
  intro xs
  induction xs with
  | nil => intro cls i _; rfl
  | cons x xs ih =>
    intro cls i h
    show (setsF (cls.set x.toNat []) xs)[i]? = _
    rw [ih _ _ (fun y hy => h y (List.mem_cons_of_mem _ hy)), List.getElem?_set_ne (h x List.mem_cons_self)]

/-- So many are taken out of the watch. -/
structure RemA (n : Nat) (g g' : G) (xs : List Int) : Prop where
  nx : g'.nx = g.nx
  lt : g'.lt = g.lt
  gn : ∀ i : Nat, g'.gn i = (g.gn i || decide ((i : Int) ∈ xs))
  su : tot n g' ≤ tot n g
  rm : g'.rm ≤ g.rm + xs.length

theorem RemA.nil (n : Nat) (g : G) : RemA n g g [] := ⟨rfl, rfl, fun i => by simp, Nat.le_refl _, Nat.le_refl _⟩
theorem RemA.next {n : Nat} {g g1 g2 : G} {xs : List Int} {i : Nat} (h : RemA n g g1 xs) (d : RemD n g1 g2 i) (hr : g2.rm ≤ g1.rm + 1) : RemA n g g2 (xs ++ [(i : Int)]) := by
  refine ⟨d.nx.trans h.nx, d.lt.trans h.lt, fun j => ?_, Nat.le_trans d.su h.su, by have := h.rm; rw [List.length_append]; simp; omega⟩
  rw [d.gn]
  by_cases e : j = i
  · subst e; rw [up_same]; simp
  · rw [up_ne _ _ e, h.gn j]
    have : ((j : Int) ∈ xs ++ [(i : Int)]) ↔ ((j : Int) ∈ xs) := by simp; omega
    simp only [this]

/-- beginAnew, plainly. -/
def anxF (n fst : Nat) (s : SS) : SS := nextF ((redF fst (gbF n s 0)).C (setsF s.cls (gonsF fst (gbF n s 0))))

section
variable {c : SC} {w0 w w' : World} {g g' : G} {s s' : SS} {m m' : MV}

theorem RedEnd.out {ao : Option Addr} {n cp : Nat} (h : RedEnd c w0 w g s m ao n cp w') : ∃ m', Hid (Sm c w0 g (redF c.fst s) m' w') ∧ Hid (Kp w0 w m.ow w' m'.ow) ∧ Hid (GVt w0 w' m'.ow [.slice ao n cp] [gonsF c.fst s]) := h

theorem cv_shape (h : Sm c w0 g s m w) {N i : Nat} (hl : s.cls.length = N) (hi : i < N) : ∃ cb ccap, m.cv = .slice (some ⟨cb, 0, none⟩) N ccap := by
  obtain ⟨vs, q1, _⟩ := h.cl
  rcases q1.2 with ⟨_, e2⟩ | ⟨b, cap, cur, e, _⟩
  · omega
  · exact ⟨b, cap, by rw [e, hl]⟩

theorem cv_cell (h : Sm c w0 g s m w) {N i cb ccap : Nat} (hl : s.cls.length = N) (hi : i < N) (ev : m.cv = .slice (some ⟨cb, 0, none⟩) N ccap) : ∃ z, w.cell? ⟨cb, i, none⟩ = some z ∧ w.frozen? ⟨cb, i, none⟩ = false := by
  obtain ⟨vs, q1, _⟩ := h.cl
  rcases q1.2 with ⟨_, e2⟩ | ⟨b, cap, cur, e, hB, hg, h1, h2, h3, h4⟩
  · omega
  · rw [ev] at e
    cases e
    exact ⟨_, by rw [cell_of hg]; exact Array.getElem?_eq_getElem (by omega), frozen_of hg⟩

set_option maxRecDepth 20000 in
set_option maxHeartbeats 4000000 in
theorem anew_full (h : Sm c w0 g s m w) (ha : c.all = false) (hr : ¬ s.ns.length < s.lim) (hnu : ∀ x ∈ s.ns, ∃ i : Nat, x = i ∧ c.fst ≤ i ∧ i < g.nx ∧ g.gn i = false) (hnd : s.ns.Nodup) (hnx : g.nx = c.fst + s.fs.length) (hcl : s.cls.length = g.nx) (hl : s.fs.length ≤ 100000) (hn : s.ns.length ≤ 10000) (hf : c.fst ≤ 100000) (hlm : s.lim ≤ 1000000) (hrm : g.rm + s.ns.length ≤ 100000) (hrd : s.rd ≤ 1000000000) (hcf : s.cf ≤ 1000000000) (h0 : ∀ e ∈ (gbF c.kw.n s 0).L, e.g = 0) :
    Calls Tryz.prog 35 #[.pointer (some ⟨c.SB, 0, none⟩)] w fun e w' => e = .returned (.tuple #[]) ∧ ∃ g', Hid (Nx c w0 w m g' (anxF c.kw.n c.fst s) w') ∧ Hid (RemA c.kw.n g g' (gonsF c.fst (gbF c.kw.n s 0))) := by
  have HB := hid (goBack_is h 0)
  have HX : Hid (∀ x ∈ (gbF c.kw.n s 0).ns, ∃ i : Nat, x = (c.fst : Int) + i ∧ i < (gbF c.kw.n s 0).fs.length) := hid (fun x hx => by
    obtain ⟨i, e, h1, h2, _⟩ := hnu x hx
    exact ⟨i - c.fst, by omega, show i - c.fst < s.fs.length by omega⟩)
  have HGO : Hid (∀ x ∈ gonsF c.fst (gbF c.kw.n s 0), ∃ i : Nat, x = i ∧ i < g.nx ∧ g.gn i = false) := hid (fun x hx => by
    obtain ⟨i, e, h1, h2, h3⟩ := hnu x ((sel_sub false _ _ _).subset hx)
    exact ⟨i, e, h2, h3⟩)
  have HND : Hid ((gonsF c.fst (gbF c.kw.n s 0)).Nodup) := hid (hnd.sublist (sel_sub false _ _ _))
  have HGL : Hid ((gonsF c.fst (gbF c.kw.n s 0)).length ≤ s.ns.length) := hid (sel_sub false (keptF c.fst (gbF c.kw.n s 0)) (gbF c.kw.n s 0).ns 0).length_le
  have HU := hid h0
  have HCL := hid hcl
  have HL2 : Hid ((gbF c.kw.n s 0).fs.length ≤ 100000) := hid hl
  have HN2 : Hid ((gbF c.kw.n s 0).ns.length ≤ 10000) := hid hn
  have HM2 : Hid ((gbF c.kw.n s 0).lim ≤ 1000000) := hid hlm
  have HRX : Hid (¬ (gbF c.kw.n s 0).ns.length < (gbF c.kw.n s 0).lim) := hid hr
  have hnx2 : g.nx ≤ 1000000 := by omega
  obtain ⟨GO, hGO⟩ : ∃ GO, gonsF c.fst (gbF c.kw.n s 0) = GO := ⟨_, rfl⟩
  rw [hGO] at HGO HND HGL ⊢
  have HGE := hid hGO
  clear h hnu hnd hr h0 hcl hGO hnx
  go_enter Tryz.func35, Tryz.ntmps35
  go_wp2_with (first
    | (go_at_call 57; with_reducible (refine HB.out.mono ?_); rintro e w1 ⟨rfl, n1⟩; have n2 := Nx.out n1; obtain ⟨m1, h1, k1⟩ := n2)
    | (go_at_call 58; with_reducible (refine (reduce_full h1.out ha HRX.out HX.out HL2.out HN2.out hf HM2.out).mono ?_); rintro e w2 ⟨ao, gn, cp, rfl, re⟩; have re2 := RedEnd.out re.out; obtain ⟨m2, h2, k2, v2⟩ := re2))
  have V2 : Hid (GVt w0 w2 m2.ow [.slice ao gn cp] [GO]) := hid (by rw [← HGE.out]; exact v2.out)
  have hgn : Hid (gn = GO.length) := hid V2.out.one.1.symm
  have hg10 : gn ≤ 10000 := by have := hgn.out; have := HGL.out; omega
  have K2 := hid (k1.out.trans k2.out)
  clear re v2 k1 k2
  go_loopw [11] (fun i wr => ∃ (q : Nat) (g1 : G) (m3 : MV), q ≤ gn ∧ i = .int .i64 q ∧ Hid (Sm c w0 g1 ((redF c.fst (gbF c.kw.n s 0)).C (setsF s.cls (GO.take q))) m3 wr) ∧ Hid (Kp w0 w2 m2.ow wr m3.ow) ∧ Hid (RemA c.kw.n g g1 (GO.take q))) (fun i _ => gn - (intOf i).toNat)
  case atStart => exact ⟨0, g, m2, Nat.zero_le _, rfl, h2, hid (Kp.refl _ _ _), hid (RemA.nil _ _)⟩
  case round =>
    clear h2
    obtain ⟨q, g1, m3, hq, rfl, h3, k3, r3⟩ := hrel
    by_cases hlt : q < gn
    · have hlt' : (q : Int) < gn := by omega
      have V3 := hid (k3.out.gv _ _ V2.out)
      obtain ⟨rb, off, y, rfl, hc, hy, y0, y1⟩ := V3.out.one.at hlt
      obtain ⟨i, hyi, hi, hgi⟩ := HGO.out y (List.mem_of_getElem? hy.out)
      subst hyi
      have hg1 : g1.gn i = false := by
        rw [r3.out.gn i, hgi, Bool.false_or, decide_eq_false_iff_not]
        intro hm
        obtain ⟨j, hj⟩ := List.mem_iff_getElem?.1 hm
        have hjl := (List.getElem?_eq_some_iff.1 hj).1
        rw [List.length_take] at hjl
        rw [List.getElem?_take_of_lt (by omega)] at hj
        obtain ⟨a1, a2⟩ := List.getElem?_eq_some_iff.1 hj
        obtain ⟨b1, b2⟩ := List.getElem?_eq_some_iff.1 hy.out
        exact (List.pairwise_iff_getElem.1 HND.out) j q a1 b1 (by omega) (a2.trans b2.symm)
      have hi1 : i < g1.nx := by rw [r3.out.nx]; exact hi
      have hrm1 : g1.rm ≤ 1000000 := by have := r3.out.rm; have h5 : (GO.take q).length ≤ GO.length := by rw [List.length_take]; omega
                                        have h6 := HGL.out
                                        omega
      have d1 := h3.out.c1
      have HRM := hid (sremove h3.out hi1 hg1 (by rw [r3.out.nx]; exact hnx2) hrm1 (fun e he hle => by have := HU.out e he; omega))
      have HT1 : Hid (GO.take (q + 1) = GO.take q ++ [(i : Int)]) := hid (by rw [List.take_add_one, hy.out]; rfl)
      have hcll : (setsF s.cls (GO.take q)).length = g.nx := by rw [sets_len]; exact HCL.out
      have HCL2 := hid hcll
      have HCLL : Hid (((redF c.fst (gbF c.kw.n s 0)).C (setsF s.cls (GO.take q))).cls.length = g.nx) := hid hcll
      have HSN : Hid (setsF s.cls (GO.take (q + 1)) = (setsF s.cls (GO.take q)).set i []) := hid (by rw [sets_next hy.out, Int.toNat_natCast])
      clear hg1 hi1 V3 hcll
      go_wp2_with (first
        | (go_at_call 59; with_reducible (refine HRM.out.mono ?_); rintro e w5 ⟨rfl, g5, m5, h5, k5, r5⟩; have d3 := h5.out.c3; have x4 := cv_shape h5.out HCLL.out hi; obtain ⟨cb, ccap, ecv⟩ := x4; rw [ecv] at d3; have x5 := cv_cell h5.out HCLL.out hi ecv; obtain ⟨z, cx, fx⟩ := x5; have hiI : (i : Int) < g.nx := (by omega)))
      obtain ⟨m6, h6, k6⟩ := h5.out.putc (by rw [ecv]; exact congrArg (fun q => Value.slice (some ⟨cb, 0, none⟩) q ccap) HCL2.out.symm) i
      have R6 := hid (r3.out.next r5.out.1 r5.out.2)
      go_roundw
      case rel => exact ⟨q + 1, g5, m6, by omega, by go_num, hid (by rw [HSN.out]; exact h6), hid ((k3.out.trans k5.out).trans k6), hid (by rw [HT1.out]; exact R6.out)⟩
      case measure => simp only [intOf]; omega
    · have HT : Hid (GO.take q = GO) := hid (List.take_of_length_le (by have := hgn.out; omega))
      have H4 : Hid (Sm c w0 g1 ((redF c.fst (gbF c.kw.n s 0)).C (setsF s.cls GO)) m3 wr) := hid (by have := h3.out; rw [HT.out] at this; exact this)
      have R4 : Hid (RemA c.kw.n g g1 GO) := hid (by have := r3.out; rw [HT.out] at this; exact this)
      have HN := hid (next_is H4.out (show s.rd ≤ 1000000000 from hrd) (show s.cf ≤ 1000000000 from hcf))
      clear h3 r3 HT
      go_wp2_with (go_at_call 30; with_reducible (refine HN.out.mono ?_); rintro e w4 ⟨rfl, n4⟩; have n5 := Nx.out n4; obtain ⟨m4, h4, k4⟩ := n5)
      go_end0
      exact ⟨rfl, g1, hid ⟨m4, by unfold anxF; rw [HGE.out]; exact h4.out, (K2.out.trans k3.out).trans k4.out⟩, R4⟩
end
end Go.Proofs.YtimfjoinjfecjaaGreat

namespace Go.Proofs.YtimfjoinjfecjaaGreat
open Go.RowKit Go.Maps
set_option linter.unusedVariables false

section
variable {k : K} {w : World} {p : V} {n : Nat} {l : List (List Int)} {s : SS} {g g' : G}

theorem Iv.anx (iv : Iv false n l s g) (t : Trl k w s.L s.lev p) (hk : k.n = n) (hW : s.W.length = n) (hcf : s.en ≤ s.cf) (r : RemA n g g' (gonsF l.length (gbF n s 0))) : Iv false n l (anxF n l.length s) g' ∧ (anxF n l.length s).cf < (anxF n l.length s).en ∧ (anxF n l.length s).cf = s.cf := by
  obtain ⟨iv1, l0, ce, cc⟩ := iv.anew t hk hW hcf
  have hgo : ∀ x ∈ gonsF l.length (gbF n s 0), ∃ i : Nat, x = i ∧ l.length ≤ i ∧ i < g.nx ∧ g.gn i = false := fun x hx => iv.nu x ((sel_sub false _ _ _).subset hx)
  have hgn : ∀ i, g'.gn i = false → g.gn i = false ∧ (i : Int) ∉ gonsF l.length (gbF n s 0) := fun i hi => by
    rw [r.gn i, Bool.or_eq_false_iff] at hi
    exact ⟨hi.1, by simpa using hi.2⟩
  have hlen := sel_len (keptF l.length (gbF n s 0)) (gbF n s 0).ns 0
  refine ⟨⟨by rw [r.nx]; exact iv1.nx, by rw [r.nx, r.lt]; exact iv1.lt, ?_, fun i hi hg => ?_, fun i hi => ?_, iv1.nn, iv1.cf, iv1.fs, ?_, iv1.wg, iv1.rd, iv1.dc, iv1.r1, iv1.wt, fun v hv => ?_, iv1.ok, fun i j c d hij hj hi hj2 hg => iv1.ds i j c d hij hj hi hj2 (hgn i hg).1, fun h => (by cases h), ?_, fun x hx => ?_, ?_⟩, ce, cc⟩
  · rw [r.nx]
    show (setsF s.cls _).length = _
    rw [sets_len]; exact iv.cn
  · rw [r.nx] at hi
    rw [r.lt]
    obtain ⟨h1, h2⟩ := hgn i hg
    show (setsF s.cls _)[i]? = _
    rw [sets_at _ _ _ (fun x hx e => h2 (by
      obtain ⟨j, ej, _⟩ := hgo x hx
      have : j = i := by rw [ej, Int.toNat_natCast] at e; exact e
      rw [← this, ← ej]; exact hx))]
    exact iv.cl i hi h1
  · rw [r.gn i, iv.og i hi, Bool.false_or, decide_eq_false_iff_not]
    intro hm
    obtain ⟨j, ej, h1, _⟩ := hgo _ hm
    omega
  · show g'.rm + (stayF l.length (gbF n s 0)).length ≤ s.prf.length
    have h1 := r.rm
    have h2 := iv.ns
    have h3 : (stayF l.length (gbF n s 0)).length + (gonsF l.length (gbF n s 0)).length = s.ns.length := hlen
    omega
  · have : v < (anF n s).lev := hv
    omega
  · show 1000 ≤ s.lim + 300
    have := iv.lm
    omega
  · have hx2 : x ∈ stayF l.length (gbF n s 0) := hx
    obtain ⟨i, e, h1, h2, h3⟩ := iv.nu x ((sel_sub true _ _ _).subset hx2)
    refine ⟨i, e, h1, by rw [r.nx]; exact h2, ?_⟩
    rw [r.gn i, h3, Bool.false_or, decide_eq_false_iff_not]
    intro hm
    rw [← e] at hm
    exact sel_apart _ _ _ iv.nd x hx2 hm
  · exact iv.nd.sublist (sel_sub true _ _ _)

/-- A new round, whatever goes. -/
theorem anew_any {bud : Nat} {c : SC} {w0 : World} (hf : c.fst = l.length) (hl : l.length ≤ 10000) (hb : bud ≤ 9000) : Anew false l bud c w0 := by
  intro g s m w h iv he hcf
  have h1 := iv.ns
  have h2 := iv.cf
  have h3 := iv.lm
  have h4 := iv.rd
  have h5 := iv.fs
  have h6 := iv.nx
  obtain ⟨la, lw, _⟩ := h.o.lens
  have hn := h.hn
  by_cases hq : c.all = true ∨ s.ns.length < s.lim
  · obtain ⟨a1, a2, a3, a4⟩ := iv.anew h.W.j.t h.W.j.n (by omega) he
    refine (anew_nil h hq (by omega) (by omega)).mono fun e w' q => ?_
    exact ⟨q.1, g, _, q.2, hid ⟨a1, a4, a3, Nat.le_refl _⟩⟩
  · have ha : c.all = false := by
      cases e : c.all
      · rfl
      · exact absurd (.inl e) hq
    have hr : ¬ s.ns.length < s.lim := fun q => hq (.inr q)
    refine (anew_full h ha hr (by rw [hf]; exact iv.nu) iv.nd (by rw [hf, h6, h5]) iv.cn (by omega) (by omega) (by omega) (by omega) (by omega) (by omega) (by omega) (fun e he2 => ?_)).mono fun e w' q => ?_
    · have he3 : e ∈ backL s.L s.lev ((0 : Nat) : Int) := he2
      by_cases hlev : 0 < s.lev
      · rw [(h.W.j.t.back_pre hlev).1] at he3
        have := (pre_mem.1 he3).2
        omega
      · have := h.W.j.t.mono.2 e (back_mem he3)
        omega
    · obtain ⟨q1, g', q2, q3⟩ := q
      have r := q3.out
      rw [hf] at r q2
      obtain ⟨a1, a2, a3⟩ := iv.anx h.W.j.t h.W.j.n (by omega) he r
      exact ⟨q1, g', _, q2, hid ⟨a1, a3, a2, r.su⟩⟩
end

theorem more_K {n L : Nat} (hn : n ≤ 30) (hL : L ≤ 60) : L + (3000 * (3 * n + 9) + (n + 1)) * (n * (L + 3000) + 2) ≤ 250000000000 := by
  have a1 : 3000 * (3 * n + 9) + (n + 1) ≤ 297031 := by omega
  have a2 : n * (L + 3000) ≤ 30 * 3060 := Nat.mul_le_mul hn (by omega)
  have a3 : n * (L + 3000) + 2 ≤ 91802 := Nat.add_le_add_right a2 2
  have := Nat.mul_le_mul a1 a3
  omega

section
variable {w : World} {a : Option Addr} {len cap : Nat} {z : List (List Int)}

/-- What is asked of an answer here. -/
structure Ans (n : Nat) (z : List (List Int)) (st : Int) : Prop where
  yes : st = 1 → ∃ B, ∀ c ∈ z, U.holdsF c n B = true
  no : st = 2 → ∀ B, ¬ ∀ c ∈ z, U.holdsF c n B = true

theorem sol_3000 {n : Nat} (hg : U.Grid w a len cap z) (hc : U.chkF n z = 0) (hz : z.length ≤ 60) (hs : ∀ c ∈ z, c.length ≤ 40) (hn : n ≤ 30) :
    Calls Tryz.prog 9 #[.int .i64 n, .slice a len cap, .int .i64 3000] w fun e w' => ∃ (st : Int) (a1 : Option Addr) (n1 c1 : Nat) (cf : Int) (a3 : Option Addr) (n3 c3 : Nat), e = .returned (.tuple #[.agg #[.int .i64 st, .slice a1 n1 c1, .int .i64 cf, .slice a3 n3 c3], .int .i64 0]) ∧ Hid (Below w.heap.size w w') ∧ Hid (Ans n z st) := by
  obtain ⟨m, hm, hx⟩ := chk_parts hc
  have hmn : n = m := by omega
  subst hmn
  have hl := hg.1
  refine (solve_good (al := false) (bud := 3000) a len cap hg hc (fun c hc => ⟨by have := hs c hc; omega, hx c hc⟩) (by omega) (by omega) (by omega) (more_K hn hz) (fun c w0 _ _ h3 => anew_any h3 (by omega) (by omega))).mono fun e w' h => ?_
  obtain ⟨r, rfl, h⟩ := h
  rcases h with ⟨tb, cf, tr, rfl, hb, ht, hm⟩ | ⟨pa, k, cp, cf, P, rfl, hb, hgr, hp⟩ | ⟨P, rfl, hb, hp⟩
  · exact ⟨_, _, _, _, _, _, _, _, rfl, hb, hid ⟨fun _ => ⟨_, model_holds hm.out.1 hm.out.2.2⟩, fun q => by omega⟩⟩
  · exact ⟨_, _, _, _, _, _, _, _, rfl, hb, hid ⟨fun q => by omega, fun _ B hB => fin_none hp.out.2.2.1 hp.out.2.2.2 hB⟩⟩
  · exact ⟨_, _, _, _, _, _, _, _, rfl, hb, hid ⟨fun q => by omega, fun q => by omega⟩⟩

theorem ans_two {n : Nat} {z y : List (List Int)} {sa sb : Int} (h1 : Ans n z sa) (h2 : Ans n ([] ++ z ++ y) sb) : (sa == 2) = false ∨ sa = 2 ∧ (sb == 1) = false := by
  by_cases h : sa = 2
  · refine .inr ⟨h, beq_eq_false_iff_ne.2 fun h3 => ?_⟩
    obtain ⟨B, hB⟩ := h2.yes h3
    exact h1.no h B (fun c hc => hB c (by simp; exact .inl hc))
  · exact .inl (beq_eq_false_iff_ne.2 h)

theorem chk_less {n : Nat} {z y : List (List Int)} (h : U.chkF n (z ++ y) = 0) : U.chkF n z = 0 := by
  have h1 : ¬ ((n : Int) < 0 ∨ 1048576 < (n : Int)) := fun q => by rw [U.chk_low _ q] at h; omega
  have h2 : ¬ 1048576 < (z ++ y).length := fun q => by rw [U.chk_many (by omega) (by omega) q] at h; omega
  have h3 : U.badG n (z ++ y) = false := by
    cases q : U.badG n (z ++ y)
    · rfl
    · rw [U.chk_bad (by omega) (by omega) h2 q] at h; omega
  rw [List.length_append] at h2
  refine U.chk_good (by omega) (by omega) (by omega) ?_
  unfold U.badG at h3 ⊢
  rw [List.any_append, Bool.or_eq_false_iff] at h3
  exact h3.1

theorem ownG_nil (w : World) : OwnG w (w.alloc (.cells #[] 42)) (.slice (some ⟨w.heap.size, 0, none⟩) 0 0) [] :=
  ⟨[], ⟨rfl, .inr ⟨w.heap.size, 0, #[], rfl, Nat.le_refl _, new_same w _, Nat.le_refl _, by unfold maxLen; omega, rfl, rfl⟩⟩, rfl, fun j hj => by simp at hj⟩

set_option maxRecDepth 20000 in
set_option maxHeartbeats 8000000 in
theorem more_walk {a2 : Option Addr} {len2 cap2 : Nat} {y : List (List Int)} (vars : Int) (hg : U.Grid w a len cap z) (hg2 : U.Grid w a2 len2 cap2 y) (wv : -9223372036854775808 ≤ vars ∧ vars ≤ 9223372036854775807) :
    Calls Tryz.prog 5 #[.int .i64 vars, .slice a len cap, .slice a2 len2 cap2] w fun e w' => e = .returned (.bool true) ∧ Below w.heap.size w w' := by
  have HG := hid hg
  have HG2 := hid hg2
  clear hg hg2
  by_cases hf : U.fewF z 40 = 0
  · have HF := hid hf
    clear hf
    go_enter Tryz.func5, Tryz.ntmps5
    go_wp2_with (first
      | (go_at_call 7; with_reducible (refine (U.few_any _ _ _ _ _ _ HG.out).mono ?_); rw [HF.out]; rintro e w1 ⟨rfl, rfl⟩)
      | (go_at_call 8; with_reducible (refine (awake_is _).mono ?_); rintro e w2 ⟨rfl, b2⟩))
    go_ret
    exact ⟨rfl, b2.out⟩
  · obtain ⟨fz, hfz⟩ : ∃ fz, U.fewF z 40 = fz := ⟨_, rfl⟩
    have HFN := hid (few_parts (m := 40) hf)
    rw [hfz] at hf
    have hf0 : (fz == 0) = false := by rw [beq_eq_false_iff_ne]; exact hf
    have HF := hid hfz
    clear hfz
    by_cases hf2 : U.fewF y 20 = 0
    · have HF2 := hid hf2
      clear hf2
      go_enter Tryz.func5, Tryz.ntmps5
      go_wp2_with (first
        | (go_at_call 7; with_reducible (refine (U.few_any _ _ _ _ _ _ HG.out).mono ?_); rw [HF.out]; rintro e w1 ⟨rfl, rfl⟩)
        | (go_at_call 7; with_reducible (refine (U.few_any _ _ _ _ _ _ HG2.out).mono ?_); rw [HF2.out]; rintro e w1 ⟨rfl, rfl⟩)
        | (go_at_call 8; with_reducible (refine (awake_is _).mono ?_); rintro e w2 ⟨rfl, b2⟩))
      go_ret
      exact ⟨rfl, b2.out⟩
    · obtain ⟨fy, hfy⟩ : ∃ fy, U.fewF y 20 = fy := ⟨_, rfl⟩
      have HFN2 := hid (few_parts (m := 20) hf2)
      rw [hfy] at hf2
      have hf20 : (fy == 0) = false := by rw [beq_eq_false_iff_ne]; exact hf2
      have HF2 := hid hfy
      clear hfy
      by_cases hv0 : vars < 0
      · go_enter Tryz.func5, Tryz.ntmps5
        go_wp2_with (first
          | (go_at_call 7; with_reducible (refine (U.few_any _ _ _ _ _ _ HG.out).mono ?_); rw [HF.out]; rintro e w1 ⟨rfl, rfl⟩)
          | (go_at_call 7; with_reducible (refine (U.few_any _ _ _ _ _ _ HG2.out).mono ?_); rw [HF2.out]; rintro e w1 ⟨rfl, rfl⟩)
          | (go_at_call 8; with_reducible (refine (awake_is _).mono ?_); rintro e w2 ⟨rfl, b2⟩))
        go_ret
        exact ⟨rfl, b2.out⟩
      · by_cases hv : 30 < vars
        · go_enter Tryz.func5, Tryz.ntmps5
          go_wp2_with (first
            | (go_at_call 7; with_reducible (refine (U.few_any _ _ _ _ _ _ HG.out).mono ?_); rw [HF.out]; rintro e w1 ⟨rfl, rfl⟩)
            | (go_at_call 7; with_reducible (refine (U.few_any _ _ _ _ _ _ HG2.out).mono ?_); rw [HF2.out]; rintro e w1 ⟨rfl, rfl⟩)
            | (go_at_call 8; with_reducible (refine (awake_is _).mono ?_); rintro e w2 ⟨rfl, b2⟩))
          go_ret
          exact ⟨rfl, b2.out⟩
        · obtain ⟨n, rfl⟩ : ∃ n : Nat, vars = n := ⟨vars.toNat, by omega⟩
          have hn30 : n ≤ 30 := by omega
          have hl1 : len ≤ 1000 := by have := HFN.out.1; have := HG.out.1; omega
          have hl2 : len2 ≤ 1000 := by have := HFN2.out.1; have := HG2.out.1; omega
          have hzl : ([] ++ z : List (List Int)).length ≤ 1000 := by have := HFN.out.1; simp; omega
          have BA := hid (alloc_below w (.cells #[] 42))
          have O0 := hid (ownG_nil w)
          obtain ⟨ck, hck⟩ : ∃ ck, U.chkF n (([] ++ z) ++ y) = ck := ⟨_, rfl⟩
          have HC := hid hck
          clear hck
          by_cases hc : ck = 0
          · subst hc
            have HCZ : Hid (U.chkF n z = 0) := hid (chk_less (z := z) (y := y) HC.out)
            have HZ1 : Hid (z.length ≤ 60) := hid (by have := HFN.out.1; omega)
            have HZ2 : Hid ((([] ++ z) ++ y : List (List Int)).length ≤ 60) := hid (by have := HFN.out.1; have := HFN2.out.1; simp; omega)
            have HS2 : Hid (∀ c ∈ (([] ++ z) ++ y : List (List Int)), c.length ≤ 40) := hid (fun c hc => by
              simp at hc
              rcases hc with hc | hc
              · exact HFN.out.2 c hc
              · exact HFN2.out.2 c hc)
            go_enter Tryz.func5, Tryz.ntmps5
            go_wp2_with (first
              | (go_at_call 7; with_reducible (refine (U.few_any _ _ _ _ _ _ HG.out).mono ?_); rw [HF.out]; rintro e w1 ⟨rfl, rfl⟩)
              | (go_at_call 7; with_reducible (refine (U.few_any _ _ _ _ _ _ HG2.out).mono ?_); rw [HF2.out]; rintro e w1 ⟨rfl, rfl⟩)
              | (at_builtin; refine cat_grid rfl (.tmp 29) (.tmp 30) rfl _ [] z rfl O0.out BA.out _ _ _ rfl HG.out (by simp) hl1 ?_; intro v1 w1 own1 b1)
              | (at_builtin; refine cat_grid rfl (.tmp 31) (.tmp 32) rfl _ ([] ++ z) y rfl own1.out b1.out _ _ _ rfl HG2.out hzl hl2 ?_; intro v2 w2 own2 b2; obtain ⟨ao, gl, gc, rfl, gn, gg⟩ := own2.out.grid b2.out; have HGz := hid (HG.out.keep b2.out))
              | (go_at_call 10; with_reducible (refine (U.rcheck_any _ _ _ _ _ _ gg.out).mono ?_); rw [HC.out]; rintro e w3 ⟨rfl, rfl⟩)
              | (go_at_call 9; with_reducible (refine (sol_3000 HGz.out HCZ.out HZ1.out HFN.out.2 hn30).mono ?_); rintro e w4 ⟨sa, a1, n1, c1, cfa, a3, n3, c3, rfl, b4, A1⟩; have gg2 := hid (gg.out.keep (Below.next b4.out (alloc_below w4 (.cells #[.int .i64 sa, .slice a1 n1 c1, .int .i64 cfa, .slice a3 n3 c3] 27)))))
              | (go_at_call 9; with_reducible (refine (sol_3000 gg2.out HC.out HZ2.out HS2.out hn30).mono ?_); rintro e w5 ⟨sb, d1, m1, k1, cfb, d3, m3, k3, rfl, b5, A2⟩; have z1 : (w5.alloc (.cells #[.int .i64 sb, .slice d1 m1 k1, .int .i64 cfb, .slice d3 m3 k3] 27)).cell? ⟨w4.heap.size, 0, none⟩ = some (.int .i64 sa) := cell_of (old_blk (Below.next b5.out (alloc_below w5 (.cells #[.int .i64 sb, .slice d1 m1 k1, .int .i64 cfb, .slice d3 m3 k3] 27))) (new_same w4 (.cells #[.int .i64 sa, .slice a1 n1 c1, .int .i64 cfa, .slice a3 n3 c3] 27))); rcases ans_two A1.out A2.out with h4 | ⟨rfl, h4⟩)
              | (go_at_call 8; with_reducible (refine (awake_is _).mono ?_); rintro e w6 ⟨rfl, b6⟩))
            all_goals
              go_ret
              exact ⟨rfl, Below.next (Below.next (Below.next (Below.next (Below.next b2.out b4.out) (alloc_below _ _)) b5.out) (alloc_below _ _)) b6.out⟩
          · have hc0 : (ck == 0) = false := by rw [beq_eq_false_iff_ne]; exact hc
            go_enter Tryz.func5, Tryz.ntmps5
            go_wp2_with (first
              | (go_at_call 7; with_reducible (refine (U.few_any _ _ _ _ _ _ HG.out).mono ?_); rw [HF.out]; rintro e w1 ⟨rfl, rfl⟩)
              | (go_at_call 7; with_reducible (refine (U.few_any _ _ _ _ _ _ HG2.out).mono ?_); rw [HF2.out]; rintro e w1 ⟨rfl, rfl⟩)
              | (at_builtin; refine cat_grid rfl (.tmp 29) (.tmp 30) rfl _ [] z rfl O0.out BA.out _ _ _ rfl HG.out (by simp) hl1 ?_; intro v1 w1 own1 b1)
              | (at_builtin; refine cat_grid rfl (.tmp 31) (.tmp 32) rfl _ ([] ++ z) y rfl own1.out b1.out _ _ _ rfl HG2.out hzl hl2 ?_; intro v2 w2 own2 b2; obtain ⟨ao, gl, gc, rfl, gn, gg⟩ := own2.out.grid b2.out)
              | (go_at_call 10; with_reducible (refine (U.rcheck_any _ _ _ _ _ _ gg.out).mono ?_); rw [HC.out]; rintro e w3 ⟨rfl, rfl⟩)
              | (go_at_call 8; with_reducible (refine (awake_is _).mono ?_); rintro e w6 ⟨rfl, b6⟩))
            go_ret
            exact ⟨rfl, Below.next b2.out b6.out⟩
end
end Go.Proofs.YtimfjoinjfecjaaGreat
