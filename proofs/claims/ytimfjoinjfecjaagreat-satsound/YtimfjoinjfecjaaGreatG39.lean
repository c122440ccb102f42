/-
  sat.
  search: what is told of clauses.
  search: the walk.
-/
import Derived.Test.YtimfjoinjfecjaaGreatG33
import Derived.Test.YtimfjoinjfecjaaGreatG38

namespace Go.Proofs.YtimfjoinjfecjaaGreat
open Go.RowKit Go.Maps
set_option linter.unusedVariables false
section
variable {c : SC} {w0 w w' : World} {g g' : G} {s s' : SS} {m m' : MV}

set_option maxRecDepth 20000 in
set_option maxHeartbeats 2000000 in
theorem sat_is (h : Sm c w0 g s m w) : Calls Tryz.prog 37 #[.pointer (some ⟨c.SB, 0, none⟩)] w fun e w' => ∃ tb, e = .returned (.agg #[.int .i64 1, .slice (some ⟨tb, 0, none⟩) c.kw.n c.kw.n, .int .i64 s.cf, .slice none 0 0]) ∧ Hid (Below w0.heap.size w0 w') ∧ Hid (w'.heap[tb]? = some (.cells ((ktF s (-1)).tr.map Value.bool).toArray 4 (0, 0))) ∧ Hid ((ktF s (-1)).tr.length = c.kw.n) ∧ Hid (∀ j, j < w.heap.size → m.ow j = 9 → w'.heap[j]? = w.heap[j]? ∧ j ≠ tb) := by
  have hal : Below w.heap.size w (w.alloc (.cells #[.int .i64 0, .slice none 0 0, .int .i64 0, .slice none 0 0] 27)) := by go_grown
  have hz := h.fresh hal (fun j => decide (j = w.heap.size)) (fun j hj _ _ => ⟨27, by cases of_decide_eq_true hj; exact ⟨_, _, new_same w _⟩, by simp [Wt]⟩)
  obtain ⟨h1, k1⟩ := hz
  have HK := hid (keep_s h1 (-1))
  have hrb : Hid ((w.alloc (.cells #[.int .i64 0, .slice none 0 0, .int .i64 0, .slice none 0 0] 27)).heap[w.heap.size]? = some (.cells #[.int .i64 0, .slice none 0 0, .int .i64 0, .slice none 0 0] 27)) := hid (new_same w _)
  have hw0 : w0.heap.size ≤ w.heap.size := h.b0.size
  obtain ⟨cf, hcf⟩ : ∃ cf, s.cf = cf := ⟨_, rfl⟩
  have HCF : Hid ((ktF s (-1)).cf = cf) := hid hcf
  have OW : Hid (owZ m.ow w.heap.size (fun j => decide (j = w.heap.size)) w.heap.size = 0) := hid (owZ_new (Nat.le_refl _) (by simp))
  have ZZ : Hid (∀ j, j < w.heap.size → m.ow j = 9 → owZ m.ow w.heap.size (fun j => decide (j = w.heap.size)) j = 9 ∧ (w.alloc (.cells #[.int .i64 0, .slice none 0 0, .int .i64 0, .slice none 0 0] 27)).heap[j]? = w.heap[j]?) := hid (fun j hj e => ⟨by rw [owZ_old hj]; exact e, hal.block j hj⟩)
  have HAS := hid hal.size
  clear h k1 h1 hal
  go_enter Tryz.func37, Tryz.ntmps37
  go_upto_region 2 with (first
    | (go_at_call 63; with_reducible (refine HK.out.mono ?_); rintro e w2 ⟨rfl, n2⟩; have n3 := Nx.out n2; obtain ⟨m2, h2, k2⟩ := n3))
  have hr7 : w2.heap[w.heap.size]? = some (.cells #[.int .i64 0, .slice none 0 0, .int .i64 0, .slice none 0 0] 27) := ((k2.out.zz _ (blk_lt hrb.out) (.inl OW.out)).1).trans hrb.out
  have c10 := h2.out.c10
  have c12 := h2.out.c12
  rw [HCF.out] at c12
  have z0 : w2.cell? ⟨w.heap.size, 0, none⟩ = some (.int .i64 0) := cell_of hr7
  have z1 : w2.cell? ⟨w.heap.size, 1, none⟩ = some (.slice none 0 0) := cell_of hr7
  have z2 : w2.cell? ⟨w.heap.size, 2, none⟩ = some (.int .i64 0) := cell_of hr7
  have z3 : w2.cell? ⟨w.heap.size, 3, none⟩ = some (.slice none 0 0) := cell_of hr7
  have y0 : w2.frozen? ⟨w.heap.size, 0, none⟩ = false := frozen_of hr7
  have y1 : w2.frozen? ⟨w.heap.size, 1, none⟩ = false := frozen_of hr7
  have y2 : w2.frozen? ⟨w.heap.size, 2, none⟩ = false := frozen_of hr7
  have y3 : w2.frozen? ⟨w.heap.size, 3, none⟩ = false := frozen_of hr7
  have h8 : (((((w2.setCell ⟨w.heap.size, 0, none⟩ (.int .i64 1)).setCell ⟨w.heap.size, 1, none⟩ (.slice (some ⟨m2.tb, 0, none⟩) c.kw.n c.kw.n)).setCell ⟨w.heap.size, 2, none⟩ (.int .i64 cf)).setCell ⟨w.heap.size, 3, none⟩ (.slice none 0 0)).drew).heap[w.heap.size]? = some (.cells #[.int .i64 1, .slice (some ⟨m2.tb, 0, none⟩) c.kw.n c.kw.n, .int .i64 cf, .slice none 0 0] 27 (0, 0)) := (set_same (set_same (set_same (set_same hr7 _) _) _) _).trans rfl
  have H8 := hid h8
  have hne : m2.tb ≠ w.heap.size := fun e => by
    have t1 : Typ w2 m2.tb 4 := ⟨_, _, h2.out.tr.1⟩
    rw [e] at t1
    have t2 : Typ w2 w.heap.size 27 := ⟨_, _, hr7⟩
    exact absurd (t1.one t2) (by decide)
  have HT : Hid ((((((w2.setCell ⟨w.heap.size, 0, none⟩ (.int .i64 1)).setCell ⟨w.heap.size, 1, none⟩ (.slice (some ⟨m2.tb, 0, none⟩) c.kw.n c.kw.n)).setCell ⟨w.heap.size, 2, none⟩ (.int .i64 cf)).setCell ⟨w.heap.size, 3, none⟩ (.slice none 0 0)).drew).heap[m2.tb]? = some (.cells ((ktF s (-1)).tr.map Value.bool).toArray 4 (0, 0))) := hid (by
    show ((((w2.setCell _ _).setCell _ _).setCell _ _).setCell _ _).heap[m2.tb]? = _
    rw [set_other _ hne, set_other _ hne, set_other _ hne, set_other _ hne]; exact h2.out.tr.1)
  have HB : Hid (Below w0.heap.size w0 (((((w2.setCell ⟨w.heap.size, 0, none⟩ (.int .i64 1)).setCell ⟨w.heap.size, 1, none⟩ (.slice (some ⟨m2.tb, 0, none⟩) c.kw.n c.kw.n)).setCell ⟨w.heap.size, 2, none⟩ (.int .i64 cf)).setCell ⟨w.heap.size, 3, none⟩ (.slice none 0 0)).drew)) := hid (by
    have b := below_set (a := ⟨w.heap.size, 3, none⟩) (v := .slice none 0 0) (below_set (a := ⟨w.heap.size, 2, none⟩) (v := .int .i64 cf) (below_set (a := ⟨w.heap.size, 1, none⟩) (v := .slice (some ⟨m2.tb, 0, none⟩) c.kw.n c.kw.n) (below_set (a := ⟨w.heap.size, 0, none⟩) (v := .int .i64 1) h2.out.b0 hw0) hw0) hw0) hw0
    exact b.trans ((below_drew _).mono b.size))
  have HN := hid h2.out.tr.2
  have H9 : Hid (∀ j, j < w.heap.size → m.ow j = 9 → (((((w2.setCell ⟨w.heap.size, 0, none⟩ (.int .i64 1)).setCell ⟨w.heap.size, 1, none⟩ (.slice (some ⟨m2.tb, 0, none⟩) c.kw.n c.kw.n)).setCell ⟨w.heap.size, 2, none⟩ (.int .i64 cf)).setCell ⟨w.heap.size, 3, none⟩ (.slice none 0 0)).drew).heap[j]? = w.heap[j]? ∧ j ≠ m2.tb) := hid (fun j hj e => by
    obtain ⟨z1, z2⟩ := ZZ.out j hj e
    obtain ⟨z3, z4⟩ := k2.out.zz j (Nat.lt_of_lt_of_le hj HAS.out) (.inr z1)
    have hne2 : j ≠ w.heap.size := by omega
    refine ⟨?_, fun q => ?_⟩
    · show ((((w2.setCell _ _).setCell _ _).setCell _ _).setCell _ _).heap[j]? = _
      rw [set_other _ hne2, set_other _ hne2, set_other _ hne2, set_other _ hne2, z3, z2]
    · have := h2.out.t.tb
      rw [← q, z4] at this
      have z5 : owZ m.ow w.heap.size (fun j => decide (j = w.heap.size)) j = 7 := this
      omega)
  clear h8 hr7 hne
  go_region
  all_goals
    generalize hW8 : ((((w2.setCell ⟨w.heap.size, 0, none⟩ (.int .i64 1)).setCell ⟨w.heap.size, 1, none⟩ (.slice (some ⟨m2.tb, 0, none⟩) c.kw.n c.kw.n)).setCell ⟨w.heap.size, 2, none⟩ (.int .i64 cf)).setCell ⟨w.heap.size, 3, none⟩ (.slice none 0 0)).drew = w8 at *
    clear hW8 z0 z1 z2 z3 y0 y1 y2 y3
    have r0 : w8.cell? ⟨w.heap.size, 0, none⟩ = some (.int .i64 1) := cell_of H8.out
    have r1 : w8.cell? ⟨w.heap.size, 1, none⟩ = some (.slice (some ⟨m2.tb, 0, none⟩) c.kw.n c.kw.n) := cell_of H8.out
    have r2 : w8.cell? ⟨w.heap.size, 2, none⟩ = some (.int .i64 cf) := cell_of H8.out
    have r3 : w8.cell? ⟨w.heap.size, 3, none⟩ = some (.slice none 0 0) := cell_of H8.out
  all_goals go_wp2
  all_goals (try simp only [Exit.inBlock, Exit.then])
  all_goals refine bodyPost_ret (by simp [results, Tryz.results37, go_sem, r0, r1, r2, r3]; try rfl) rfl ?_
  all_goals rw [hcf]
  all_goals exact ⟨m2.tb, rfl, HB, HT, HN, H9⟩
end
end Go.Proofs.YtimfjoinjfecjaaGreat

namespace Go.Proofs.YtimfjoinjfecjaaGreat
open Go.RowKit Go.Maps
set_option linter.unusedVariables false

/-- How far it is to the end, as a number. -/
def muN (n bud cf en len : Nat) : Nat := (bud - cf) * (3 * n + 9) + (if en ≤ cf then n + 2 else 0) + (n + 1 - len)
def muF (n bud : Nat) (s : SS) : Nat := muN n bud s.cf s.en s.L.length
def lenOf (c : SC) (w : World) : Nat := match w.cell? ⟨c.k.OB, 1, none⟩ with
  | some (.slice _ n _) => n
  | _ => 0
def muW (c : SC) (n bud : Nat) (w : World) : Nat := muN n bud (numOf c 12 w) (numOf c 14 w) (lenOf c w)

theorem mu_learn {n bud cf en len en' len' : Nat} (h : cf < bud) : muN n bud (cf + 1) en' len' < muN n bud cf en len := by
  unfold muN
  obtain ⟨d, hd⟩ : ∃ d, bud - cf = d + 1 := ⟨bud - cf - 1, by omega⟩
  have hd2 : bud - (cf + 1) = d := by omega
  have e : (d + 1) * (3 * n + 9) = d * (3 * n + 9) + (3 * n + 9) := Nat.succ_mul _ _
  rw [hd, hd2, e]
  generalize d * (3 * n + 9) = q
  split <;> split <;> omega
theorem mu_anew {n bud cf en len en' len' : Nat} (h : en ≤ cf) (h2 : cf < en') : muN n bud cf en' len' < muN n bud cf en len := by
  unfold muN
  rw [if_pos h, if_neg (by omega)]
  omega
theorem mu_dec {n bud cf en len len' : Nat} (h : len < len') (h2 : len' ≤ n) : muN n bud cf en len' < muN n bud cf en len := by
  unfold muN
  omega

/-- What all that was learned is. -/
structure Fin (al : Bool) (n : Nat) (l P : List (List Int)) : Prop where
  ok : ∀ (i : Nat) (c : List Int), P[i]? = some c → Lc n (l ++ P.take i) c
  ds : al = true → ∀ (i j : Nat) (c d : List Int), i < j → l.length ≤ j → (l ++ P)[i]? = some c → (l ++ P)[j]? = some d → ¬ Sames c d

theorem Iv.fin {al : Bool} {n : Nat} {l : List (List Int)} {s : SS} {g : G} (iv : Iv al n l s g) : Fin al n l s.prf := by
  refine ⟨iv.ok, fun ha i j c d hij hj hi hj2 => iv.ds i j c d hij hj hi hj2 (iv.ng ha i ?_)⟩
  have := (List.getElem?_eq_some_iff.1 hi).1
  rw [List.length_append] at this
  rw [iv.nx]; exact this

/-- What search tells. -/
def SEnd (al : Bool) (n : Nat) (l : List (List Int)) (bud : Nat) (w0 : World) (e : Ending) (w' : World) : Prop :=
  (∃ (tb cf : Nat) (tr : List Bool), e = .returned (.agg #[.int .i64 1, .slice (some ⟨tb, 0, none⟩) n n, .int .i64 cf, .slice none 0 0]) ∧ Hid (Below w0.heap.size w0 w') ∧ Hid (w'.heap[tb]? = some (.cells (tr.map Value.bool).toArray 4 (0, 0))) ∧ Hid (tr.length = n ∧ cf ≤ bud ∧ ∀ c ∈ l, ∃ x ∈ c, tr[vl x]? = some (!decide (x % 2 = 1)) ∧ 0 ≤ x)) ∨
  (∃ (v : Value) (F : Nat → Prop) (s : SS), e = .returned (.agg #[.int .i64 2, .slice none 0 0, .int .i64 s.cf, v]) ∧ Hid (UnsEnd F w0 s v w') ∧ Hid (s.cf = s.prf.length ∧ s.cf ≤ bud ∧ Fin al n l s.prf ∧ U.Stp (l ++ s.prf) [])) ∨
  (∃ P : List (List Int), e = .returned (.agg #[.int .i64 0, .slice none 0 0, .int .i64 bud, .slice none 0 0]) ∧ Hid (Below w0.heap.size w0 w') ∧ Hid (P.length = bud ∧ Fin al n l P))

section
variable {c : SC} {w0 w w' : World} {g g' : G} {s s' : SS} {m m' : MV}

theorem num_cf (h : Sm c w0 g s m w) : numOf c 12 w = s.cf := by unfold numOf; rw [h.c12]; simp
theorem num_en (h : Sm c w0 g s m w) : numOf c 14 w = s.en := by unfold numOf; rw [h.c14]; simp
theorem len_of (h : Sm c w0 g s m w) : lenOf c w = s.L.length := by
  obtain ⟨F, S, r, q, _⟩ := h.W.j.t
  obtain ⟨ao, cp, e, _⟩ := r.rl.shape
  unfold lenOf
  rw [show w.cell? ⟨c.k.OB, 1, none⟩ = some m.p.l from cell_of r.cl, e, litsF_len]
theorem mu_of (h : Sm c w0 g s m w) (n bud : Nat) : muW c n bud w = muF n bud s := by
  unfold muW muF
  rw [num_cf h, num_en h, len_of h]

/-- Run, of a solver. -/
theorem srun (h : Sm c w0 g s m w) (hnx : g.nx ≤ 1000000) (hsu : tot c.kw.n g + c.kw.n * g.nx ≤ 300000000000) :
    Calls Tryz.prog 31 #[.pointer (some ⟨c.kw.OB, 0, none⟩), .pointer (some ⟨c.k.OB, 0, none⟩)] w fun e w' => ∃ i ok g' L' m', e = .returned (.tuple #[.int .i64 i, .bool ok]) ∧ Hid (RunV g g' L' i ok) ∧ Hid (Sm c w0 g' (upW s L' s.lev (litsF L')) m' w') ∧ Hid (Kp w0 w m.ow w' m'.ow) ∧ Hid (Sm0 g g' ∧ tot c.kw.n g' ≤ tot c.kw.n g + (c.kw.n * g.nx + 1)) ∧ Hid (Ext s.L L' s.lev) := by
  refine (run_one h.W hnx hsu).mono fun e w' q => ?_
  obtain ⟨i, ok, g', L', p', rfl, V, W, S, X, F⟩ := q
  have z := h.wa W.out F.out.1 (fun i hi hg j e h0 hs => h.t.ft j (.inr (.inr (.inl ⟨i, by rw [← S.out.1.nx]; exact hi, by rw [← S.out.1.gn]; exact hg, by rw [← S.out.1.lv]; exact e, by rw [← S.out.1.lt]; exact h0⟩)))) (fun h0 j e hs => h.t.ft j (.inl (F.out.1.new j hs (F.out.2 j e))))
  exact ⟨i, ok, g', L', _, rfl, V, hid z.1, hid z.2, S, X⟩

theorem zero_bad {al : Bool} {n : Nat} {l : List (List Int)} (iv : Iv al n l s g) (h : Sm c w0 g s m w) (hl : s.lev = 0) {i : Nat} (hi : i < g.nx) (hv : ∀ y ∈ g.lt i, valueF s.L y = -1) : U.Stp (l ++ s.prf) [] := by
  have t := h.W.j.t
  have cx := t.cx (iv.tl h.W.rs)
  refine .inr ⟨g.lt i, List.mem_of_getElem? (iv.lt i hi), fun y hy y0 => ?_⟩
  obtain ⟨_, _, q, hq⟩ := val_neg (L := s.L) (x := y) (by rw [hv y hy]; omega)
  obtain ⟨e, he, h1⟩ := lits_at.1 hq
  rw [← h1]
  exact der_zero cx _ q e he (by have := cx.top e (List.mem_of_getElem? he); omega)

/-- All that stands at the head of the loop. -/
structure Hd (al : Bool) (l : List (List Int)) (bud K0 : Nat) (c : SC) (g : G) (s : SS) : Prop where
  iv : Iv al c.kw.n l s g
  cf : s.cf ≤ bud
  bd : tot c.kw.n g + muF c.kw.n bud s * (c.kw.n * (l.length + bud) + 2) ≤ K0

/-- What a new round must do. -/
def Anew (al : Bool) (l : List (List Int)) (bud : Nat) (c : SC) (w0 : World) : Prop := ∀ g s m w, Sm c w0 g s m w → Iv al c.kw.n l s g → s.en ≤ s.cf → s.cf ≤ bud →
  Calls Tryz.prog 35 #[.pointer (some ⟨c.SB, 0, none⟩)] w fun e w' => e = .returned (.tuple #[]) ∧ ∃ g' s', Hid (Nx c w0 w m g' s' w') ∧ Hid (Iv al c.kw.n l s' g' ∧ s'.cf = s.cf ∧ s'.cf < s'.en ∧ tot c.kw.n g' ≤ tot c.kw.n g)

section
variable {al : Bool} {l : List (List Int)} {bud K0 : Nat}

theorem Hd.nx (h : Hd al l bud K0 c g s) (hN : l.length + bud ≤ 20000) : g.nx ≤ l.length + bud ∧ g.nx ≤ 1000000 := by
  have h1 := h.iv.nx
  have h2 := h.iv.cf
  have h3 := h.cf
  omega

theorem Hd.su (h : Hd al l bud K0 c g s) (hN : l.length + bud ≤ 20000) (hn : c.kw.n ≤ 900) (hK : K0 ≤ 250000000000) : tot c.kw.n g + c.kw.n * g.nx ≤ 300000000000 := by
  have h1 := (h.nx hN).1
  have h2 : c.kw.n * g.nx ≤ 900 * 20000 := Nat.mul_le_mul hn (by omega)
  have h3 := h.bd
  omega

theorem mul_next {a b x y z M : Nat} (h : a < b) (hx : x + b * M ≤ z) (hy : y ≤ x + M) : y + a * M ≤ z := by
  have : (a + 1) * M ≤ b * M := Nat.mul_le_mul_right _ h
  rw [Nat.succ_mul] at this
  omega

theorem run_grow (h : Hd al l bud K0 c g s) (hN : l.length + bud ≤ 20000) (ht : tot c.kw.n g' ≤ tot c.kw.n g + (c.kw.n * g.nx + 1)) : tot c.kw.n g' + 1 ≤ tot c.kw.n g + (c.kw.n * (l.length + bud) + 2) := by
  have h1 : c.kw.n * g.nx ≤ c.kw.n * (l.length + bud) := Nat.mul_le_mul_left _ (h.nx hN).1
  omega
end
end
end Go.Proofs.YtimfjoinjfecjaaGreat

namespace Go.Proofs.YtimfjoinjfecjaaGreat
open Go.RowKit Go.Maps
set_option linter.unusedVariables false

section
variable {c : SC} {w0 w w' : World} {g g' : G} {s s' : SS} {m m' : MV} {al : Bool} {l : List (List Int)} {bud K0 : Nat}

/-- A decision behind Run. -/
theorem Hd.dec {wz w7 : World} {g2 : G} {s2 s7 : SS} {m2 m7 : MV} (h1 : Hd al l bud K0 c g s) (hN : l.length + bud ≤ 20000) (h2 : Sm c w0 g2 s2 m2 wz) (h7 : Sm c w0 g2 s7 m7 w7) (iv : Iv al c.kw.n l s2 g2) (hcl : Closed g2 s2.L) (ht : tot c.kw.n g2 ≤ tot c.kw.n g + (c.kw.n * g.nx + 1)) (e1 : s2.cf = s.cf) (e2 : s2.en = s.en) (e3 : s.L.length ≤ s2.L.length) (hD : decF c.kw.n (cntOf s2 + 1) s2 = (true, s7)) :
    Hd al l bud K0 c g2 s7 ∧ muF c.kw.n bud s7 < muF c.kw.n bud s := by
  obtain ⟨la, lw, _⟩ := h2.o.lens
  have hn := h2.hn
  obtain ⟨d, r⟩ := dec_is l (cntOf s2 + 1) s2 true s7 (by omega) (by omega) (by unfold cntOf; omega) hD
  rcases r with ⟨_, x, hx, eL, eV⟩ | ⟨q, _⟩
  · have hmu : muF c.kw.n bud s7 < muF c.kw.n bud s := by
      unfold muF
      rw [d.cf, d.en, e1, e2]
      refine mu_dec (by rw [eL, List.length_append]; simp; omega) ?_
      have := h7.W.j.t.len
      have := h7.W.j.n
      omega
    refine ⟨⟨iv.dec h2.W.j.t.mono.2 hcl d eL eV, by rw [d.cf, e1]; exact h1.cf, ?_⟩, hmu⟩
    exact mul_next hmu h1.bd (by have := run_grow h1 hN ht; omega)
  · cases q

theorem Hd.anew {g2 g7 : G} {s7 : SS} (h1 : Hd al l bud K0 c g s) (hN : l.length + bud ≤ 20000) (iv : Iv al c.kw.n l s7 g7) (ht : tot c.kw.n g2 ≤ tot c.kw.n g + (c.kw.n * g.nx + 1)) (ht2 : tot c.kw.n g7 ≤ tot c.kw.n g2) (e1 : s7.cf = s.cf) (e2 : s7.cf < s7.en) (e3 : s.en ≤ s.cf) :
    Hd al l bud K0 c g7 s7 ∧ muF c.kw.n bud s7 < muF c.kw.n bud s := by
  have hmu : muF c.kw.n bud s7 < muF c.kw.n bud s := by
    unfold muF
    rw [e1]
    exact mu_anew e3 (by omega)
  exact ⟨⟨iv, by rw [e1]; exact h1.cf, mul_next hmu h1.bd (by have := run_grow h1 hN ht; omega)⟩, hmu⟩

theorem Hd.lrn {wz : World} {g2 g7 : G} {s2 : SS} {m2 : MV} {x : Nat} {s1 : PS} {es : List Int} {sz : Nat} {cn : Int} (h1 : Hd al l bud K0 c g s) (hN : l.length + bud ≤ 20000) (h2 : Sm c w0 g2 s2 m2 wz) (iv : Iv al c.kw.n l s2 g2) (ta : Tau c.kw.n l s2 g2 x s1) (hp : es.Perm s1.oth ∧ Fall s2.L es) (d : AddD c.kw.n sz g2 g7 (U.notF x :: es)) (ht : tot c.kw.n g2 ≤ tot c.kw.n g + (c.kw.n * g.nx + 1)) (e1 : s2.cf = s.cf) (hb : s.cf < bud) (hf : c.fst = l.length) :
    Hd al l bud K0 c g7 (lrnF c s2 cn (riseI (natI s1.met)) (U.notF x :: es) (backF s2.L es)) ∧ muF c.kw.n bud (lrnF c s2 cn (riseI (natI s1.met)) (U.notF x :: es) (backF s2.L es)) < muF c.kw.n bud s := by
  obtain ⟨b, lf, hes⟩ := ta.lf es hp.1 hp.2
  obtain ⟨la, lw, _⟩ := h2.o.lens
  have hn := h2.hn
  rw [lf.bk]
  have iv7 := iv.learn h2.W.j.t h2.W.j.n (by omega) lf hes c rfl hf cn (riseI (natI s1.met)) d
  have f7 := (lrnF_flds c s2 cn (riseI (natI s1.met)) (U.notF x :: es) b).2.2.2.2.2.2.1
  have hmu : muF c.kw.n bud (lrnF c s2 cn (riseI (natI s1.met)) (U.notF x :: es) b) < muF c.kw.n bud s := by
    unfold muF
    rw [f7, e1]
    exact mu_learn hb
  refine ⟨⟨iv7, by rw [f7, e1]; omega, mul_next hmu h1.bd ?_⟩, hmu⟩
  rw [d.su]
  have := run_grow h1 hN ht
  omega

theorem NxW.out {b : Bool} (h : Hid (NxW c w0 w m g s b w')) : ∃ s7 m7, Hid (decF c.kw.n (cntOf s + 1) s = (b, s7)) ∧ Hid (Sm c w0 g s7 m7 w') ∧ Hid (Kp w0 w m.ow w' m7.ow) := by
  obtain ⟨s7, h1, m7, h2, h3⟩ := h.out
  exact ⟨s7, m7, h1, h2, h3⟩
theorem run_true {g2 : G} {L2 : List E} {i : Int} (V : RunV g g2 L2 i true) : Closed g2 L2 := by
  rcases V with ⟨_, _, h⟩ | ⟨c, h, _⟩
  · exact h
  · cases h
theorem run_false {g2 : G} {L2 : List E} {i : Int} (V : RunV g g2 L2 i false) : ∃ j : Nat, i = j ∧ Hid (j < g.nx ∧ g.gn j = false ∧ ∀ y ∈ g.lt j, valueF L2 y = -1) := by
  rcases V with ⟨h, _⟩ | ⟨j, _, h1, h2, h3, h4⟩
  · cases h
  · exact ⟨j, h1, h2, h3, h4⟩

theorem res_blk {w : World} {r : Nat} {a b cc d a' b' cc' d' : Value} (h : w.heap[r]? = some (.cells #[a, b, cc, d] 27 (0, 0))) : ((((w.setCell ⟨r, 0, none⟩ a').setCell ⟨r, 1, none⟩ b').setCell ⟨r, 2, none⟩ cc').setCell ⟨r, 3, none⟩ d').heap[r]? = some (.cells #[a', b', cc', d'] 27 (0, 0)) := (set_same (set_same (set_same (set_same h _) _) _) _).trans rfl
theorem res_oth {w : World} {r j : Nat} {a' b' cc' d' : Value} (h : j ≠ r) : ((((w.setCell ⟨r, 0, none⟩ a').setCell ⟨r, 1, none⟩ b').setCell ⟨r, 2, none⟩ cc').setCell ⟨r, 3, none⟩ d').heap[j]? = w.heap[j]? := by
  rw [set_other _ h, set_other _ h, set_other _ h, set_other _ h]
theorem res_bel {w : World} {r : Nat} {a' b' cc' d' : Value} (b : Below w0.heap.size w0 w) (h : w0.heap.size ≤ r) : Below w0.heap.size w0 ((((w.setCell ⟨r, 0, none⟩ a').setCell ⟨r, 1, none⟩ b').setCell ⟨r, 2, none⟩ cc').setCell ⟨r, 3, none⟩ d') := below_set (below_set (below_set (below_set b h) h) h) h

/-- None is left to be decided: all clauses hold. -/
theorem sat_end {wz w7 : World} {g2 : G} {s2 s7 : SS} {m2 m7 : MV} (h2 : Sm c w0 g2 s2 m2 wz) (h7 : Sm c w0 g2 s7 m7 w7) (iv : Iv al c.kw.n l s2 g2) (hcl : Closed g2 s2.L) (hD : decF c.kw.n (cntOf s2 + 1) s2 = (false, s7)) : s7.cf = s2.cf ∧ ∀ d ∈ l, ∃ x ∈ d, (ktF s7 (-1)).tr[vl x]? = some (!decide (x % 2 = 1)) ∧ 0 ≤ x := by
  obtain ⟨la, lw, _⟩ := h2.o.lens
  have hn := h2.hn
  obtain ⟨d, r⟩ := dec_is l (cntOf s2 + 1) s2 false s7 (by omega) (by omega) (by unfold cntOf; omega) hD
  rcases r with ⟨q, _⟩ | ⟨_, eL, eV, h0⟩
  · cases q
  · refine ⟨d.cf, fun e he => ?_⟩
    obtain ⟨x, hx, hv⟩ := iv.holds hcl (d.wt iv.wt) eL h0 e he
    exact ⟨x, hx, model_at h7.W.j.t h7.W.j.n h7.tr.2 (by rw [eL]; exact hv)⟩

theorem uns_store {w : World} {F : Nat → Prop} {r : Nat} {v a' b' cc' d' : Value} (h : UnsEnd F w0 s v w) (hF : ¬ F r) (hr : w0.heap.size ≤ r) : UnsEnd F w0 s v ((((w.setCell ⟨r, 0, none⟩ a').setCell ⟨r, 1, none⟩ b').setCell ⟨r, 2, none⟩ cc').setCell ⟨r, 3, none⟩ d') :=
  ⟨res_bel h.b0 hr, h.fn, fun W hW => h.gr W (fun i hi => (hW i hi).trans (res_oth (fun e => hF (e ▸ hi))))⟩

set_option maxRecDepth 20000 in
set_option maxHeartbeats 8000000 in
theorem search_is (h : Sm c w0 g s m w) (hd : Hd al l bud K0 c g s) (hf : c.fst = l.length) (hn : c.kw.n ≤ 900) (hN : l.length + bud ≤ 20000) (hK : K0 ≤ 250000000000) (HA : Anew al l bud c w0) :
    Calls Tryz.prog 18 #[.pointer (some ⟨c.SB, 0, none⟩), .int .i64 (bud : Nat)] w fun e w' => SEnd al c.kw.n l bud w0 e w' := by
  have hal : Below w.heap.size w (w.alloc (.cells #[.int .i64 0, .slice none 0 0, .int .i64 0, .slice none 0 0] 27)) := by go_grown
  have hz := h.fresh9 hal (fun j => decide (j = w.heap.size)) (fun j hj _ _ => ⟨27, by cases of_decide_eq_true hj; exact ⟨_, _, new_same w _⟩, by simp [Wt]⟩)
  obtain ⟨h1, k1⟩ := hz
  have H1 := hid h1
  have HR : Hid ((w.alloc (.cells #[.int .i64 0, .slice none 0 0, .int .i64 0, .slice none 0 0] 27)).heap[w.heap.size]? = some (.cells #[.int .i64 0, .slice none 0 0, .int .i64 0, .slice none 0 0] 27 (0, 0))) := hid (new_same w _)
  have OW : Hid (owN m.ow w.heap.size (fun j => decide (j = w.heap.size)) w.heap.size = 9) := hid (owN_new (Nat.le_refl _) (by simp))
  have hw0 : w0.heap.size ≤ w.heap.size := h.b0.size
  have HHD := hid hd
  have HHA := hid HA
  clear h k1 h1 hal hd HA
  go_enter Tryz.func18, Tryz.ntmps18
  go_wp2
  generalize hw1 : w.alloc (.cells #[.int .i64 0, .slice none 0 0, .int .i64 0, .slice none 0 0] 27) = w1 at *
  generalize hrr : w.heap.size = r at *
  generalize how : owN m.ow r (fun j => decide (j = r)) = ow1 at *
  have hrl : r < w1.heap.size := blk_lt HR.out
  clear how hw1 hrr
  go_loopw [] (fun wr => ∃ (g1 : G) (s1 : SS) (m1 : MV), Hid (Sm c w0 g1 s1 m1 wr) ∧ Hid (Kp w0 w1 ow1 wr m1.ow) ∧ Hid (Hd al l bud K0 c g1 s1)) (fun wr => muW c c.kw.n bud wr)
  case atStart => exact ⟨g, s, _, H1, hid (Kp.refl _ _ _), HHD⟩
  case round =>
    clear H1 HHD
    obtain ⟨g1, s1, m1, h1, k1, hd1⟩ := hrel
    have NM := hid (mu_of h1.out c.kw.n bud)
    have c0 := h1.out.c0
    have c1 := h1.out.c1
    obtain ⟨mD, hD, kD⟩ := h1.out.xbelow (below_drew wr)
    have HD := hid hD
    have KD := hid (k1.out.trans kD)
    have hnx := hid (hd1.out.nx hN).2
    have hsu := hid (hd1.out.su hN hn hK)
    clear hD kD h1 k1
    go_upto_region 1 with fail
    go_cut [5, 6] from 7 to 19 (fun v5 v6 wz => ∃ (i : Int) (ok : Bool) (g2 : G) (L2 : List E) (m2 : MV), v5 = .int .i64 i ∧ v6 = .bool ok ∧ Hid (RunV g1 g2 L2 i ok) ∧ Hid (Sm c w0 g2 (upW s1 L2 s1.lev (litsF L2)) m2 wz) ∧ Hid (Kp w0 w1 ow1 wz m2.ow) ∧ Hid (Sm0 g1 g2 ∧ tot c.kw.n g2 ≤ tot c.kw.n g1 + (c.kw.n * g1.nx + 1)) ∧ Hid (Ext s1.L L2 s1.lev))
    case first =>
      go_region_with (first
        | (go_at_call 31; with_reducible (refine (srun HD.out hnx.out hsu.out).mono ?_); rintro e w5 ⟨i, ok, g2, L2, m2, rfl, V, S2, K2, T2, X2⟩))
      all_goals go_wp2
      all_goals go_meet
      all_goals exact ⟨i, ok, g2, L2, m2, rfl, rfl, V, S2, hid (KD.out.trans K2.out), T2, X2⟩
    case rest =>
      obtain ⟨i, ok, g2, L2, m2, rfl, rfl, V, S2, K2, T2, X2⟩ := hcut
      clear HD KD hnx hsu c0 c1
      have IV2 := hid (hd1.out.iv.run (H' := litsF L2) T2.out.1 X2.out)
      have hr2 := hid (((K2.out.zz r hrl (.inr OW.out)).1).trans HR.out)
      have ow2 := hid (((K2.out.zz r hrl (.inr OW.out)).2).trans OW.out)
      have d12 := S2.out.c12
      have d14 := S2.out.c14
      have d0 := S2.out.c0
      obtain ⟨cf, hcf⟩ : ∃ cf, (upW s1 L2 s1.lev (litsF L2)).cf = cf := ⟨_, rfl⟩
      obtain ⟨en, hen⟩ : ∃ en, (upW s1 L2 s1.lev (litsF L2)).en = en := ⟨_, rfl⟩
      rw [hcf] at d12
      rw [hen] at d14
      have hcb := hd1.out.cf
      have HUC := hid hcf
      have HCF : Hid (s1.cf = cf) := hid hcf
      have HEN : Hid (s1.en = en) := hid hen
      rw [HCF.out] at hcb
      clear hcf hen
      cases ok
      · obtain ⟨j, rfl, hj⟩ := run_false V.out
        obtain ⟨lev, hlev⟩ : ∃ lev, s1.lev = lev := ⟨_, rfl⟩
        have HT := hid S2.out.W.j.t
        rw [show (upW s1 L2 s1.lev (litsF L2)).lev = lev from hlev] at HT
        have HLV := hid hlev
        clear hlev
        have hlb : lev ≤ 1048576 := by have := HT.out.len; omega
        by_cases hl0 : lev = 0
        · subst hl0
          have HZ : Hid (U.Stp (l ++ s1.prf) []) := hid (zero_bad (s := upW s1 L2 s1.lev (litsF L2)) IV2.out S2.out HLV.out (i := j) (by rw [T2.out.1.nx]; exact hj.out.1) (by rw [T2.out.1.lt]; exact hj.out.2.2))
          have hpl : Hid ((upW s1 L2 s1.lev (litsF L2)).prf.length ≤ 1000000) := hid (by have := hd1.out.iv.cf; have := HCF.out; show s1.prf.length ≤ _; omega)
          go_wp2_with (first
            | (go_at_call 32; with_reducible (refine (levels_is HT.out).mono ?_); rintro e w6 ⟨rfl, rfl⟩)
            | (go_at_call 33; with_reducible (refine (unsat_is S2.out hpl.out).mono ?_); rw [HUC.out]; rintro e w6 ⟨v, F, rfl, UE, U9⟩; obtain ⟨pa, pp, hv, _⟩ := UE.out.gr _ (fun _ _ => rfl); subst hv; have U8 := U9.out r (blk_lt hr2.out) ow2.out; have hr6 := U8.1.trans hr2.out; have z0 := cell_of (o := 0) hr6; have z1 := cell_of (o := 1) hr6; have z2 := cell_of (o := 2) hr6; have z3 := cell_of (o := 3) hr6; have y0 := frozen_of (o := 0) hr6; have y1 := frozen_of (o := 1) hr6; have y2 := frozen_of (o := 2) hr6; have y3 := frozen_of (o := 3) hr6; have H8 := hid (res_blk (a' := .int .i64 2) (b' := .slice none 0 0) (cc' := .int .i64 cf) (d' := .slice pa ((upW s1 L2 s1.lev (litsF L2)).prf.length + 1) pp) hr6); have HE := hid (uns_store UE.out U8.2 hw0 (a' := .int .i64 2) (b' := .slice none 0 0) (cc' := .int .i64 cf) (d' := .slice pa ((upW s1 L2 s1.lev (litsF L2)).prf.length + 1) pp)); clear hr6 U8 U9 UE))
          generalize hW8 : ((((w6.setCell ⟨r, 0, none⟩ (.int .i64 2)).setCell ⟨r, 1, none⟩ (.slice none 0 0)).setCell ⟨r, 2, none⟩ (.int .i64 cf)).setCell ⟨r, 3, none⟩ (.slice pa ((upW s1 L2 s1.lev (litsF L2)).prf.length + 1) pp)) = w8 at *
          have r0 : w8.cell? ⟨r, 0, none⟩ = some (.int .i64 2) := cell_of H8.out
          have r1 : w8.cell? ⟨r, 1, none⟩ = some (.slice none 0 0) := cell_of H8.out
          have r2 : w8.cell? ⟨r, 2, none⟩ = some (.int .i64 cf) := cell_of H8.out
          have r3 : w8.cell? ⟨r, 3, none⟩ = some (.slice pa ((upW s1 L2 s1.lev (litsF L2)).prf.length + 1) pp) := cell_of H8.out
          refine bodyPost_ret (by simp [results, Tryz.results18, go_sem, r0, r1, r2, r3]; try rfl) rfl ?_
          exact .inr (.inl ⟨_, F, upW s1 L2 s1.lev (litsF L2), by rw [HUC.out], HE, hid ⟨hd1.out.iv.cf, hd1.out.cf, hd1.out.iv.fin, HZ.out⟩⟩)
        · have hl1 : ((lev : Int) == 0) = false := by rw [beq_eq_false_iff_ne]; omega
          by_cases hb : cf = bud
          · rw [hb] at d12
            have z0 := cell_of (o := 0) hr2.out
            have z1 := cell_of (o := 1) hr2.out
            have z2 := cell_of (o := 2) hr2.out
            have z3 := cell_of (o := 3) hr2.out
            have y0 := frozen_of (o := 0) hr2.out
            have y1 := frozen_of (o := 1) hr2.out
            have y2 := frozen_of (o := 2) hr2.out
            have y3 := frozen_of (o := 3) hr2.out
            have H8 := hid (res_blk (a' := .int .i64 0) (b' := .slice none 0 0) (cc' := .int .i64 bud) (d' := .slice none 0 0) hr2.out)
            have HE := hid (res_bel (a' := .int .i64 0) (b' := .slice none 0 0) (cc' := .int .i64 bud) (d' := .slice none 0 0) S2.out.b0 hw0)
            go_wp2_with (first
              | (go_at_call 32; with_reducible (refine (levels_is HT.out).mono ?_); rintro e w6 ⟨rfl, rfl⟩))
            rename_i w6
            generalize hW8 : ((((w6.setCell ⟨r, 0, none⟩ (.int .i64 0)).setCell ⟨r, 1, none⟩ (.slice none 0 0)).setCell ⟨r, 2, none⟩ (.int .i64 bud)).setCell ⟨r, 3, none⟩ (.slice none 0 0)) = w8 at *
            have r0 : w8.cell? ⟨r, 0, none⟩ = some (.int .i64 0) := cell_of H8.out
            have r1 : w8.cell? ⟨r, 1, none⟩ = some (.slice none 0 0) := cell_of H8.out
            have r2 : w8.cell? ⟨r, 2, none⟩ = some (.int .i64 bud) := cell_of H8.out
            have r3 : w8.cell? ⟨r, 3, none⟩ = some (.slice none 0 0) := cell_of H8.out
            refine bodyPost_ret (by simp [results, Tryz.results18, go_sem, r0, r1, r2, r3]; try rfl) rfl ?_
            exact .inr (.inr ⟨s1.prf, rfl, HE, hid ⟨by rw [← hd1.out.iv.cf, HCF.out, hb], hd1.out.iv.fin⟩⟩)
          · have hb2 : ((cf : Int) == bud) = false := by rw [beq_eq_false_iff_ne]; omega
            have hjn : j < g2.nx := by rw [T2.out.1.nx]; exact hj.out.1
            obtain ⟨lx, ps, hlp, ta⟩ := IV2.out.teach S2.out.W.j.t S2.out.W.j.n S2.out.W.rs (show 1 ≤ s1.lev by rw [HLV.out]; omega) hjn (by rw [T2.out.1.gn]; exact hj.out.2.1) (by rw [T2.out.1.lt]; exact hj.out.2.2)
            have hlen : Hid (g2.nx ≤ 20000 ∧ s1.prf.length ≤ 20000 ∧ s1.fs.length ≤ 20000 ∧ s1.ns.length ≤ 20000 ∧ s1.cls.length ≤ 20000 ∧ (g2.P (3 * c.kw.n)).length ≤ 1000000000000) := hid (by
              have a1 := hd1.out.nx hN
              have a2 := hd1.out.iv.cf
              have a3 := hd1.out.iv.fs
              have a4 := hd1.out.iv.ns
              have a5 := hd1.out.iv.cn
              have a6 := hd1.out.cf
              have a7 := tot_pl c.kw.n g2
              have a8 := hd1.out.su hN hn hK
              have a9 := T2.out.2
              rw [T2.out.1.nx]
              omega)
            have HLS := hid (learn_s S2.out (j : Int) hlp hn (by rw [hf]; exact IV2.out.rsn S2.out.W.rs hjn _) (by have := hlen.out; omega) hlen.out.2.2.2.2.2 (show s1.cls.length ≤ _ by have := hlen.out; omega) (show s1.fs.length ≤ _ by have := hlen.out; omega) (show s1.ns.length ≤ _ by have := hlen.out; omega) (by omega) (show s1.prf.length ≤ _ by have := hlen.out; omega) (show s1.wg ≤ _ by have := hd1.out.iv.wg; omega) (show s1.cf ≤ _ by have := HCF.out; omega))
            have HTA := hid ta
            have HLT : Hid (s1.cf < bud) := hid (by have := HCF.out; omega)
            clear hlp ta hlen
            go_wp2_with (first
              | (go_at_call 32; with_reducible (refine (levels_is HT.out).mono ?_); rintro e w6 ⟨rfl, rfl⟩)
              | (go_at_call 34; with_reducible (refine HLS.out.mono ?_); rintro e w7 ⟨es, g7, rfl, PM, N7, D7⟩; have n8 := Nx.out N7.out; obtain ⟨m7, h7, k7⟩ := n8))
            have HH := hid (hd1.out.lrn (cn := (j : Int)) hN S2.out IV2.out HTA.out PM.out D7.out T2.out.2 rfl HLT.out hf)
            go_roundw
            case rel => exact ⟨g7, _, m7, h7, hid (K2.out.trans k7.out), hid HH.out.1⟩
            case measure => rw [mu_of h7.out, NM.out]; exact HH.out.2
      · have HCL := hid (run_true V.out)
        by_cases hce : en ≤ cf
        · have hce' : (en : Int) ≤ cf := by omega
          go_upto_region 8 with fail
          go_quiet (fail)
          obtain ⟨mE, hE, kE⟩ := S2.out.xbelow (drewN_any _ wc nq)
          have HE2 := hid hE
          have KE := hid (K2.out.trans kE)
          clear hE kE
          have HAC := hid (HHA.out _ _ _ _ HE2.out IV2.out (show s1.en ≤ s1.cf by rw [HEN.out, HCF.out]; exact hce) hd1.out.cf)
          go_wp2_with (first
            | (go_at_call 35; with_reducible (refine HAC.out.mono ?_); rintro e w7 ⟨rfl, g7, s7, N7, I7⟩; have n8 := Nx.out N7.out; obtain ⟨m7, h7, k7⟩ := n8))
          have HH := hid (hd1.out.anew hN I7.out.1 T2.out.2 I7.out.2.2.2 I7.out.2.1 I7.out.2.2.1 (by rw [HEN.out, HCF.out]; exact hce))
          go_roundw
          case rel => exact ⟨g7, s7, m7, h7, hid (KE.out.trans k7.out), hid HH.out.1⟩
          case measure => rw [mu_of h7.out, NM.out]; exact HH.out.2
        · have hce' : ¬ (en : Int) ≤ cf := by omega
          go_upto_region 8 with fail
          go_quiet (fail)
          obtain ⟨mE, hE, kE⟩ := S2.out.xbelow (drewN_any _ wc nq)
          have HE2 := hid hE
          have KE := hid (K2.out.trans kE)
          clear hE kE
          have HDE := hid (decide_s HE2.out)
          go_wp2_with (first
            | (go_at_call 36; with_reducible (refine HDE.out.mono ?_); rintro e w7 ⟨bq, rfl, nw⟩; cases bq <;> (have n8 := NxW.out nw; obtain ⟨s7, m7, HD7, h7, k7⟩ := n8; clear nw))
            | (go_at_call 37; with_reducible (refine (sat_is h7.out).mono ?_); rintro e w8 ⟨tb, rfl, B8, M8, L8, Z8⟩; obtain ⟨cf7, hcf7⟩ : ∃ cf7, s7.cf = cf7 := ⟨_, rfl⟩; have hr7 := hid (((KE.out.trans k7.out).zz r hrl (.inr OW.out)).1.trans HR.out); have ow7 := hid (((KE.out.trans k7.out).zz r hrl (.inr OW.out)).2.trans OW.out); have Z9 := Z8.out r (blk_lt hr7.out) ow7.out; have hr8 := Z9.1.trans hr7.out; have z0 := cell_of (o := 0) hr8; have z1 := cell_of (o := 1) hr8; have z2 := cell_of (o := 2) hr8; have z3 := cell_of (o := 3) hr8; have y0 := frozen_of (o := 0) hr8; have y1 := frozen_of (o := 1) hr8; have y2 := frozen_of (o := 2) hr8; have y3 := frozen_of (o := 3) hr8))
          · have SE := hid (sat_end S2.out h7.out IV2.out HCL.out HD7.out)
            have HCF7 : Hid (s7.cf = cf) := hid (SE.out.1.trans HUC.out)
            obtain rfl : cf = cf7 := HCF7.out.symm.trans hcf7
            have H8 := hid (res_blk (a' := .int .i64 1) (b' := .slice (some ⟨tb, 0, none⟩) c.kw.n c.kw.n) (cc' := .int .i64 cf) (d' := .slice none 0 0) hr8)
            have HE := hid (res_bel (a' := .int .i64 1) (b' := .slice (some ⟨tb, 0, none⟩) c.kw.n c.kw.n) (cc' := .int .i64 cf) (d' := .slice none 0 0) B8.out hw0)
            have HM := hid ((res_oth (a' := .int .i64 1) (b' := .slice (some ⟨tb, 0, none⟩) c.kw.n c.kw.n) (cc' := .int .i64 cf) (d' := .slice none 0 0) Z9.2.symm).trans M8.out)
            generalize hW9 : ((((w8.setCell ⟨r, 0, none⟩ (.int .i64 1)).setCell ⟨r, 1, none⟩ (.slice (some ⟨tb, 0, none⟩) c.kw.n c.kw.n)).setCell ⟨r, 2, none⟩ (.int .i64 cf)).setCell ⟨r, 3, none⟩ (.slice none 0 0)) = w9 at *
            have r0 : w9.cell? ⟨r, 0, none⟩ = some (.int .i64 1) := cell_of H8.out
            have r1 : w9.cell? ⟨r, 1, none⟩ = some (.slice (some ⟨tb, 0, none⟩) c.kw.n c.kw.n) := cell_of H8.out
            have r2 : w9.cell? ⟨r, 2, none⟩ = some (.int .i64 cf) := cell_of H8.out
            have r3 : w9.cell? ⟨r, 3, none⟩ = some (.slice none 0 0) := cell_of H8.out
            refine bodyPost_ret (by simp [results, Tryz.results18, go_sem, r0, r1, r2, r3]; try rfl) rfl ?_
            exact .inl ⟨tb, cf, _, rfl, HE, HM, hid ⟨L8.out, hcb, SE.out.2⟩⟩
          · have HH := hid (hd1.out.dec hN S2.out h7.out IV2.out HCL.out T2.out.2 rfl rfl X2.out.len HD7.out)
            go_roundw
            case rel => exact ⟨g2, s7, m7, h7, hid (KE.out.trans k7.out), hid HH.out.1⟩
            case measure => rw [mu_of h7.out, NM.out]; exact HH.out.2
end
end Go.Proofs.YtimfjoinjfecjaaGreat
