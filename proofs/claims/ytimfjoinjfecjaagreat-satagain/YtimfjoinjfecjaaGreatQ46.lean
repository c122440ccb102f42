/-
  Solve.
-/
import Derived.Test.YtimfjoinjfecjaaGreatQ45
import Derived.Test.YtimfjoinjfecjaaGreatQ27

namespace Go.Proofs.YtimfjoinjfecjaaGreat
open Go.RowKit Go.Maps
set_option linter.unusedVariables false

/-- What Solve tells of clauses that may be. -/
def SolEnd (al : Bool) (n : Nat) (l : List (List Int)) (bud : Nat) (w : World) (r : Value) (w' : World) : Prop :=
  (∃ (tb cf : Nat) (tr : List Bool), r = .agg #[.int .i64 1, .slice (some ⟨tb, 0, none⟩) n n, .int .i64 cf, .slice none 0 0] ∧ Hid (Below w.heap.size w w') ∧ Hid (w'.heap[tb]? = some (.cells (tr.map Value.bool).toArray 4 (0, 0))) ∧ Hid (tr.length = n ∧ cf ≤ bud ∧ ∀ c ∈ l, ∃ x ∈ c, tr[vl x]? = some (!decide (x % 2 = 1)) ∧ 0 ≤ x)) ∨
  (∃ (a : Option Addr) (k cp cf : Nat) (P : List (List Int)), r = .agg #[.int .i64 2, .slice none 0 0, .int .i64 cf, .slice a k cp] ∧ Hid (Below w.heap.size w w') ∧ Hid (U.Grid w' a k cp (P ++ [[]])) ∧ Hid (cf = P.length ∧ cf ≤ bud ∧ Fin al n l P ∧ U.Stp (l ++ P) [])) ∨
  (∃ P : List (List Int), r = .agg #[.int .i64 0, .slice none 0 0, .int .i64 bud, .slice none 0 0] ∧ Hid (Below w.heap.size w w') ∧ Hid (P.length = bud ∧ Fin al n l P))

theorem SEnd.out {al : Bool} {n : Nat} {l : List (List Int)} {bud : Nat} {w0 w' : World} {e : Ending} (h : SEnd al n l bud w0 e w') :
    (∃ (tb cf : Nat) (tr : List Bool), e = .returned (.agg #[.int .i64 1, .slice (some ⟨tb, 0, none⟩) n n, .int .i64 cf, .slice none 0 0]) ∧ Hid (Below w0.heap.size w0 w') ∧ Hid (w'.heap[tb]? = some (.cells (tr.map Value.bool).toArray 4 (0, 0))) ∧ Hid (tr.length = n ∧ cf ≤ bud ∧ ∀ c ∈ l, ∃ x ∈ c, tr[vl x]? = some (!decide (x % 2 = 1)) ∧ 0 ≤ x)) ∨
    (∃ (pa : Option Addr) (k pp cf : Nat) (P : List (List Int)) (F : Nat → Prop) (s : SS), e = .returned (.agg #[.int .i64 2, .slice none 0 0, .int .i64 cf, .slice pa k pp]) ∧ Hid (UnsEnd F w0 s (.slice pa k pp) w' ∧ s.prf = P) ∧ Hid (cf = P.length ∧ cf ≤ bud ∧ Fin al n l P ∧ U.Stp (l ++ P) [])) ∨
    (∃ P : List (List Int), e = .returned (.agg #[.int .i64 0, .slice none 0 0, .int .i64 bud, .slice none 0 0]) ∧ Hid (Below w0.heap.size w0 w') ∧ Hid (P.length = bud ∧ Fin al n l P)) := by
  rcases h with h | ⟨v, F, s, h1, h2, h3⟩ | h
  · exact .inl h
  · obtain ⟨pa, pp, hv, _⟩ := h2.out.gr _ (fun _ _ => rfl)
    subst hv
    exact .inr (.inl ⟨pa, _, pp, s.cf, s.prf, F, s, h1, hid ⟨h2.out, rfl⟩, h3⟩)
  · exact .inr (.inr h)

theorem SEnd.below {al : Bool} {n : Nat} {l : List (List Int)} {bud : Nat} {w0 w' : World} {e : Ending} (h : SEnd al n l bud w0 e w') : Below w0.heap.size w0 w' := by
  rcases h with ⟨_, _, _, _, h, _⟩ | ⟨_, _, _, _, h, _⟩ | ⟨_, _, h, _⟩
  · exact h.out
  · exact h.out.b0
  · exact h.out

theorem old_blk {w1 w3 : World} {r : Nat} {o : Obj} (b : Below w1.heap.size w1 w3) (h : w1.heap[r]? = some o) : w3.heap[r]? = some o := (b.block _ (blk_lt h)).trans h

/-- A new round where no clause is given up. -/
theorem anew_plain {al : Bool} {l : List (List Int)} {bud : Nat} {c : SC} {w0 : World} (hc : c.all = true ∨ bud < 1000) (hb : bud ≤ 1000000) : Anew al l bud c w0 := by
  intro g s m w h iv he hcf
  have h1 := iv.ns
  have h2 := iv.cf
  have h3 := iv.lm
  have h4 := iv.rd
  obtain ⟨la, lw, _⟩ := h.o.lens
  have hn := h.hn
  obtain ⟨a1, a2, a3, a4⟩ := iv.anew h.W.j.t h.W.j.n (by omega) he
  refine (anew_nil h (hc.elim Or.inl (fun _ => Or.inr (by omega))) (by omega) (by omega)).mono fun e w' q => ?_
  exact ⟨q.1, g, _, q.2, hid ⟨a1, a4, a3, Nat.le_refl _⟩⟩

theorem beg_hd {al : Bool} {l : List (List Int)} {bud K0 n : Nat} {c : SC} {g : G} (hg : Gb n l g) (hn : c.kw.n = n) (hx : ∀ c ∈ l, ∀ y ∈ c, 0 ≤ y ∧ y < 2 * (n : Int)) (hK : l.length + (bud * (3 * n + 9) + (n + 1)) * (n * (l.length + bud) + 2) ≤ K0) : Hd al l bud K0 c g (nextF (begF n l)) := by
  subst hn
  obtain ⟨iv, e1, e2, e3, e4, e5, e6, e7⟩ := Iv.begin al hg hx
  refine ⟨iv, by omega, ?_⟩
  rw [hg.su]
  have : muF c.kw.n bud (nextF (begF c.kw.n l)) = bud * (3 * c.kw.n + 9) + (c.kw.n + 1) := by
    unfold muF muN
    rw [if_neg (by omega), e1, e7]
    simp
  rw [this]
  exact hK

structure BegC (n : Nat) (all : Bool) (l : List (List Int)) (w : World) (SB : Nat) (c : SC) (g : G) (m : MV) (w' : World) : Prop where
  sb : c.SB = SB
  fst : c.fst = l.length
  all : c.all = all
  sm : Sm c w g (nextF (begF n l)) m w'
  gb : Gb n l g
  kn : c.kw.n = n

theorem BegEnd.out {w w' : World} {n : Nat} {all : Bool} {l : List (List Int)} {SB : Nat} (h : BegEnd w n all l SB w') : ∃ c g m, Hid (BegC n all l w SB c g m w') := by
  obtain ⟨c, g, m, h1, h2, h3, h4, h5, h6⟩ := h
  exact ⟨c, g, m, hid ⟨h1, h2, h3, h5.out, h6.out, h4⟩⟩

/-- search, of a new solver. -/
theorem beg_search {al : Bool} {n : Nat} {all : Bool} {l : List (List Int)} {bud SB : Nat} {c : SC} {g : G} {m : MV} {w0 w : World} (h : BegC n all l w0 SB c g m w) (hx : ∀ c ∈ l, ∀ y ∈ c, 0 ≤ y ∧ y < 2 * (n : Int)) (hn : n ≤ 900) (hN : l.length + bud ≤ 20000) (hK : l.length + (bud * (3 * n + 9) + (n + 1)) * (n * (l.length + bud) + 2) ≤ 250000000000) (HA : ∀ c w0, c.all = all → c.kw.n = n → c.fst = l.length → Anew al l bud c w0) :
    Calls Tryz.prog 18 #[.pointer (some ⟨SB, 0, none⟩), .int .i64 (bud : Nat)] w fun e w' => SEnd al n l bud w0 e w' := by
  have hs := search_is h.sm (beg_hd h.gb h.kn hx (Nat.le_refl _)) h.fst (by have := h.kn; omega) hN hK (HA c w0 h.all h.kn h.fst)
  rw [h.sb, h.kn] at hs
  exact hs

section
variable {al : Bool} {n : Nat} {l : List (List Int)} {bud : Nat} {w : World}

set_option maxRecDepth 20000 in
set_option maxHeartbeats 4000000 in
theorem solve_good (ao : Option Addr) (len cap : Nat) (hl : U.Grid w ao len cap l) (hchk : U.chkF n l = 0) (hx : ∀ c ∈ l, c.length ≤ 1000 ∧ ∀ y ∈ c, 0 ≤ y ∧ y < 2 * (n : Int)) (hlen : len ≤ 1000) (hn : n ≤ 900) (hN : l.length + bud ≤ 20000) (hK : l.length + (bud * (3 * n + 9) + (n + 1)) * (n * (l.length + bud) + 2) ≤ 250000000000) (HA : ∀ c w0, c.all = decide ((n : Int) ≤ 8) → c.kw.n = n → c.fst = l.length → Anew al l bud c w0) :
    Calls Tryz.prog 9 #[.int .i64 n, .slice ao len cap, .int .i64 bud] w fun e w' => ∃ r, e = .returned (.tuple #[r, .int .i64 0]) ∧ SolEnd al n l bud w r w' := by
  have hal : Below w.heap.size w (w.alloc (.cells #[.int .i64 0, .slice none 0 0, .int .i64 0, .slice none 0 0] 27)) := by go_grown
  have HL := hid (hl.keep hal)
  have HR : Hid ((w.alloc (.cells #[.int .i64 0, .slice none 0 0, .int .i64 0, .slice none 0 0] 27)).heap[w.heap.size]? = some (.cells #[.int .i64 0, .slice none 0 0, .int .i64 0, .slice none 0 0] 27 (0, 0))) := hid (new_same w _)
  have HX := hid hx
  have HX2 : Hid (∀ c ∈ l, ∀ y ∈ c, 0 ≤ y ∧ y < 2 * (n : Int)) := hid (fun c hc => (hx c hc).2)
  have HHA := hid HA
  have HC := hid hchk
  have hn2 : n ≤ 1048576 := by omega
  have HBA := hid hal
  have hb0 : ¬ (bud : Int) < 0 := by omega
  have hbm : (bud : Int) ≤ 9223372036854775807 := by omega
  clear hl hx HA hchk hal
  go_enter Tryz.func9, Tryz.ntmps9
  go_wp2_with (first
    | (go_at_call 16; with_reducible (refine (U.check_any _ _ _ _ l _ HL.out).mono ?_); rw [HC.out]; rintro e w1 ⟨rfl, b1⟩; have HL1 := hid (HL.out.keep b1); have hr1 := hid (old_blk b1 HR.out); have B1 := hid (Below.next HBA.out b1))
    | (go_at_call 17; with_reducible (refine (begin_is n hn2 ao len cap l _ HL1.out hlen HX.out).mono ?_); rintro e w2 ⟨SB, rfl, be⟩; have be2 := BegEnd.out be; obtain ⟨cc, gg, mm, BE⟩ := be2)
    | (go_at_call 18; with_reducible (refine (beg_search BE.out HX2.out hn hN hK HHA.out).mono ?_); intro e w3 hS; have b3 := SEnd.below hS; have hr3 := old_blk b3 hr1.out; have z0 := cell_of (o := 0) hr3; have z1 := cell_of (o := 1) hr3; have z2 := cell_of (o := 2) hr3; have z3 := cell_of (o := 3) hr3; have y0 := frozen_of (o := 0) hr3; have y1 := frozen_of (o := 1) hr3; have y2 := frozen_of (o := 2) hr3; have y3 := frozen_of (o := 3) hr3; have HR3 := hid hr3; have B3 := hid (Below.next B1.out b3); have hS2 := SEnd.out hS; clear hr3 b3 hS; rcases hS2 with ⟨tb, cf, tr, rfl, b3, M3, F3⟩ | ⟨pa, kk, pp, cf, P, F, ss, rfl, UE, F3⟩ | ⟨P, rfl, b3, F3⟩))
  · have H8 := hid (res_blk (a' := .int .i64 1) (b' := .slice (some ⟨tb, 0, none⟩) n n) (cc' := .int .i64 cf) (d' := .slice none 0 0) HR3.out)
    have HE := hid (res_bel (a' := .int .i64 1) (b' := .slice (some ⟨tb, 0, none⟩) n n) (cc' := .int .i64 cf) (d' := .slice none 0 0) B3.out (Nat.le_refl _))
    have hne : tb ≠ w.heap.size := fun q => by
      have t1 : Typ w3 tb 4 := ⟨_, _, M3.out⟩
      rw [q] at t1
      exact absurd (t1.one ⟨_, _, HR3.out⟩) (by decide)
    have HM := hid ((res_oth (a' := .int .i64 1) (b' := .slice (some ⟨tb, 0, none⟩) n n) (cc' := .int .i64 cf) (d' := .slice none 0 0) hne).trans M3.out)
    generalize hW9 : ((((w3.setCell ⟨w.heap.size, 0, none⟩ (.int .i64 1)).setCell ⟨w.heap.size, 1, none⟩ (.slice (some ⟨tb, 0, none⟩) n n)).setCell ⟨w.heap.size, 2, none⟩ (.int .i64 cf)).setCell ⟨w.heap.size, 3, none⟩ (.slice none 0 0)) = w9 at *
    have r0 : w9.cell? ⟨w.heap.size, 0, none⟩ = some (.int .i64 1) := cell_of H8.out
    have r1 : w9.cell? ⟨w.heap.size, 1, none⟩ = some (.slice (some ⟨tb, 0, none⟩) n n) := cell_of H8.out
    have r2 : w9.cell? ⟨w.heap.size, 2, none⟩ = some (.int .i64 cf) := cell_of H8.out
    have r3 : w9.cell? ⟨w.heap.size, 3, none⟩ = some (.slice none 0 0) := cell_of H8.out
    refine bodyPost_ret (by simp [results, Tryz.results9, go_sem, r0, r1, r2, r3]; try rfl) rfl ?_
    exact ⟨_, rfl, .inl ⟨tb, cf, tr, rfl, HE, HM, F3⟩⟩
  · have H8 := hid (res_blk (a' := .int .i64 2) (b' := .slice none 0 0) (cc' := .int .i64 cf) (d' := .slice pa kk pp) HR3.out)
    have HE := hid (res_bel (a' := .int .i64 2) (b' := .slice none 0 0) (cc' := .int .i64 cf) (d' := .slice pa kk pp) B3.out (Nat.le_refl _))
    have HG := hid (UE.out.1.gr _ (fun i hi => res_oth (a' := .int .i64 2) (b' := .slice none 0 0) (cc' := .int .i64 cf) (d' := .slice pa kk pp) (r := w.heap.size) (fun q => by have := UE.out.1.fn i hi; have := blk_lt hr1.out; omega)))
    generalize hW9 : ((((w3.setCell ⟨w.heap.size, 0, none⟩ (.int .i64 2)).setCell ⟨w.heap.size, 1, none⟩ (.slice none 0 0)).setCell ⟨w.heap.size, 2, none⟩ (.int .i64 cf)).setCell ⟨w.heap.size, 3, none⟩ (.slice pa kk pp)) = w9 at *
    have r0 : w9.cell? ⟨w.heap.size, 0, none⟩ = some (.int .i64 2) := cell_of H8.out
    have r1 : w9.cell? ⟨w.heap.size, 1, none⟩ = some (.slice none 0 0) := cell_of H8.out
    have r2 : w9.cell? ⟨w.heap.size, 2, none⟩ = some (.int .i64 cf) := cell_of H8.out
    have r3 : w9.cell? ⟨w.heap.size, 3, none⟩ = some (.slice pa kk pp) := cell_of H8.out
    refine bodyPost_ret (by simp [results, Tryz.results9, go_sem, r0, r1, r2, r3]; try rfl) rfl ?_
    refine ⟨_, rfl, .inr (.inl ⟨pa, kk, pp, cf, P, rfl, HE, ?_, F3⟩)⟩
    obtain ⟨a, cp, e, gr⟩ := HG.out
    have hp := UE.out.2
    subst hp
    cases e
    exact hid gr
  · have H8 := hid (res_blk (a' := .int .i64 0) (b' := .slice none 0 0) (cc' := .int .i64 bud) (d' := .slice none 0 0) HR3.out)
    have HE := hid (res_bel (a' := .int .i64 0) (b' := .slice none 0 0) (cc' := .int .i64 bud) (d' := .slice none 0 0) B3.out (Nat.le_refl _))
    generalize hW9 : ((((w3.setCell ⟨w.heap.size, 0, none⟩ (.int .i64 0)).setCell ⟨w.heap.size, 1, none⟩ (.slice none 0 0)).setCell ⟨w.heap.size, 2, none⟩ (.int .i64 bud)).setCell ⟨w.heap.size, 3, none⟩ (.slice none 0 0)) = w9 at *
    have r0 : w9.cell? ⟨w.heap.size, 0, none⟩ = some (.int .i64 0) := cell_of H8.out
    have r1 : w9.cell? ⟨w.heap.size, 1, none⟩ = some (.slice none 0 0) := cell_of H8.out
    have r2 : w9.cell? ⟨w.heap.size, 2, none⟩ = some (.int .i64 bud) := cell_of H8.out
    have r3 : w9.cell? ⟨w.heap.size, 3, none⟩ = some (.slice none 0 0) := cell_of H8.out
    refine bodyPost_ret (by simp [results, Tryz.results9, go_sem, r0, r1, r2, r3]; try rfl) rfl ?_
    exact ⟨_, rfl, .inr (.inr ⟨P, rfl, HE, F3⟩)⟩

set_option maxRecDepth 20000 in
set_option maxHeartbeats 4000000 in
/-- Clauses that may not be. -/
theorem solve_bad (vars bd : Int) (ao : Option Addr) (len cap : Nat) (hl : U.Grid w ao len cap l) (hchk : ¬ U.chkF vars l = 0) :
    Calls Tryz.prog 9 #[.int .i64 vars, .slice ao len cap, .int .i64 bd] w fun e w' => e = .returned (.tuple #[.agg #[.int .i64 0, .slice none 0 0, .int .i64 0, .slice none 0 0], .int .i64 (U.chkF vars l)]) ∧ Hid (Below w.heap.size w w') := by
  have hal : Below w.heap.size w (w.alloc (.cells #[.int .i64 0, .slice none 0 0, .int .i64 0, .slice none 0 0] 27)) := by go_grown
  have HL := hid (hl.keep hal)
  have HR : Hid ((w.alloc (.cells #[.int .i64 0, .slice none 0 0, .int .i64 0, .slice none 0 0] 27)).heap[w.heap.size]? = some (.cells #[.int .i64 0, .slice none 0 0, .int .i64 0, .slice none 0 0] 27 (0, 0))) := hid (new_same w _)
  have HBA := hid hal
  obtain ⟨ck, hck⟩ : ∃ ck, U.chkF vars l = ck := ⟨_, rfl⟩
  rw [hck] at hchk
  have HC := hid hck
  have hne : (ck == 0) = false := by rw [beq_eq_false_iff_ne]; exact hchk
  rw [hck]
  clear hl hal hck
  go_enter Tryz.func9, Tryz.ntmps9
  go_wp2_with (first
    | (go_at_call 16; with_reducible (refine (U.check_any _ _ _ _ l _ HL.out).mono ?_); rw [HC.out]; rintro e w1 ⟨rfl, b1⟩; have hr3 := old_blk b1 HR.out; have z0 := cell_of (o := 0) hr3; have z1 := cell_of (o := 1) hr3; have z2 := cell_of (o := 2) hr3; have z3 := cell_of (o := 3) hr3; have y0 := frozen_of (o := 0) hr3; have y1 := frozen_of (o := 1) hr3; have y2 := frozen_of (o := 2) hr3; have y3 := frozen_of (o := 3) hr3; have HR3 := hid hr3; have B1 := hid (Below.next HBA.out b1); clear hr3 b1))
  have H8 := hid (res_blk (a' := .int .i64 0) (b' := .slice none 0 0) (cc' := .int .i64 0) (d' := .slice none 0 0) HR3.out)
  have HE := hid (res_bel (a' := .int .i64 0) (b' := .slice none 0 0) (cc' := .int .i64 0) (d' := .slice none 0 0) B1.out (Nat.le_refl _))
  generalize hW9 : ((((w1.setCell ⟨w.heap.size, 0, none⟩ (.int .i64 0)).setCell ⟨w.heap.size, 1, none⟩ (.slice none 0 0)).setCell ⟨w.heap.size, 2, none⟩ (.int .i64 0)).setCell ⟨w.heap.size, 3, none⟩ (.slice none 0 0)) = w9 at *
  have r0 : w9.cell? ⟨w.heap.size, 0, none⟩ = some (.int .i64 0) := cell_of H8.out
  have r1 : w9.cell? ⟨w.heap.size, 1, none⟩ = some (.slice none 0 0) := cell_of H8.out
  have r2 : w9.cell? ⟨w.heap.size, 2, none⟩ = some (.int .i64 0) := cell_of H8.out
  have r3 : w9.cell? ⟨w.heap.size, 3, none⟩ = some (.slice none 0 0) := cell_of H8.out
  refine bodyPost_ret (by simp [results, Tryz.results9, go_sem, r0, r1, r2, r3]; try rfl) rfl ?_
  exact ⟨rfl, HE⟩

set_option maxRecDepth 20000 in
set_option maxHeartbeats 4000000 in
/-- A budget that is none. -/
theorem solve_neg (vars bd : Int) (ao : Option Addr) (len cap : Nat) (hl : U.Grid w ao len cap l) (hchk : U.chkF vars l = 0) (hbd : bd < 0) :
    Calls Tryz.prog 9 #[.int .i64 vars, .slice ao len cap, .int .i64 bd] w fun e w' => e = .returned (.tuple #[.agg #[.int .i64 0, .slice none 0 0, .int .i64 0, .slice none 0 0], .int .i64 1]) ∧ Hid (Below w.heap.size w w') := by
  have hal : Below w.heap.size w (w.alloc (.cells #[.int .i64 0, .slice none 0 0, .int .i64 0, .slice none 0 0] 27)) := by go_grown
  have HL := hid (hl.keep hal)
  have HR : Hid ((w.alloc (.cells #[.int .i64 0, .slice none 0 0, .int .i64 0, .slice none 0 0] 27)).heap[w.heap.size]? = some (.cells #[.int .i64 0, .slice none 0 0, .int .i64 0, .slice none 0 0] 27 (0, 0))) := hid (new_same w _)
  have HBA := hid hal
  have HC := hid hchk
  clear hl hal hchk
  go_enter Tryz.func9, Tryz.ntmps9
  go_wp2_with (first
    | (go_at_call 16; with_reducible (refine (U.check_any _ _ _ _ l _ HL.out).mono ?_); rw [HC.out]; rintro e w1 ⟨rfl, b1⟩; have hr3 := old_blk b1 HR.out; have z0 := cell_of (o := 0) hr3; have z1 := cell_of (o := 1) hr3; have z2 := cell_of (o := 2) hr3; have z3 := cell_of (o := 3) hr3; have y0 := frozen_of (o := 0) hr3; have y1 := frozen_of (o := 1) hr3; have y2 := frozen_of (o := 2) hr3; have y3 := frozen_of (o := 3) hr3; have HR3 := hid hr3; have B1 := hid (Below.next HBA.out b1); clear hr3 b1))
  have H8 := hid (res_blk (a' := .int .i64 0) (b' := .slice none 0 0) (cc' := .int .i64 0) (d' := .slice none 0 0) HR3.out)
  have HE := hid (res_bel (a' := .int .i64 0) (b' := .slice none 0 0) (cc' := .int .i64 0) (d' := .slice none 0 0) B1.out (Nat.le_refl _))
  generalize hW9 : ((((w1.setCell ⟨w.heap.size, 0, none⟩ (.int .i64 0)).setCell ⟨w.heap.size, 1, none⟩ (.slice none 0 0)).setCell ⟨w.heap.size, 2, none⟩ (.int .i64 0)).setCell ⟨w.heap.size, 3, none⟩ (.slice none 0 0)) = w9 at *
  have r0 : w9.cell? ⟨w.heap.size, 0, none⟩ = some (.int .i64 0) := cell_of H8.out
  have r1 : w9.cell? ⟨w.heap.size, 1, none⟩ = some (.slice none 0 0) := cell_of H8.out
  have r2 : w9.cell? ⟨w.heap.size, 2, none⟩ = some (.int .i64 0) := cell_of H8.out
  have r3 : w9.cell? ⟨w.heap.size, 3, none⟩ = some (.slice none 0 0) := cell_of H8.out
  refine bodyPost_ret (by simp [results, Tryz.results9, go_sem, r0, r1, r2, r3]; try rfl) rfl ?_
  exact ⟨rfl, HE⟩
end
end Go.Proofs.YtimfjoinjfecjaaGreat
