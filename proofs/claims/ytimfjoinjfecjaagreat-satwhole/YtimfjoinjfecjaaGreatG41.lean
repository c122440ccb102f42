/-
  Solve.
  The document's Check and Refutes of a proof; what has a step holds.
-/
import Derived.Test.YtimfjoinjfecjaaGreatG39
import Derived.Test.YtimfjoinjfecjaaGreatG40
import Derived.Test.YtimfjoinjfecjaaGreatG18
import Derived.Test.YtimfjoinjfecjaaGreatG26

namespace Go.Proofs.YtimfjoinjfecjaaGreat
open Go.RowKit Go.Maps
set_option linter.unusedVariables false

/-- What Solve tells of clauses that may be. -/
def SolEnd (al : Bool) (n : Nat) (l : List (List Int)) (bud : Nat) (w : World) (r : Value) (w' : World) : Prop :=
  (∃ (tb cf : Nat) (tr : List Bool), r = .agg #[.int .i64 1, .slice (some ⟨tb, 0, none⟩) n n, .int .i64 cf, .slice none 0 0] ∧ Hid (Below w.heap.size w w') ∧ Hid (w'.heap[tb]? = some (.cells (tr.map Value.bool).toArray 4 (0, 0))) ∧ Hid (tr.length = n ∧ cf ≤ bud ∧ ∀ c ∈ l, ∃ x ∈ c, tr[vl x]? = some (!decide (x % 2 = 1)) ∧ 0 ≤ x)) ∨
  (∃ (a : Option Addr) (k cp cf : Nat) (P : List (List Int)), r = .agg #[.int .i64 2, .slice none 0 0, .int .i64 cf, .slice a k cp] ∧ Hid (Below w.heap.size w w') ∧ Hid (U.Grid w' a k cp (P ++ [[]])) ∧ Hid (cf = P.length ∧ cf ≤ bud ∧ Fin al n l P ∧ U.Stp (l ++ P) [])) ∨
  (∃ P : List (List Int), r = .agg #[.int .i64 0, .slice none 0 0, .int .i64 bud, .slice none 0 0] ∧ Hid (Below w.heap.size w w') ∧ Hid (P.length = bud ∧ Fin al n l P))

theorem SEnd.out {al : Bool} {n : Nat} {l : List (List Int)} {bud : Nat} {w0 w' : World} {e : Ending} (h : SEnd al n l bud w0 e w') :
    (∃ (tb cf : Nat) (tr : List Bool), e = .returned (.agg #[.int .i64 1, .slice (some ⟨tb, 0, none⟩) n n, .int .i64 cf, .slice none 0 0]) ∧ Hid (Below w0.heap.size w0 w') ∧ Hid (w'.heap[tb]? = some (.cells (tr.map Value.bool).toArray 4 (0, 0))) ∧ Hid (tr.length = n ∧ cf ≤ bud ∧ ∀ c ∈ l, ∃ x ∈ c, tr[vl x]? = some (!decide (x % 2 = 1)) ∧ 0 ≤ x)) ∨
    (∃ (pa : Option Addr) (k pp cf : Nat) (P : List (List Int)) (F : Nat → Prop) (s : SS), e = .returned (.agg #[.int .i64 2, .slice none 0 0, .int .i64 cf, .slice pa k pp]) ∧ Hid (UnsEnd F w0 s (.slice pa k pp) w' ∧ s.prf = P) ∧ Hid (cf = P.length ∧ cf ≤ bud ∧ Fin al n l P ∧ U.Stp (l ++ P) [])) ∨
    (∃ P : List (List Int), e = .returned (.agg #[.int .i64 0, .slice none 0 0, .int .i64 bud, .slice none 0 0]) ∧ Hid (Below w0.heap.size w0 w') ∧ Hid (P.length = bud ∧ Fin al n l P)) := by
  rcases h with h | ⟨v, F, s, h1, h2, h3⟩ | h
  · exact .inl h
  · obtain ⟨pa, pp, hv, _⟩ := h2.out.gr _ (fun _ _ => rfl)
    subst hv
    exact .inr (.inl ⟨pa, _, pp, s.cf, s.prf, F, s, h1, hid ⟨h2.out, rfl⟩, h3⟩)
  · exact .inr (.inr h)

theorem SEnd.below {al : Bool} {n : Nat} {l : List (List Int)} {bud : Nat} {w0 w' : World} {e : Ending} (h : SEnd al n l bud w0 e w') : Below w0.heap.size w0 w' := by
  rcases h with ⟨_, _, _, _, h, _⟩ | ⟨_, _, _, _, h, _⟩ | ⟨_, _, h, _⟩
  · exact h.out
  · exact h.out.b0
  · exact h.out

theorem old_blk {w1 w3 : World} {r : Nat} {o : Obj} (b : Below w1.heap.size w1 w3) (h : w1.heap[r]? = some o) : w3.heap[r]? = some o := (b.block _ (blk_lt h)).trans h

/-- A new round where no clause is given up. -/
theorem anew_plain {al : Bool} {l : List (List Int)} {bud : Nat} {c : SC} {w0 : World} (hc : c.all = true ∨ bud < 1000) (hb : bud ≤ 1000000) : Anew al l bud c w0 := by
  intro g s m w h iv he hcf
  have h1 := iv.ns
  have h2 := iv.cf
  have h3 := iv.lm
  have h4 := iv.rd
  obtain ⟨la, lw, _⟩ := h.o.lens
  have hn := h.hn
  obtain ⟨a1, a2, a3, a4⟩ := iv.anew h.W.j.t h.W.j.n (by omega) he
  refine (anew_nil h (hc.elim Or.inl (fun _ => Or.inr (by omega))) (by omega) (by omega)).mono fun e w' q => ?_
  exact ⟨q.1, g, _, q.2, hid ⟨a1, a4, a3, Nat.le_refl _⟩⟩

theorem beg_hd {al : Bool} {l : List (List Int)} {bud K0 n : Nat} {c : SC} {g : G} (hg : Gb n l g) (hn : c.kw.n = n) (hx : ∀ c ∈ l, ∀ y ∈ c, 0 ≤ y ∧ y < 2 * (n : Int)) (hK : l.length + (bud * (3 * n + 9) + (n + 1)) * (n * (l.length + bud) + 2) ≤ K0) : Hd al l bud K0 c g (nextF (begF n l)) := by
  subst hn
  obtain ⟨iv, e1, e2, e3, e4, e5, e6, e7⟩ := Iv.begin al hg hx
  refine ⟨iv, by omega, ?_⟩
  rw [hg.su]
  have : muF c.kw.n bud (nextF (begF c.kw.n l)) = bud * (3 * c.kw.n + 9) + (c.kw.n + 1) := by
    unfold muF muN
    rw [if_neg (by omega), e1, e7]
    simp
  rw [this]
  exact hK

structure BegC (n : Nat) (all : Bool) (l : List (List Int)) (w : World) (SB : Nat) (c : SC) (g : G) (m : MV) (w' : World) : Prop where
  sb : c.SB = SB
  fst : c.fst = l.length
  all : c.all = all
  sm : Sm c w g (nextF (begF n l)) m w'
  gb : Gb n l g
  kn : c.kw.n = n

theorem BegEnd.out {w w' : World} {n : Nat} {all : Bool} {l : List (List Int)} {SB : Nat} (h : BegEnd w n all l SB w') : ∃ c g m, Hid (BegC n all l w SB c g m w') := by
  obtain ⟨c, g, m, h1, h2, h3, h4, h5, h6⟩ := h
  exact ⟨c, g, m, hid ⟨h1, h2, h3, h5.out, h6.out, h4⟩⟩

/-- search, of a new solver. -/
theorem beg_search {al : Bool} {n : Nat} {all : Bool} {l : List (List Int)} {bud SB : Nat} {c : SC} {g : G} {m : MV} {w0 w : World} (h : BegC n all l w0 SB c g m w) (hx : ∀ c ∈ l, ∀ y ∈ c, 0 ≤ y ∧ y < 2 * (n : Int)) (hn : n ≤ 900) (hN : l.length + bud ≤ 20000) (hK : l.length + (bud * (3 * n + 9) + (n + 1)) * (n * (l.length + bud) + 2) ≤ 250000000000) (HA : ∀ c w0, c.all = all → c.kw.n = n → c.fst = l.length → Anew al l bud c w0) :
    Calls Tryz.prog 18 #[.pointer (some ⟨SB, 0, none⟩), .int .i64 (bud : Nat)] w fun e w' => SEnd al n l bud w0 e w' := by
  have hs := search_is h.sm (beg_hd h.gb h.kn hx (Nat.le_refl _)) h.fst (by have := h.kn; omega) hN hK (HA c w0 h.all h.kn h.fst)
  rw [h.sb, h.kn] at hs
  exact hs

section
variable {al : Bool} {n : Nat} {l : List (List Int)} {bud : Nat} {w : World}

set_option maxRecDepth 20000 in
set_option maxHeartbeats 4000000 in
theorem solve_good (ao : Option Addr) (len cap : Nat) (hl : U.Grid w ao len cap l) (hchk : U.chkF n l = 0) (hx : ∀ c ∈ l, c.length ≤ 1000 ∧ ∀ y ∈ c, 0 ≤ y ∧ y < 2 * (n : Int)) (hlen : len ≤ 1000) (hn : n ≤ 900) (hN : l.length + bud ≤ 20000) (hK : l.length + (bud * (3 * n + 9) + (n + 1)) * (n * (l.length + bud) + 2) ≤ 250000000000) (HA : ∀ c w0, c.all = decide ((n : Int) ≤ 8) → c.kw.n = n → c.fst = l.length → Anew al l bud c w0) :
    Calls Tryz.prog 9 #[.int .i64 n, .slice ao len cap, .int .i64 bud] w fun e w' => ∃ r, e = .returned (.tuple #[r, .int .i64 0]) ∧ SolEnd al n l bud w r w' := by
  have hal : Below w.heap.size w (w.alloc (.cells #[.int .i64 0, .slice none 0 0, .int .i64 0, .slice none 0 0] 27)) := by go_grown
  have HL := hid (hl.keep hal)
  have HR : Hid ((w.alloc (.cells #[.int .i64 0, .slice none 0 0, .int .i64 0, .slice none 0 0] 27)).heap[w.heap.size]? = some (.cells #[.int .i64 0, .slice none 0 0, .int .i64 0, .slice none 0 0] 27 (0, 0))) := hid (new_same w _)
  have HX := hid hx
  have HX2 : Hid (∀ c ∈ l, ∀ y ∈ c, 0 ≤ y ∧ y < 2 * (n : Int)) := hid (fun c hc => (hx c hc).2)
  have HHA := hid HA
  have HC := hid hchk
  have hn2 : n ≤ 1048576 := by omega
  have HBA := hid hal
  have hb0 : ¬ (bud : Int) < 0 := by omega
  have hbm : (bud : Int) ≤ 9223372036854775807 := by omega
  clear hl hx HA hchk hal
  go_enter Tryz.func9, Tryz.ntmps9
  go_wp2_with (first
    | (go_at_call 16; with_reducible (refine (U.check_any _ _ _ _ l _ HL.out).mono ?_); rw [HC.out]; rintro e w1 ⟨rfl, b1⟩; have HL1 := hid (HL.out.keep b1); have hr1 := hid (old_blk b1 HR.out); have B1 := hid (Below.next HBA.out b1))
    | (go_at_call 17; with_reducible (refine (begin_is n hn2 ao len cap l _ HL1.out hlen HX.out).mono ?_); rintro e w2 ⟨SB, rfl, be⟩; have be2 := BegEnd.out be; obtain ⟨cc, gg, mm, BE⟩ := be2)
    | (go_at_call 18; with_reducible (refine (beg_search BE.out HX2.out hn hN hK HHA.out).mono ?_); intro e w3 hS; have b3 := SEnd.below hS; have hr3 := old_blk b3 hr1.out; have z0 := cell_of (o := 0) hr3; have z1 := cell_of (o := 1) hr3; have z2 := cell_of (o := 2) hr3; have z3 := cell_of (o := 3) hr3; have y0 := frozen_of (o := 0) hr3; have y1 := frozen_of (o := 1) hr3; have y2 := frozen_of (o := 2) hr3; have y3 := frozen_of (o := 3) hr3; have HR3 := hid hr3; have B3 := hid (Below.next B1.out b3); have hS2 := SEnd.out hS; clear hr3 b3 hS; rcases hS2 with ⟨tb, cf, tr, rfl, b3, M3, F3⟩ | ⟨pa, kk, pp, cf, P, F, ss, rfl, UE, F3⟩ | ⟨P, rfl, b3, F3⟩))
  · have H8 := hid (res_blk (a' := .int .i64 1) (b' := .slice (some ⟨tb, 0, none⟩) n n) (cc' := .int .i64 cf) (d' := .slice none 0 0) HR3.out)
    have HE := hid (res_bel (a' := .int .i64 1) (b' := .slice (some ⟨tb, 0, none⟩) n n) (cc' := .int .i64 cf) (d' := .slice none 0 0) B3.out (Nat.le_refl _))
    have hne : tb ≠ w.heap.size := fun q => by
      have t1 : Typ w3 tb 4 := ⟨_, _, M3.out⟩
      rw [q] at t1
      exact absurd (t1.one ⟨_, _, HR3.out⟩) (by decide)
    have HM := hid ((res_oth (a' := .int .i64 1) (b' := .slice (some ⟨tb, 0, none⟩) n n) (cc' := .int .i64 cf) (d' := .slice none 0 0) hne).trans M3.out)
    generalize hW9 : ((((w3.setCell ⟨w.heap.size, 0, none⟩ (.int .i64 1)).setCell ⟨w.heap.size, 1, none⟩ (.slice (some ⟨tb, 0, none⟩) n n)).setCell ⟨w.heap.size, 2, none⟩ (.int .i64 cf)).setCell ⟨w.heap.size, 3, none⟩ (.slice none 0 0)) = w9 at *
    have r0 : w9.cell? ⟨w.heap.size, 0, none⟩ = some (.int .i64 1) := cell_of H8.out
    have r1 : w9.cell? ⟨w.heap.size, 1, none⟩ = some (.slice (some ⟨tb, 0, none⟩) n n) := cell_of H8.out
    have r2 : w9.cell? ⟨w.heap.size, 2, none⟩ = some (.int .i64 cf) := cell_of H8.out
    have r3 : w9.cell? ⟨w.heap.size, 3, none⟩ = some (.slice none 0 0) := cell_of H8.out
    refine bodyPost_ret (by simp [results, Tryz.results9, go_sem, r0, r1, r2, r3]; try rfl) rfl ?_
    exact ⟨_, rfl, .inl ⟨tb, cf, tr, rfl, HE, HM, F3⟩⟩
  · have H8 := hid (res_blk (a' := .int .i64 2) (b' := .slice none 0 0) (cc' := .int .i64 cf) (d' := .slice pa kk pp) HR3.out)
    have HE := hid (res_bel (a' := .int .i64 2) (b' := .slice none 0 0) (cc' := .int .i64 cf) (d' := .slice pa kk pp) B3.out (Nat.le_refl _))
    have HG := hid (UE.out.1.gr _ (fun i hi => res_oth (a' := .int .i64 2) (b' := .slice none 0 0) (cc' := .int .i64 cf) (d' := .slice pa kk pp) (r := w.heap.size) (fun q => by have := UE.out.1.fn i hi; have := blk_lt hr1.out; omega)))
    generalize hW9 : ((((w3.setCell ⟨w.heap.size, 0, none⟩ (.int .i64 2)).setCell ⟨w.heap.size, 1, none⟩ (.slice none 0 0)).setCell ⟨w.heap.size, 2, none⟩ (.int .i64 cf)).setCell ⟨w.heap.size, 3, none⟩ (.slice pa kk pp)) = w9 at *
    have r0 : w9.cell? ⟨w.heap.size, 0, none⟩ = some (.int .i64 2) := cell_of H8.out
    have r1 : w9.cell? ⟨w.heap.size, 1, none⟩ = some (.slice none 0 0) := cell_of H8.out
    have r2 : w9.cell? ⟨w.heap.size, 2, none⟩ = some (.int .i64 cf) := cell_of H8.out
    have r3 : w9.cell? ⟨w.heap.size, 3, none⟩ = some (.slice pa kk pp) := cell_of H8.out
    refine bodyPost_ret (by simp [results, Tryz.results9, go_sem, r0, r1, r2, r3]; try rfl) rfl ?_
    refine ⟨_, rfl, .inr (.inl ⟨pa, kk, pp, cf, P, rfl, HE, ?_, F3⟩)⟩
    obtain ⟨a, cp, e, gr⟩ := HG.out
    have hp := UE.out.2
    subst hp
    cases e
    exact hid gr
  · have H8 := hid (res_blk (a' := .int .i64 0) (b' := .slice none 0 0) (cc' := .int .i64 bud) (d' := .slice none 0 0) HR3.out)
    have HE := hid (res_bel (a' := .int .i64 0) (b' := .slice none 0 0) (cc' := .int .i64 bud) (d' := .slice none 0 0) B3.out (Nat.le_refl _))
    generalize hW9 : ((((w3.setCell ⟨w.heap.size, 0, none⟩ (.int .i64 0)).setCell ⟨w.heap.size, 1, none⟩ (.slice none 0 0)).setCell ⟨w.heap.size, 2, none⟩ (.int .i64 bud)).setCell ⟨w.heap.size, 3, none⟩ (.slice none 0 0)) = w9 at *
    have r0 : w9.cell? ⟨w.heap.size, 0, none⟩ = some (.int .i64 0) := cell_of H8.out
    have r1 : w9.cell? ⟨w.heap.size, 1, none⟩ = some (.slice none 0 0) := cell_of H8.out
    have r2 : w9.cell? ⟨w.heap.size, 2, none⟩ = some (.int .i64 bud) := cell_of H8.out
    have r3 : w9.cell? ⟨w.heap.size, 3, none⟩ = some (.slice none 0 0) := cell_of H8.out
    refine bodyPost_ret (by simp [results, Tryz.results9, go_sem, r0, r1, r2, r3]; try rfl) rfl ?_
    exact ⟨_, rfl, .inr (.inr ⟨P, rfl, HE, F3⟩)⟩

set_option maxRecDepth 20000 in
set_option maxHeartbeats 4000000 in
/-- Clauses that may not be. -/
theorem solve_bad (vars bd : Int) (ao : Option Addr) (len cap : Nat) (hl : U.Grid w ao len cap l) (hchk : ¬ U.chkF vars l = 0) :
    Calls Tryz.prog 9 #[.int .i64 vars, .slice ao len cap, .int .i64 bd] w fun e w' => e = .returned (.tuple #[.agg #[.int .i64 0, .slice none 0 0, .int .i64 0, .slice none 0 0], .int .i64 (U.chkF vars l)]) ∧ Hid (Below w.heap.size w w') := by
  have hal : Below w.heap.size w (w.alloc (.cells #[.int .i64 0, .slice none 0 0, .int .i64 0, .slice none 0 0] 27)) := by go_grown
  have HL := hid (hl.keep hal)
  have HR : Hid ((w.alloc (.cells #[.int .i64 0, .slice none 0 0, .int .i64 0, .slice none 0 0] 27)).heap[w.heap.size]? = some (.cells #[.int .i64 0, .slice none 0 0, .int .i64 0, .slice none 0 0] 27 (0, 0))) := hid (new_same w _)
  have HBA := hid hal
  obtain ⟨ck, hck⟩ : ∃ ck, U.chkF vars l = ck := ⟨_, rfl⟩
  rw [hck] at hchk
  have HC := hid hck
  have hne : (ck == 0) = false := by rw [beq_eq_false_iff_ne]; exact hchk
  rw [hck]
  clear hl hal hck
  go_enter Tryz.func9, Tryz.ntmps9
  go_wp2_with (first
    | (go_at_call 16; with_reducible (refine (U.check_any _ _ _ _ l _ HL.out).mono ?_); rw [HC.out]; rintro e w1 ⟨rfl, b1⟩; have hr3 := old_blk b1 HR.out; have z0 := cell_of (o := 0) hr3; have z1 := cell_of (o := 1) hr3; have z2 := cell_of (o := 2) hr3; have z3 := cell_of (o := 3) hr3; have y0 := frozen_of (o := 0) hr3; have y1 := frozen_of (o := 1) hr3; have y2 := frozen_of (o := 2) hr3; have y3 := frozen_of (o := 3) hr3; have HR3 := hid hr3; have B1 := hid (Below.next HBA.out b1); clear hr3 b1))
  have H8 := hid (res_blk (a' := .int .i64 0) (b' := .slice none 0 0) (cc' := .int .i64 0) (d' := .slice none 0 0) HR3.out)
  have HE := hid (res_bel (a' := .int .i64 0) (b' := .slice none 0 0) (cc' := .int .i64 0) (d' := .slice none 0 0) B1.out (Nat.le_refl _))
  generalize hW9 : ((((w1.setCell ⟨w.heap.size, 0, none⟩ (.int .i64 0)).setCell ⟨w.heap.size, 1, none⟩ (.slice none 0 0)).setCell ⟨w.heap.size, 2, none⟩ (.int .i64 0)).setCell ⟨w.heap.size, 3, none⟩ (.slice none 0 0)) = w9 at *
  have r0 : w9.cell? ⟨w.heap.size, 0, none⟩ = some (.int .i64 0) := cell_of H8.out
  have r1 : w9.cell? ⟨w.heap.size, 1, none⟩ = some (.slice none 0 0) := cell_of H8.out
  have r2 : w9.cell? ⟨w.heap.size, 2, none⟩ = some (.int .i64 0) := cell_of H8.out
  have r3 : w9.cell? ⟨w.heap.size, 3, none⟩ = some (.slice none 0 0) := cell_of H8.out
  refine bodyPost_ret (by simp [results, Tryz.results9, go_sem, r0, r1, r2, r3]; try rfl) rfl ?_
  exact ⟨rfl, HE⟩

set_option maxRecDepth 20000 in
set_option maxHeartbeats 4000000 in
/-- A budget that is none. -/
theorem solve_neg (vars bd : Int) (ao : Option Addr) (len cap : Nat) (hl : U.Grid w ao len cap l) (hchk : U.chkF vars l = 0) (hbd : bd < 0) :
    Calls Tryz.prog 9 #[.int .i64 vars, .slice ao len cap, .int .i64 bd] w fun e w' => e = .returned (.tuple #[.agg #[.int .i64 0, .slice none 0 0, .int .i64 0, .slice none 0 0], .int .i64 1]) ∧ Hid (Below w.heap.size w w') := by
  have hal : Below w.heap.size w (w.alloc (.cells #[.int .i64 0, .slice none 0 0, .int .i64 0, .slice none 0 0] 27)) := by go_grown
  have HL := hid (hl.keep hal)
  have HR : Hid ((w.alloc (.cells #[.int .i64 0, .slice none 0 0, .int .i64 0, .slice none 0 0] 27)).heap[w.heap.size]? = some (.cells #[.int .i64 0, .slice none 0 0, .int .i64 0, .slice none 0 0] 27 (0, 0))) := hid (new_same w _)
  have HBA := hid hal
  have HC := hid hchk
  clear hl hal hchk
  go_enter Tryz.func9, Tryz.ntmps9
  go_wp2_with (first
    | (go_at_call 16; with_reducible (refine (U.check_any _ _ _ _ l _ HL.out).mono ?_); rw [HC.out]; rintro e w1 ⟨rfl, b1⟩; have hr3 := old_blk b1 HR.out; have z0 := cell_of (o := 0) hr3; have z1 := cell_of (o := 1) hr3; have z2 := cell_of (o := 2) hr3; have z3 := cell_of (o := 3) hr3; have y0 := frozen_of (o := 0) hr3; have y1 := frozen_of (o := 1) hr3; have y2 := frozen_of (o := 2) hr3; have y3 := frozen_of (o := 3) hr3; have HR3 := hid hr3; have B1 := hid (Below.next HBA.out b1); clear hr3 b1))
  have H8 := hid (res_blk (a' := .int .i64 0) (b' := .slice none 0 0) (cc' := .int .i64 0) (d' := .slice none 0 0) HR3.out)
  have HE := hid (res_bel (a' := .int .i64 0) (b' := .slice none 0 0) (cc' := .int .i64 0) (d' := .slice none 0 0) B1.out (Nat.le_refl _))
  generalize hW9 : ((((w1.setCell ⟨w.heap.size, 0, none⟩ (.int .i64 0)).setCell ⟨w.heap.size, 1, none⟩ (.slice none 0 0)).setCell ⟨w.heap.size, 2, none⟩ (.int .i64 0)).setCell ⟨w.heap.size, 3, none⟩ (.slice none 0 0)) = w9 at *
  have r0 : w9.cell? ⟨w.heap.size, 0, none⟩ = some (.int .i64 0) := cell_of H8.out
  have r1 : w9.cell? ⟨w.heap.size, 1, none⟩ = some (.slice none 0 0) := cell_of H8.out
  have r2 : w9.cell? ⟨w.heap.size, 2, none⟩ = some (.int .i64 0) := cell_of H8.out
  have r3 : w9.cell? ⟨w.heap.size, 3, none⟩ = some (.slice none 0 0) := cell_of H8.out
  refine bodyPost_ret (by simp [results, Tryz.results9, go_sem, r0, r1, r2, r3]; try rfl) rfl ?_
  exact ⟨rfl, HE⟩
end
end Go.Proofs.YtimfjoinjfecjaaGreat

namespace Go.Proofs.YtimfjoinjfecjaaGreat.U
open Go.RowKit
set_option linter.unusedVariables false

/-- The clause at that place of a proof does. -/
def Ok (L P : List (List Int)) (i : Nat) : Prop := Stp (L ++ P.take i) (P.getD i [])

/-- r is the place of the first that does not; -1: all do. -/
def IsFst (L P : List (List Int)) (r : Int) : Prop := (r = -1 ∧ ∀ j, j < P.length → Ok L P j) ∨ ∃ i : Nat, i < P.length ∧ r = i ∧ (∀ j, j < i → Ok L P j) ∧ ¬ Ok L P i

def nulF (xs : List Int) : Bool := decide (xs.length = 0)

/-- A proof that nothing holds. -/
def IsRef (L P : List (List Int)) : Prop := P.any nulF = true ∧ ∀ j, j < P.length → Ok L P j

theorem fst_neg {L P : List (List Int)} {r : Int} (h : IsFst L P r) : r < 0 ↔ ∀ j, j < P.length → Ok L P j := by
  rcases h with ⟨rfl, h⟩ | ⟨i, hi, rfl, h1, h2⟩
  · exact ⟨fun _ => h, fun _ => by omega⟩
  · exact ⟨fun h => by omega, fun h => absurd (h i hi) h2⟩

theorem fst_hit {L P : List (List Int)} {i : Nat} (hi : i < P.length) (h : ∀ j, j < i → Ok L P j) (g : ¬ Ok L P i) : IsFst L P i := .inr ⟨i, hi, rfl, h, g⟩
theorem fst_end {L P : List (List Int)} {i : Nat} (hi : P.length ≤ i) (h : ∀ j, j < i → Ok L P j) : IsFst L P (-1) := .inl ⟨rfl, fun j hj => h j (by omega)⟩
theorem ok_step {L P : List (List Int)} {i : Nat} (h : ∀ j, j < i → Ok L P j) (g : Ok L P i) : ∀ j, j < i + 1 → Ok L P j := fun j hj => by
  by_cases e : j = i
  · subst e; exact g
  · exact h j (by omega)

/-! ### What has a step holds -/
theorem bad_holds0 {L : List (List Int)} {S : List Int} {len : Nat} {B : Nat → Bool} (hL : ∀ c ∈ L, holdsF c len B = true) (hS : ∀ x ∈ S, 0 ≤ x → holF x len B = true) : ¬ Bad L S := fun h =>
  bad_holds (S := S.filter fun x => decide (0 ≤ x)) hL (fun x hx => by simp at hx; exact hS x hx.1 hx.2)
    (bad_mono (fun c hc => hc) (fun x hx h0 => .base (by simp; exact ⟨hx, h0⟩) h0) h)

theorem hol_not2 {x : Int} {len : Nat} {B : Nat → Bool} (h0 : 0 ≤ x) (h : holF x len B = false) : holF (notF x) len B = true := by
  have e : ¬ x < 0 := by omega
  have e2 : ¬ notF x < 0 := by have := not_pos h0; omega
  have hv : notF x / 2 = x / 2 := by simp only [notF]; rw [if_neg e]; split <;> omega
  have hn : negF (notF x) = !negF x := by
    have hp := not_pos h0
    rw [Bool.eq_iff_iff]
    simp only [negF, Bool.not_eq_true', decide_eq_true_eq, decide_eq_false_iff_not]
    simp only [notF]; rw [if_neg e]
    split <;> omega
  simp only [holF] at h ⊢
  rw [if_neg e] at h
  rw [if_neg e2, hv, hn]
  generalize truF (x / 2) len B = t at h ⊢
  generalize negF x = n at h ⊢
  cases t <;> cases n <;> simp_all

theorem stp_holds {L : List (List Int)} {c : List Int} {len : Nat} {B : Nat → Bool} (hL : ∀ c ∈ L, holdsF c len B = true) (h : Stp L c) : holdsF c len B = true := by
  cases hh : holdsF c len B
  · refine absurd h (bad_holds0 hL fun x hx h0 => ?_)
    obtain ⟨y, hy, rfl⟩ := List.mem_map.1 hx
    have hf : holF y len B = false := by
      have := List.any_eq_false.1 (show c.any (fun x => holF x len B) = false from hh) y hy
      simpa using this
    by_cases y0 : 0 ≤ y
    · exact hol_not2 y0 hf
    · rw [not_neg (by omega)] at h0; omega
  · rfl

theorem ref_no {L P : List (List Int)} (h : P.any nulF = false) : false = true ↔ IsRef L P :=
  ⟨fun e => (by cases e), fun g => absurd g.1 (by rw [h]; simp)⟩
theorem ref_neg {L P : List (List Int)} {r : Int} (h : P.any nulF = true) (g : IsFst L P r) : r < 0 ↔ IsRef L P := by
  rw [fst_neg g]; exact ⟨fun q => ⟨h, q⟩, fun q => q.2⟩

theorem short_cat {L P : List (List Int)} (hl : ∀ c ∈ L, c.length ≤ 100) (hp : ∀ c ∈ P, c.length ≤ 100) (k : Nat) : ∀ c ∈ L ++ P.take k, c.length ≤ 100 := by
  intro c hc
  rcases List.mem_append.1 hc with hc | hc
  · exact hl c hc
  · exact hp c (List.mem_of_mem_take hc)

theorem ok_at {L P : List (List Int)} {k : Nat} {ys : List Int} (h : P[k]? = some ys) : Ok L P k ↔ Stp (L ++ P.take k) ys := by
  have e : P.getD k [] = ys := by simp [h]
  simp only [Ok]; rw [e]

theorem row_short {w : World} {a : Option Addr} {m c : Nat} {P : List (List Int)} {k : Nat} {ys : List Int} (hp : ∀ c ∈ P, c.length ≤ 100) (h : P[k]? = some ys) (r : Row w a m c ys) : m ≤ 1000 := by
  have := hp ys (List.mem_of_getElem? h)
  have := r.1
  omega
end Go.Proofs.YtimfjoinjfecjaaGreat.U

namespace Go.Proofs.YtimfjoinjfecjaaGreat
open Go.RowKit
set_option linter.unusedVariables false

theorem U.Grid.vals {w : World} {ao : Option Addr} {n cap : Nat} {xss : List (List Int)} (h : U.Grid w ao n cap xss) : ∃ vs, vs.length = n ∧ GV w vs xss ∧ (0 < n → ∃ ad, ao = some ad ∧ ∀ j u, vs[j]? = some u → w.cell? (ad.add j) = some u) := by
  by_cases h0 : 0 < n
  · obtain ⟨b, off, e, hc⟩ := h.2.2.2.2 h0
    refine ⟨(List.range n).map fun j => (w.cell? ⟨b, off + j, none⟩).getD undef, by simp, ⟨by simp [h.1], fun j hj => ?_⟩, fun _ => ⟨_, e, fun j u hj => ?_⟩⟩
    · have hj2 : j < n := by simpa using hj
      obtain ⟨a, m, c, h1, h2⟩ := hc j hj2
      exact ⟨a, m, c, by simp [hj2, h1], h2⟩
    · have hj2 : j < n := by
        have := (List.getElem?_eq_some_iff.1 hj).1; simpa using this
      obtain ⟨a, m, c, h1, h2⟩ := hc j hj2
      simp [hj2, h1] at hj
      rw [← hj, ← h1]
      congr 1
      by_cases hz : j = 0
      · subst hz; rfl
      · simp [Addr.add, hz]
  · refine ⟨[], by simp; omega, ⟨by have := h.1; simp; omega, fun j hj => by simp at hj⟩, fun h => absurd h h0⟩

/-- A list of clauses that came in, behind a list that the call has made. -/
theorem append_grid {w w0 : World} {ops : Array Oper} {rest : List Oper} {o : Oper} {a : Act} {Q : Exit → Act → World → Prop} (hgd : o.guard = none) (s x : Operand)
    (ho : o.op = .call { callee := .builtin .append, args := #[s, x], argTypes := #[22, 22] }) (k : Nat) (v : Value) (vs : List Value) (hs : a.eval s = v) (own : w.ownsRow w0.heap.size 42 1 v k vs) (bel : Below w0.heap.size w0 w)
    (ao : Option Addr) (n c : Nat) (hx : a.eval x = .slice ao n c) (xss : List (List Int)) (gr : U.Grid w0 ao n c xss) (hk : k ≤ 1000) (hbd : n ≤ 1000)
    (h : ∀ us v' w', Hid (us.length = n) → Hid (GV w0 us xss) → Hid (w'.ownsRow w0.heap.size 42 1 v' (k + n) (vs ++ us)) → Hid (Below w0.heap.size w0 w') → wpList Tryz.prog ops Q rest (a.put o.dst v') w') : wpList Tryz.prog ops Q (o :: rest) a w := by
  obtain ⟨i0, hi, hz0, hz1, hz2⟩ := info_parts Tryz.infoG
  obtain ⟨us, hl, gv, hc⟩ := gr.vals
  have hbel : ∀ {w'}, w.grownBy w' v.ownBlock → Below w0.heap.size w0 w' := fun hg => bel.grown hg bel.size fun j hj => (own.lt j hj).1
  by_cases h0 : n = 0
  · subst h0
    have e : us = [] := List.eq_nil_of_length_eq_zero hl
    subst e
    cases ao with
    | none =>
      have ec := gr.2.2.2.1 rfl
      subst ec
      refine wpList_append_own_none hgd s x 22 ho w0.heap.size 42 i0 1 Tryz.underlying22 hi v k vs hs own hx ?_
      exact h [] _ _ hl gv (hid (by simpa using own)) bel
    | some ad =>
      refine wpList_append_own (P := Tryz.prog) (w := w) hgd s x 22 ho w0.heap.size 42 i0 (.slice none 0 0) 1 24 Tryz.underlying22 hi hz0 hz1 hz2 rfl (by decide) v k vs hs own ad 0 c [] hx rfl (fun j u hj => by simp at hj) (fun u hu => by simp at hu) (by unfold maxLen; omega) (by omega) bel.size ?_
      intro v' w' h1 h2 _
      exact h [] v' w' hl gv (hid h1) (hbel h2)
  · obtain ⟨ad, rfl, hca⟩ := hc (by omega)
    refine wpList_append_own (P := Tryz.prog) (w := w) hgd s x 22 ho w0.heap.size 42 i0 (.slice none 0 0) 1 24 Tryz.underlying22 hi hz0 hz1 hz2 rfl (by decide) v k vs hs own ad n c us hx (by rw [hl, Nat.mul_one]) (fun j u hj => ?_) (gv_one gv) (by unfold maxLen; omega) (by omega) bel.size ?_
    · have h1 := hca j u hj
      rw [bel.cell (cell_lt h1)]; exact h1
    · intro v' w' h1 h2 _
      exact h us v' w' hl gv (hid h1) (hbel h2)

theorem cat_grid {w w0 : World} {ops : Array Oper} {rest : List Oper} {o : Oper} {a : Act} {Q : Exit → Act → World → Prop} (hgd : o.guard = none) (s x : Operand)
    (ho : o.op = .call { callee := .builtin .append, args := #[s, x], argTypes := #[22, 22] }) (v : Value) (xss yss : List (List Int)) (hs : a.eval s = v) (own : OwnG w0 w v xss) (bel : Below w0.heap.size w0 w)
    (ao : Option Addr) (n c : Nat) (hx : a.eval x = .slice ao n c) (gr : U.Grid w0 ao n c yss) (hk : xss.length ≤ 1000) (hbd : n ≤ 1000)
    (h : ∀ v' w', Hid (OwnG w0 w' v' (xss ++ yss)) → Hid (Below w0.heap.size w0 w') → wpList Tryz.prog ops Q rest (a.put o.dst v') w') : wpList Tryz.prog ops Q (o :: rest) a w := by
  obtain ⟨vs, h1, h2⟩ := own
  refine append_grid hgd s x ho _ v vs hs h1 bel ao n c hx yss gr hk hbd fun us v' w' g1 g2 g3 g4 => h v' w' (hid ⟨vs ++ us, ?_, h2.app g2.out⟩) g4
  rw [List.length_append, gr.1]; exact g3.out

/-- A truth that tells whether p. -/
def BEnd (w : World) (p : Prop) (e : Ending) (w' : World) : Prop := ∃ b : Bool, e = .returned (.bool b) ∧ Hid (b = true ↔ p) ∧ Hid (Below w.heap.size w w')

set_option maxHeartbeats 1000000 in
theorem prf_check (w : World) (la : Option Addr) (n cap : Nat) (L : List (List Int)) (gl : U.Grid w la n cap L) (pa : Option Addr) (m pcap : Nat) (P : List (List Int)) (gp : U.Grid w pa m pcap P) (hn : n ≤ 100) (hm : m ≤ 400) (hl : ∀ c ∈ L, c.length ≤ 100) (hp : ∀ c ∈ P, c.length ≤ 100) :
    Calls Tryz.prog 20 #[.slice la n cap, .slice pa m pcap] w fun e w' => ∃ r : Int, e = .returned (.int .i64 r) ∧ Hid (U.IsFst L P r) ∧ Hid (Below w.heap.size w w') := by
  have HGL := hid gl
  have HGP := hid gp
  have HL := hid hl
  have HP := hid hp
  have hn2 : n ≤ 1000 := by omega
  have HB0 := Below.refl w.heap.size w
  clear gl gp hl hp
  go_enter Tryz.func20, Tryz.ntmps20
  go_wp2_with (at_builtin; refine cat_grid (w0 := w) rfl (.tmp 7) (.tmp 8) rfl _ [] L rfl (OwnG.nil _ _) HB0 _ _ _ rfl HGL.out (by simp) hn2 ?_; intro v1 w1 hown1 hb1)
  go_loopw [5, 6] (fun v i wr => ∃ k : Nat, k ≤ m ∧ i = .int .i64 k ∧ Hid (OwnG w wr v (L ++ P.take k)) ∧ Hid (∀ j, j < k → U.Ok L P j) ∧ Hid (Below w.heap.size w wr)) (fun _ i _ => m - (intOf i).toNat)
  case atStart => exact ⟨0, Nat.zero_le _, rfl, hid (by have := hown1.out; simpa using this), hid (fun j hj => absurd hj (Nat.not_lt_zero _)), hb1⟩
  case round =>
    clear hown1 hb1
    obtain ⟨k, hk, rfl, hown, hok, hb⟩ := hrel
    by_cases hlt : k < m
    · obtain ⟨b, off, a, mm, cc, ys, rfl, hc0, hy, HRW⟩ := HGP.out.at hlt
      have hc := (hb.out.cell (cell_lt hc0)).trans hc0
      have hrow := hid (HRW.out.keep hb.out)
      clear hc0
      obtain ⟨ao, nn, c, rfl, hnn', hG⟩ := hown.out.grid hb.out
      have hnn := hnn'.out
      have hll : (L ++ P.take k).length = n + k := by rw [List.length_append, HGL.out.1, List.length_take, HGP.out.1]; omega
      have hnn2 : nn ≤ 500 := by omega
      have hms := U.row_short HP.out hy.out hrow.out
      have HSH := hid (U.short_cat HL.out HP.out k)
      have HO := hid (U.ok_at (L := L) hy.out)
      have HTN : Hid (L ++ P.take (k + 1) = (L ++ P.take k) ++ [ys]) := hid (by rw [List.take_add_one, hy.out]; simp)
      have HLEN : Hid ((L ++ P.take k).length ≤ 1000) := hid (by omega)
      clear hnn hll hnn'
      go_wp2_with (first
        | (go_at_call 39; with_reducible (refine (U.rstep_any _ ao nn c (L ++ P.take k) hG.out a mm cc ys hrow.out hms hnn2 HSH.out).mono ?_); rintro e w2 ⟨t, rfl, hiff, hb2⟩; cases t <;> have hc2 := (hb2.out.cell (cell_lt hc)).trans hc)
        | (at_builtin; refine cat_cell (w0 := w) rfl (.tmp 24) (.tmp 29) rfl _ (L ++ P.take k) ys rfl ((hown.out.keep hb2.out).alloc _) ((Below.next hb.out hb2.out).alloc (Below.next hb.out hb2.out).size _) _ rfl a mm cc (by simp) HRW.out HLEN.out ?_; intro v3 w3 hown3 hb3 _))
      · go_ret
        refine ⟨_, rfl, hid (U.fst_hit (by rw [HGP.out.1]; exact hlt) hok.out (fun h => ?_)), Below.next hb.out hb2.out⟩
        have := hiff.out.2 (HO.out.1 h); cases this
      · have HK := hid (U.ok_step hok.out (HO.out.2 (hiff.out.1 (by simp))))
        go_roundw
        case rel => exact ⟨k + 1, by omega, by go_num, hid (by rw [HTN.out]; exact hown3.out), HK, hb3⟩
        case measure => simp only [intOf]; omega
    · go_wp2
      go_ret
      exact ⟨_, rfl, hid (U.fst_end (i := k) (by rw [HGP.out.1]; omega) hok.out), hb⟩

set_option maxHeartbeats 1000000 in
theorem prf_refutes (w : World) (la : Option Addr) (n cap : Nat) (L : List (List Int)) (gl : U.Grid w la n cap L) (pa : Option Addr) (m pcap : Nat) (P : List (List Int)) (gp : U.Grid w pa m pcap P) (hn : n ≤ 100) (hm : m ≤ 400) (hl : ∀ c ∈ L, c.length ≤ 100) (hp : ∀ c ∈ P, c.length ≤ 100) :
    Calls Tryz.prog 12 #[.slice la n cap, .slice pa m pcap] w fun e w' => BEnd w (U.IsRef L P) e w' := by
  have HGL := hid gl
  have HGP := hid gp
  have HL := hid hl
  have HP := hid hp
  clear gl gp hl hp
  go_enter Tryz.func12, Tryz.ntmps12
  go_wp2
  go_loop [5, 6] (fun v i => ∃ (k : Nat) (t : Bool), k ≤ m ∧ i = .int .i64 k ∧ v = .bool t ∧ Hid ((P.take k).any U.nulF = t)) (fun _ i => m - (intOf i).toNat)
  case atStart => exact ⟨0, false, Nat.zero_le _, rfl, rfl, rfl⟩
  case round =>
    obtain ⟨k, t, hk, rfl, rfl, ht⟩ := hrel
    by_cases hlt : k < m
    · obtain ⟨b, off, a, mm, cc, ys, rfl, hc, hy, hrow⟩ := HGP.out.at hlt
      have hmx := hrow.out.max
      cases t
      · by_cases h0 : mm = 0
        · subst h0
          have HV : Hid ((P.take (k + 1)).any U.nulF = true) := hid (by
            have e : U.nulF ys = true := by simp only [U.nulF]; rw [hrow.out.1]; simp
            rw [List.take_add_one, hy.out]; simp [e])
          go_wp2
          go_round
          case rel => exact ⟨k + 1, true, by omega, by go_num, rfl, HV⟩
          case measure => simp [intOf]; omega
        · have HV : Hid ((P.take (k + 1)).any U.nulF = false) := U.gany_step ht.out hy.out (by simp only [U.nulF]; rw [hrow.out.1]; simpa using h0)
          have hd : ((mm : Int) == 0) = false := by simpa using h0
          go_wp2
          go_round
          case rel => exact ⟨k + 1, false, by omega, by go_num, rfl, HV⟩
          case measure => simp [intOf]; omega
      · have HV : Hid ((P.take (k + 1)).any U.nulF = true) := hid (by rw [List.take_add_one, List.any_append, ht.out]; rfl)
        go_wp2
        go_round
        case rel => exact ⟨k + 1, true, by omega, by go_num, rfl, HV⟩
        case measure => simp [intOf]; omega
    · have HE : Hid (P.any U.nulF = t) := hid (by
        have := ht.out
        rwa [List.take_of_length_le (by rw [HGP.out.1]; omega)] at this)
      clear ht
      cases t
      · go_wp2
        go_ret
        exact ⟨false, rfl, U.ref_no HE.out, Below.refl _ _⟩
      · go_wp2_with (go_at_call 20; with_reducible (refine (prf_check w la n cap L HGL.out pa m pcap P HGP.out hn hm HL.out HP.out).mono ?_); rintro e w2 ⟨r, rfl, hf, hb⟩)
        go_ret
        exact ⟨_, rfl, hid (by rw [← U.ref_neg HE.out hf.out]; simp), hb⟩

end Go.Proofs.YtimfjoinjfecjaaGreat
