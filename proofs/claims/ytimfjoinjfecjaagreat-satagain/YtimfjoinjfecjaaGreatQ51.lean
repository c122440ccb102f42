/-
  Two searches of the same clauses go one way.
  Solve, exactly.
  The document's All, of two lists that are the same.
-/
import Derived.Test.YtimfjoinjfecjaaGreatQ50
import Derived.Test.YtimfjoinjfecjaaGreatQ46

namespace Go.Proofs.YtimfjoinjfecjaaGreat
open Go.RowKit Go.Maps
set_option linter.unusedVariables false

theorem lrnF_for {c c' : SC} (hn : c.kw.n = c'.kw.n) (hf : c.fst = c'.fst) (s : SS) (x : Int) (met xs : List Int) (bk : Int) : lrnF c s x met xs bk = lrnF c' s x met xs bk := by
  unfold lrnF lrn5 lrn4 lrn3 lrn2 saddF
  rw [hn, hf]

theorem Stp1.for {c c' : SC} (hn : c.kw.n = c'.kw.n) (hf : c.fst = c'.fst) {a b : SS × WP} (h : Stp1 c a b) : Stp1 c' a b := by
  rcases h with ⟨q1, i, lx, L1, ps, es, r, l, p, e, f, rfl⟩ | ⟨q1, L1, r, h, rfl⟩ | ⟨s1, q1, L1, r, h, d, rfl⟩
  · rw [lrnF_for hn hf, hn]
    rw [hn] at r
    exact .learn r l p e f
  · rw [hn]
    rw [hn] at r
    exact .anew r h
  · rw [hn] at r d
    exact .dec r h d

theorem Pth.for {c c' : SC} (hn : c.kw.n = c'.kw.n) (hf : c.fst = c'.fst) {a b : SS × WP} (h : Pth c a b) : Pth c' a b :=
  Pth.ind (fun b => Pth c' a b) .refl (fun _ _ _ q ih => ih.tail (q.for hn hf)) h

theorem Pth.head {c : SC} {a b : SS × WP} (h : Pth c a b) : a = b ∨ ∃ x, Stp1 c a x ∧ Pth c x b := by
  refine Pth.ind (fun b => a = b ∨ ∃ x, Stp1 c a x ∧ Pth c x b) (.inl rfl) (fun y d _ q ih => ?_) h
  rcases ih with e | ⟨x, h1, h2⟩
  · subst e; exact .inr ⟨_, q, .refl⟩
  · exact .inr ⟨x, h1, h2.tail q⟩

theorem Pth.two {c : SC} {a b d : SS × WP} (h : Pth c a b) (k : Pth c a d) : Pth c b d ∨ Pth c d b := by
  refine Pth.ind (fun b => Pth c b d ∨ Pth c d b) (.inl k) (fun y z _ q ih => ?_) h
  rcases ih with p | p
  · rcases p.head with e | ⟨x, h1, h2⟩
    · subst e; exact .inr (Pth.refl.tail q)
    · rw [← q.one h1] at h2; exact .inl h2
  · exact .inr (p.tail q)

theorem decF_cf (n : Nat) : ∀ (f : Nat) (s : SS), (decF n f s).2.cf = s.cf
  | 0, s => rfl
  | f + 1, s => by
    unfold decF
    split
    · split
      · rfl
      · rw [decF_cf n f]; rfl
    · rfl

theorem Stp1.cf {c : SC} {a b : SS × WP} (h : Stp1 c a b) : a.1.cf ≤ b.1.cf := by
  rcases h with ⟨q1, i, lx, L1, ps, es, r, l, p, e, f, rfl⟩ | ⟨q1, L1, r, h, rfl⟩ | ⟨s1, q1, L1, r, h, d, rfl⟩
  · show _ ≤ (lrnF _ _ _ _ _ _).cf
    rw [(lrnF_flds _ _ _ _ _ _).2.2.2.2.2.2.1]
    exact Nat.le_succ _
  · exact Nat.le_refl _
  · have := congrArg (fun z => z.2.cf) d
    simp only [decF_cf] at this
    exact Nat.le_of_eq this

theorem Pth.cf {c : SC} {a b : SS × WP} (h : Pth c a b) : a.1.cf ≤ b.1.cf :=
  Pth.ind (fun b => a.1.cf ≤ b.1.cf) (Nat.le_refl _) (fun _ _ _ q ih => Nat.le_trans ih q.cf) h

/-- Where a search ends. -/
def EndA (n bud : Nat) (a : SS × WP) (x : Int) (t : List Bool) : Prop :=
  (∃ (s' : SS) (q' : WP) (L' : List E), runF n a.1.lev a.2 a.1.H a.1.L = (none, q', L') ∧ ¬ a.1.en ≤ a.1.cf ∧ decF n (cntOf (upW a.1 L' a.1.lev (litsF L')) + 1) (upW a.1 L' a.1.lev (litsF L')) = (false, s') ∧ x = 1 ∧ t = (ktF s' (-1)).tr) ∨
  (∃ (i : Nat) (q' : WP) (L' : List E), runF n a.1.lev a.2 a.1.H a.1.L = (some i, q', L') ∧ a.1.lev = 0 ∧ x = 2 ∧ t = []) ∨
  (∃ (i : Nat) (q' : WP) (L' : List E), runF n a.1.lev a.2 a.1.H a.1.L = (some i, q', L') ∧ a.1.lev ≠ 0 ∧ a.1.cf = bud ∧ x = 0 ∧ t = [])

theorem EndA.sat {n bud : Nat} {s s' : SS} {q q' : WP} {L' : List E} (r : runF n s.lev q s.H s.L = (none, q', L')) (h : ¬ s.en ≤ s.cf) (d : decF n (cntOf (upW s L' s.lev (litsF L')) + 1) (upW s L' s.lev (litsF L')) = (false, s')) : EndA n bud (s, q) 1 (ktF s' (-1)).tr := .inl ⟨s', q', L', r, h, d, rfl, rfl⟩
theorem EndA.uns {n bud : Nat} {s : SS} {q q' : WP} {i : Nat} {L' : List E} (r : runF n s.lev q s.H s.L = (some i, q', L')) (l : s.lev = 0) : EndA n bud (s, q) 2 [] := .inr (.inl ⟨i, q', L', r, l, rfl, rfl⟩)
theorem EndA.unk {n bud : Nat} {s : SS} {q q' : WP} {i : Nat} {L' : List E} (r : runF n s.lev q s.H s.L = (some i, q', L')) (l : s.lev ≠ 0) (e : s.cf = bud) : EndA n bud (s, q) 0 [] := .inr (.inr ⟨i, q', L', r, l, e, rfl, rfl⟩)

theorem EndA.one {n bud bud' : Nat} {a : SS × WP} {x y : Int} {t u : List Bool} (h : EndA n bud a x t) (k : EndA n bud' a y u) : x = y ∧ t = u := by
  rcases h with ⟨s1, q1, L1, r, e, d, rfl, rfl⟩ | ⟨i, q1, L1, r, l, rfl, rfl⟩ | ⟨i, q1, L1, r, l, e, rfl, rfl⟩
  · rcases k with ⟨s2, q2, L2, r2, e2, d2, rfl, rfl⟩ | ⟨i2, q2, L2, r2, l2, rfl, rfl⟩ | ⟨i2, q2, L2, r2, l2, e2, rfl, rfl⟩
    · rw [r] at r2; cases r2; rw [d] at d2; cases d2; exact ⟨rfl, rfl⟩
    · rw [r] at r2; cases r2
    · rw [r] at r2; cases r2
  · rcases k with ⟨s2, q2, L2, r2, e2, d2, rfl, rfl⟩ | ⟨i2, q2, L2, r2, l2, rfl, rfl⟩ | ⟨i2, q2, L2, r2, l2, e2, rfl, rfl⟩
    · rw [r] at r2; cases r2
    · exact ⟨rfl, rfl⟩
    · exact absurd l l2
  · rcases k with ⟨s2, q2, L2, r2, e2, d2, rfl, rfl⟩ | ⟨i2, q2, L2, r2, l2, rfl, rfl⟩ | ⟨i2, q2, L2, r2, l2, e2, rfl, rfl⟩
    · rw [r] at r2; cases r2
    · exact absurd l2 l
    · exact ⟨rfl, rfl⟩

/-- Nothing comes behind an end, but where the budget was used up. -/
theorem EndA.last {c : SC} {bud : Nat} {a b : SS × WP} {x : Int} {t : List Bool} (h : EndA c.kw.n bud a x t) (k : Stp1 c a b) : x = 0 ∧ bud < b.1.cf := by
  rcases h with ⟨s1, q1, L1, r, e, d, rfl, rfl⟩ | ⟨i, q1, L1, r, l, rfl, rfl⟩ | ⟨i, q1, L1, r, l, e, rfl, rfl⟩
  · rcases k with ⟨q2, i2, lx2, L2, ps2, es2, r2, l2, p2, e2, f2, rfl⟩ | ⟨q2, L2, r2, h2, rfl⟩ | ⟨s2, q2, L2, r2, h2, d2, rfl⟩
    · rw [r] at r2; cases r2
    · exact absurd h2 e
    · rw [r] at r2; cases r2; rw [d] at d2; cases d2
  · rcases k with ⟨q2, i2, lx2, L2, ps2, es2, r2, l2, p2, e2, f2, rfl⟩ | ⟨q2, L2, r2, h2, rfl⟩ | ⟨s2, q2, L2, r2, h2, d2, rfl⟩
    · exact absurd l l2
    · rw [r] at r2; cases r2
    · rw [r] at r2; cases r2
  · rcases k with ⟨q2, i2, lx2, L2, ps2, es2, r2, l2, p2, e2, f2, rfl⟩ | ⟨q2, L2, r2, h2, rfl⟩ | ⟨s2, q2, L2, r2, h2, d2, rfl⟩
    · refine ⟨rfl, ?_⟩
      show _ < (lrnF _ _ _ _ _ _).cf
      rw [(lrnF_flds _ _ _ _ _ _).2.2.2.2.2.2.1, ← e]
      exact Nat.lt_succ_self _
    · rw [r] at r2; cases r2
    · rw [r] at r2; cases r2

/-- A larger budget turns nothing that was found. -/
theorem ends_alike {c : SC} {n m : Nat} {a0 a b : SS × WP} {x y : Int} {t u : List Bool} (hnm : n ≤ m) (p1 : Pth c a0 a) (p2 : Pth c a0 b) (h1 : EndA c.kw.n n a x t) (h2 : EndA c.kw.n m b y u) (c1 : a.1.cf ≤ n) (hx : n = m ∨ x ≠ 0) (c2 : b.1.cf ≤ m) : a = b ∧ x = y ∧ t = u := by
  have e : a = b := by
    rcases p1.two p2 with p | p
    · rcases p.head with e | ⟨z, s, q⟩
      · exact e
      · obtain ⟨k1, k2⟩ := h1.last s
        have := q.cf
        rcases hx with e | e
        · omega
        · exact absurd k1 e
    · rcases p.head with e | ⟨z, s, q⟩
      · exact e.symm
      · obtain ⟨k1, k2⟩ := h2.last s
        have := q.cf
        omega
  subst e
  exact ⟨rfl, h1.one h2⟩
end Go.Proofs.YtimfjoinjfecjaaGreat

namespace Go.Proofs.YtimfjoinjfecjaaGreat
open Go.RowKit Go.Maps
set_option linter.unusedVariables false

/-- How a search of these clauses ends. -/
def At (n bud : Nat) (l : List (List Int)) (cf : Nat) (P : List (List Int)) (x : Int) (t : List Bool) : Prop :=
  ∃ (c : SC) (s : SS) (q : WP), c.kw.n = n ∧ c.fst = l.length ∧ Pth c (nextF (begF n l), begW n l) (s, q) ∧ s.cf ≤ bud ∧ s.cf = cf ∧ s.prf = P ∧ EndA n bud (s, q) x t

theorem At.alike {n b1 b2 : Nat} {l : List (List Int)} {cf cf' : Nat} {P P' : List (List Int)} {x y : Int} {t u : List Bool} (hb : b1 ≤ b2) (h1 : At n b1 l cf P x t) (h2 : At n b2 l cf' P' y u) (hx : b1 = b2 ∨ x ≠ 0) : cf = cf' ∧ P = P' ∧ x = y ∧ t = u := by
  obtain ⟨c, s, q, n1, f1, p1, c1, rfl, rfl, e1⟩ := h1
  obtain ⟨c', s', q', n2, f2, p2, c2, rfl, rfl, e2⟩ := h2
  subst n1
  have p3 := p2.for (c' := c) n2 (f2.trans f1.symm)
  obtain ⟨e, e3, e4⟩ := ends_alike hb p1 p3 e1 e2 c1 hx c2
  cases e
  exact ⟨rfl, rfl, e3, e4⟩

def SEndY (n : Nat) (l : List (List Int)) (bud : Nat) (w0 : World) (e : Ending) (w' : World) : Prop :=
  (∃ (tb cf : Nat) (tr : List Bool), e = .returned (.agg #[.int .i64 1, .slice (some ⟨tb, 0, none⟩) n n, .int .i64 cf, .slice none 0 0]) ∧ Hid (Below w0.heap.size w0 w') ∧ Hid (w'.heap[tb]? = some (.cells (tr.map Value.bool).toArray 4 (0, 0))) ∧ Hid (tr.length = n ∧ ∃ P, At n bud l cf P 1 tr)) ∨
  (∃ (pa : Option Addr) (k pp cf : Nat) (P : List (List Int)) (F : Nat → Prop) (s : SS), e = .returned (.agg #[.int .i64 2, .slice none 0 0, .int .i64 cf, .slice pa k pp]) ∧ Hid (UnsEnd F w0 s (.slice pa k pp) w' ∧ s.prf = P) ∧ Hid (At n bud l cf P 2 [])) ∨
  (∃ P : List (List Int), e = .returned (.agg #[.int .i64 0, .slice none 0 0, .int .i64 bud, .slice none 0 0]) ∧ Hid (Below w0.heap.size w0 w') ∧ Hid (At n bud l bud P 0 []))

theorem SEndY.out {n : Nat} {l : List (List Int)} {bud : Nat} {w0 w' : World} {e : Ending} (h : SEndY n l bud w0 e w') :
    (∃ (tb cf : Nat) (tr : List Bool), e = .returned (.agg #[.int .i64 1, .slice (some ⟨tb, 0, none⟩) n n, .int .i64 cf, .slice none 0 0]) ∧ Hid (Below w0.heap.size w0 w') ∧ Hid (w'.heap[tb]? = some (.cells (tr.map Value.bool).toArray 4 (0, 0))) ∧ Hid (tr.length = n ∧ ∃ P, At n bud l cf P 1 tr)) ∨
    (∃ (pa : Option Addr) (k pp cf : Nat) (P : List (List Int)) (F : Nat → Prop) (s : SS), e = .returned (.agg #[.int .i64 2, .slice none 0 0, .int .i64 cf, .slice pa k pp]) ∧ Hid (UnsEnd F w0 s (.slice pa k pp) w' ∧ s.prf = P) ∧ Hid (At n bud l cf P 2 [])) ∨
    (∃ P : List (List Int), e = .returned (.agg #[.int .i64 0, .slice none 0 0, .int .i64 bud, .slice none 0 0]) ∧ Hid (Below w0.heap.size w0 w') ∧ Hid (At n bud l bud P 0 [])) := h

theorem SEndY.below {n : Nat} {l : List (List Int)} {bud : Nat} {w0 w' : World} {e : Ending} (h : SEndY n l bud w0 e w') : Below w0.heap.size w0 w' := by
  rcases h with ⟨_, _, _, _, h, _⟩ | ⟨_, _, _, _, _, _, _, _, h, _⟩ | ⟨_, _, h, _⟩
  · exact h.out
  · exact h.out.1.b0
  · exact h.out

theorem SEndX.to {c : SC} {n : Nat} {l : List (List Int)} {bud : Nat} {w0 w' : World} {e : Ending} (hn : c.kw.n = n) (hf : c.fst = l.length) (h : SEndX c (nextF (begF n l), begW n l) bud w0 e w') : SEndY n l bud w0 e w' := by
  subst hn
  obtain ⟨s, q, hp, hc, h⟩ := h
  rcases h with ⟨tb, q', L', s', h1, h2, h3, h4, h5, h6, h7⟩ | ⟨v, F, i, q', L', h1, h2, h3, h4⟩ | ⟨i, q', L', h1, h2, h3, h4, h5⟩
  · exact .inl ⟨tb, s.cf, _, h1, h2, h3, hid ⟨h4.out, s.prf, c, s, q, rfl, hf, hp, hc, rfl, rfl, .sat h5 h6 h7⟩⟩
  · obtain ⟨pa, pp, hv, _⟩ := h2.out.gr _ (fun _ _ => rfl)
    subst hv
    exact .inr (.inl ⟨pa, _, pp, s.cf, s.prf, F, _, h1, hid ⟨h2.out, rfl⟩, hid ⟨c, s, q, rfl, hf, hp, hc, rfl, rfl, .uns h3 h4⟩⟩)
  · exact .inr (.inr ⟨s.prf, h1, h2, hid ⟨c, s, q, rfl, hf, hp, hc, h5, rfl, .unk h3 h4 h5⟩⟩)

theorem beg_search_ex {n : Nat} {all : Bool} {l : List (List Int)} {bud SB : Nat} {c : SC} {g : G} {m : MV} {w0 w : World} (h : BegC n all l w0 SB c g m w) (hx : ∀ c ∈ l, ∀ y ∈ c, 0 ≤ y ∧ y < 2 * (n : Int)) (hn : n ≤ 900) (hN : l.length + bud ≤ 20000) (hK : l.length + (bud * (3 * n + 9) + (n + 1)) * (n * (l.length + bud) + 2) ≤ 250000000000) (hb255 : bud ≤ 255) :
    Calls Tryz.prog 18 #[.pointer (some ⟨SB, 0, none⟩), .int .i64 (bud : Nat)] w fun e w' => SEndY n l bud w0 e w' := by
  have hs := search_ex (al := false) h.sm (beg_hd h.gb h.kn hx (Nat.le_refl _)) h.fst (by have := h.kn; omega) hN hK hb255
  rw [h.sb] at hs
  refine hs.mono fun e w' q => ?_
  rw [h.gb.pt] at q
  exact q.to h.kn h.fst

def SolX (n : Nat) (l : List (List Int)) (bud : Nat) (w : World) (r : Value) (w' : World) : Prop :=
  (∃ (tb cf : Nat) (tr : List Bool), r = .agg #[.int .i64 1, .slice (some ⟨tb, 0, none⟩) n n, .int .i64 cf, .slice none 0 0] ∧ Hid (Below w.heap.size w w') ∧ Hid (w'.heap[tb]? = some (.cells (tr.map Value.bool).toArray 4 (0, 0))) ∧ Hid (tr.length = n ∧ ∃ P, At n bud l cf P 1 tr)) ∨
  (∃ (a : Option Addr) (k cp cf : Nat) (P : List (List Int)), r = .agg #[.int .i64 2, .slice none 0 0, .int .i64 cf, .slice a k cp] ∧ Hid (Below w.heap.size w w') ∧ Hid (U.Grid w' a k cp (P ++ [[]])) ∧ Hid (At n bud l cf P 2 [])) ∨
  (∃ P : List (List Int), r = .agg #[.int .i64 0, .slice none 0 0, .int .i64 bud, .slice none 0 0] ∧ Hid (Below w.heap.size w w') ∧ Hid (At n bud l bud P 0 []))

section
variable {n : Nat} {l : List (List Int)} {bud : Nat} {w : World}

set_option maxRecDepth 20000 in
set_option maxHeartbeats 4000000 in
theorem solve_ex (ao : Option Addr) (len cap : Nat) (hl : U.Grid w ao len cap l) (hchk : U.chkF n l = 0) (hx : ∀ c ∈ l, c.length ≤ 1000 ∧ ∀ y ∈ c, 0 ≤ y ∧ y < 2 * (n : Int)) (hlen : len ≤ 1000) (hn : n ≤ 900) (hN : l.length + bud ≤ 20000) (hK : l.length + (bud * (3 * n + 9) + (n + 1)) * (n * (l.length + bud) + 2) ≤ 250000000000) (hb255 : bud ≤ 255) :
    Calls Tryz.prog 9 #[.int .i64 n, .slice ao len cap, .int .i64 bud] w fun e w' => ∃ r, e = .returned (.tuple #[r, .int .i64 0]) ∧ SolX n l bud w r w' := by
  have hal : Below w.heap.size w (w.alloc (.cells #[.int .i64 0, .slice none 0 0, .int .i64 0, .slice none 0 0] 27)) := by go_grown
  have HL := hid (hl.keep hal)
  have HR : Hid ((w.alloc (.cells #[.int .i64 0, .slice none 0 0, .int .i64 0, .slice none 0 0] 27)).heap[w.heap.size]? = some (.cells #[.int .i64 0, .slice none 0 0, .int .i64 0, .slice none 0 0] 27 (0, 0))) := hid (new_same w _)
  have HX := hid hx
  have HX2 : Hid (∀ c ∈ l, ∀ y ∈ c, 0 ≤ y ∧ y < 2 * (n : Int)) := hid (fun c hc => (hx c hc).2)
  have HC := hid hchk
  have hn2 : n ≤ 1048576 := by omega
  have HBA := hid hal
  have hb0 : ¬ (bud : Int) < 0 := by omega
  have hbm : (bud : Int) ≤ 9223372036854775807 := by omega
  clear hl hx hchk hal
  go_enter Tryz.func9, Tryz.ntmps9
  go_wp2_with (first
    | (go_at_call 16; with_reducible (refine (U.check_any _ _ _ _ l _ HL.out).mono ?_); rw [HC.out]; rintro e w1 ⟨rfl, b1⟩; have HL1 := hid (HL.out.keep b1); have hr1 := hid (old_blk b1 HR.out); have B1 := hid (Below.next HBA.out b1))
    | (go_at_call 17; with_reducible (refine (begin_is n hn2 ao len cap l _ HL1.out hlen HX.out).mono ?_); rintro e w2 ⟨SB, rfl, be⟩; have be2 := BegEnd.out be; obtain ⟨cc, gg, mm, BE⟩ := be2)
    | (go_at_call 18; with_reducible (refine (beg_search_ex BE.out HX2.out hn hN hK hb255).mono ?_); intro e w3 hS; have b3 := SEndY.below hS; have hr3 := old_blk b3 hr1.out; have z0 := cell_of (o := 0) hr3; have z1 := cell_of (o := 1) hr3; have z2 := cell_of (o := 2) hr3; have z3 := cell_of (o := 3) hr3; have y0 := frozen_of (o := 0) hr3; have y1 := frozen_of (o := 1) hr3; have y2 := frozen_of (o := 2) hr3; have y3 := frozen_of (o := 3) hr3; have HR3 := hid hr3; have B3 := hid (Below.next B1.out b3); have hS2 := SEndY.out hS; clear hr3 b3 hS; rcases hS2 with ⟨tb, cf, tr, rfl, b3, M3, F3⟩ | ⟨pa, kk, pp, cf, P, F, ss, rfl, UE, F3⟩ | ⟨P, rfl, b3, F3⟩))
  · have H8 := hid (res_blk (a' := .int .i64 1) (b' := .slice (some ⟨tb, 0, none⟩) n n) (cc' := .int .i64 cf) (d' := .slice none 0 0) HR3.out)
    have HE := hid (res_bel (a' := .int .i64 1) (b' := .slice (some ⟨tb, 0, none⟩) n n) (cc' := .int .i64 cf) (d' := .slice none 0 0) B3.out (Nat.le_refl _))
    have hne : tb ≠ w.heap.size := fun q => by
      have t1 : Typ w3 tb 4 := ⟨_, _, M3.out⟩
      rw [q] at t1
      exact absurd (t1.one ⟨_, _, HR3.out⟩) (by decide)
    have HM := hid ((res_oth (a' := .int .i64 1) (b' := .slice (some ⟨tb, 0, none⟩) n n) (cc' := .int .i64 cf) (d' := .slice none 0 0) hne).trans M3.out)
    generalize hW9 : ((((w3.setCell ⟨w.heap.size, 0, none⟩ (.int .i64 1)).setCell ⟨w.heap.size, 1, none⟩ (.slice (some ⟨tb, 0, none⟩) n n)).setCell ⟨w.heap.size, 2, none⟩ (.int .i64 cf)).setCell ⟨w.heap.size, 3, none⟩ (.slice none 0 0)) = w9 at *
    have r0 : w9.cell? ⟨w.heap.size, 0, none⟩ = some (.int .i64 1) := cell_of H8.out
    have r1 : w9.cell? ⟨w.heap.size, 1, none⟩ = some (.slice (some ⟨tb, 0, none⟩) n n) := cell_of H8.out
    have r2 : w9.cell? ⟨w.heap.size, 2, none⟩ = some (.int .i64 cf) := cell_of H8.out
    have r3 : w9.cell? ⟨w.heap.size, 3, none⟩ = some (.slice none 0 0) := cell_of H8.out
    refine bodyPost_ret (by simp [results, Tryz.results9, go_sem, r0, r1, r2, r3]; try rfl) rfl ?_
    exact ⟨_, rfl, .inl ⟨tb, cf, tr, rfl, HE, HM, F3⟩⟩
  · have H8 := hid (res_blk (a' := .int .i64 2) (b' := .slice none 0 0) (cc' := .int .i64 cf) (d' := .slice pa kk pp) HR3.out)
    have HE := hid (res_bel (a' := .int .i64 2) (b' := .slice none 0 0) (cc' := .int .i64 cf) (d' := .slice pa kk pp) B3.out (Nat.le_refl _))
    have HG := hid (UE.out.1.gr _ (fun i hi => res_oth (a' := .int .i64 2) (b' := .slice none 0 0) (cc' := .int .i64 cf) (d' := .slice pa kk pp) (r := w.heap.size) (fun q => by have := UE.out.1.fn i hi; have := blk_lt hr1.out; omega)))
    generalize hW9 : ((((w3.setCell ⟨w.heap.size, 0, none⟩ (.int .i64 2)).setCell ⟨w.heap.size, 1, none⟩ (.slice none 0 0)).setCell ⟨w.heap.size, 2, none⟩ (.int .i64 cf)).setCell ⟨w.heap.size, 3, none⟩ (.slice pa kk pp)) = w9 at *
    have r0 : w9.cell? ⟨w.heap.size, 0, none⟩ = some (.int .i64 2) := cell_of H8.out
    have r1 : w9.cell? ⟨w.heap.size, 1, none⟩ = some (.slice none 0 0) := cell_of H8.out
    have r2 : w9.cell? ⟨w.heap.size, 2, none⟩ = some (.int .i64 cf) := cell_of H8.out
    have r3 : w9.cell? ⟨w.heap.size, 3, none⟩ = some (.slice pa kk pp) := cell_of H8.out
    refine bodyPost_ret (by simp [results, Tryz.results9, go_sem, r0, r1, r2, r3]; try rfl) rfl ?_
    refine ⟨_, rfl, .inr (.inl ⟨pa, kk, pp, cf, P, rfl, HE, ?_, F3⟩)⟩
    obtain ⟨a, cp, e, gr⟩ := HG.out
    have hp := UE.out.2
    subst hp
    cases e
    exact hid gr
  · have H8 := hid (res_blk (a' := .int .i64 0) (b' := .slice none 0 0) (cc' := .int .i64 bud) (d' := .slice none 0 0) HR3.out)
    have HE := hid (res_bel (a' := .int .i64 0) (b' := .slice none 0 0) (cc' := .int .i64 bud) (d' := .slice none 0 0) B3.out (Nat.le_refl _))
    generalize hW9 : ((((w3.setCell ⟨w.heap.size, 0, none⟩ (.int .i64 0)).setCell ⟨w.heap.size, 1, none⟩ (.slice none 0 0)).setCell ⟨w.heap.size, 2, none⟩ (.int .i64 bud)).setCell ⟨w.heap.size, 3, none⟩ (.slice none 0 0)) = w9 at *
    have r0 : w9.cell? ⟨w.heap.size, 0, none⟩ = some (.int .i64 0) := cell_of H8.out
    have r1 : w9.cell? ⟨w.heap.size, 1, none⟩ = some (.slice none 0 0) := cell_of H8.out
    have r2 : w9.cell? ⟨w.heap.size, 2, none⟩ = some (.int .i64 bud) := cell_of H8.out
    have r3 : w9.cell? ⟨w.heap.size, 3, none⟩ = some (.slice none 0 0) := cell_of H8.out
    refine bodyPost_ret (by simp [results, Tryz.results9, go_sem, r0, r1, r2, r3]; try rfl) rfl ?_
    exact ⟨_, rfl, .inr (.inr ⟨P, rfl, HE, F3⟩)⟩
end
end Go.Proofs.YtimfjoinjfecjaaGreat

namespace Go.Proofs.YtimfjoinjfecjaaGreat
open Go.RowKit Go.Maps
set_option linter.unusedVariables false

theorem same_self (xs : List Int) : U.sameF xs xs = true := by simp [U.sameF]

set_option maxHeartbeats 1000000 in
theorem all_same (ao bo : Option Addr) (n cap cbp : Nat) (xss : List (List Int)) (w : World) (h : U.Grid w ao n cap xss) (g : U.Grid w bo n cbp xss) :
    Calls Tryz.prog 15 #[.slice ao n cap, .slice bo n cbp] w fun e w' => e = .returned (.bool true) ∧ Hid (Below w.heap.size w w') := by
  have HG := hid h
  have HG2 := hid g
  have hm := h.max
  have hd : decide (n = n) = true := by simp
  clear h g
  go_enter Tryz.func15, Tryz.ntmps15
  go_wp2
  go_loopw [5] (fun i wr => ∃ k : Nat, k ≤ n ∧ i = .int .i64 k ∧ Hid (Below w.heap.size w wr)) (fun i _ => n - (intOf i).toNat)
  case atStart => exact ⟨0, Nat.zero_le _, rfl, hid (Below.refl _ _)⟩
  case round =>
    obtain ⟨k, hk, rfl, hb⟩ := hrel
    by_cases hlt : k < n
    · have hlt' : (k : Int) < n := by omega
      obtain ⟨b, off, a1, m1, c1, ys, rfl, hc, hy, hr⟩ := (HG.out.keep hb.out).at hlt
      obtain ⟨b2, off2, a2, m2, c2, zs, rfl, hc2, hz, hr2⟩ := (HG2.out.keep hb.out).at hlt
      have HSM : Hid (U.sameF ys zs = true) := hid (by
        have := hy.out.symm.trans hz.out
        cases this
        exact same_self _)
      have HBD := hid (Below.next hb.out (below_drew wr))
      have HR1 := hid (hr.out.keep (below_drew wr))
      have HR2 := hid (hr2.out.keep (below_drew wr))
      clear hy hz
      go_wp2
      go_region_with (first
        | (go_at_call 23; with_reducible (refine (U.same_any _ _ _ _ _ _ _ _ _ HR1.out HR2.out).mono ?_); rw [HSM.out]; rintro e w5 ⟨rfl, b5⟩)
        | fail)
      all_goals go_wp2
      all_goals go_roundw
      all_goals first | exact ⟨k + 1, by omega, by go_num, hid (Below.next HBD.out b5)⟩ | (simp [intOf]; omega)
    · go_wp2
      go_ret
      exact ⟨rfl, hb⟩
end Go.Proofs.YtimfjoinjfecjaaGreat
