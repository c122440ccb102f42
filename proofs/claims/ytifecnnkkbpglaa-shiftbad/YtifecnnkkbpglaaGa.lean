/-
  A clause more; a new variable, and the closure that adds its clauses; Clauses.
-/
import Derived.Test.YtifecnnkkbpglaaGw
namespace Go.Proofs.Ytifecnnkkbpglaa
open Go.RowKit
set_option linter.unusedVariables false

theorem Try.info29 : (Try.prog.info? 29).map (fun i => (i.zero, i.size, i.bytes)) = some (some (.slice none 0 0), 1, 24) := by kernel_rfl

/-- The box that the closure keeps. -/
def Bx (w : World) (cb gb : Nat) : Prop := w.heap[cb]? = some (.cells #[.pointer (some ⟨gb, 0, none⟩)] 27 (0, 0))
theorem Bx.fg {B : BT} {w w' : World} {cb gb : Nat} (h : Bx w cb gb) (f : FG B w w') : Bx w' cb gb := (f.block cb 27 (typ_of h) (by decide) (by decide)).trans h
theorem Bx.below {w w' : World} {cb gb : Nat} (h : Bx w cb gb) (b : Below w.heap.size w w') : Bx w' cb gb := (b.block cb (blk_lt h)).trans h
theorem Bx.cell {w : World} {cb gb : Nat} (h : Bx w cb gb) : w.cell? ⟨cb, 0, none⟩ = some (.pointer (some ⟨gb, 0, none⟩)) := by rw [cell_of h]; rfl

theorem fit_not {x : Int} (h0 : -9223372036854775808 ≤ x) (h1 : x ≤ 9223372036854775807) : -9223372036854775808 ≤ notF x ∧ notF x ≤ 9223372036854775807 := by
  unfold notF
  split
  · exact ⟨h0, h1⟩
  · split <;> omega

theorem map_next {c : List Int} {k : Nat} {y : Int} (h : c[k]? = some y) : (c.take (k + 1)).map notF = (c.take k).map notF ++ [notF y] := by
  rw [List.take_add_one, h]; simp

/-- One clause more, as a step of a region that draws its order. -/
theorem step_clause {w : World} {ops : Array Oper} {o : Oper} {a : Act} {Kc : Act → World → Prop} {Q : Exit → Act → World → Prop} {G : Prop} (hgd : o.guard = none) (s x : Operand)
    (ho : o.op = .call { callee := .builtin .append, args := #[s, x], argTypes := #[45, 45] }) (B : BT) (cs : List (List Int)) (ys : List Int) (v : Value) (hs : a.eval s = v) (own : OwnC B w v cs)
    (q : Nat) (hx : a.eval x = .slice (some ⟨q, 0, none⟩) 1 1) (co : Option Addr) (k cc : Nat) (hc : w.cell? ⟨q, 0, none⟩ = some (.slice co k cc)) (row : TRow B.T w co k cc ys) (hbd : cs.length ≤ 100000) (hB : B.n ≤ w.heap.size)
    (h : ∀ v' w', Hid (OwnC B w' v' (cs ++ [ys])) → Hid (w.grownBy w' v.ownBlock) → Kc (a.put o.dst v') w') :
    if Region.wanted o (yielded ops a.tmps) = true then Oper.wp Try.prog o a w Kc Q else G := by
  have hwd : Region.wanted o (yielded ops a.tmps) = true := by simp [Region.wanted, hgd]
  rw [if_pos hwd]
  obtain ⟨i0, hi, hz0, hz1, hz2⟩ := info_parts Try.info29
  obtain ⟨vs, h1, h2⟩ := own
  obtain ⟨v', w', hrun, r1, r2, _⟩ := run_append_own (P := Try.prog) w B.n 45 o.type 29 i0 (.slice none 0 0) 1 24 Try.underlying45 hi hz0 hz1 hz2 rfl (by decide) v cs.length vs h1 ⟨q, 0, none⟩ 1 1 [.slice co k cc] rfl (by
    intro j u hj
    match j, hj with
    | 0, hj => simp at hj; subst hj; simpa [Addr.add] using hc) (by intro y hy; rw [List.mem_singleton] at hy; subst hy; rfl) (by unfold maxLen; omega) (by omega) hB
  have hT : ∀ j T, v.ownBlock = some j → Typ w j T → T = 47 ∨ T = 29 := by
    rintro j T e3 ⟨c2, f2, e4⟩
    rcases h1.2 with ⟨rfl, hn⟩ | ⟨g2, cap, cur, rfl, hb, hg, _⟩
    · simp [Value.ownBlock] at e3
    · simp [Value.ownBlock] at e3
      subst e3
      rw [hg] at e4; cases e4; exact .inr rfl
  unfold Oper.wp
  simp [execOp, ho, resolve, invoke, builtin, hs, hx, hrun, Result.andThen]
  refine h v' w' ⟨vs ++ [.slice co k cc], ?_, (h2.snoc row).fg (FG.grown (B := B0) r2 hT (fun _ _ => Nat.zero_le _))⟩ r2
  rw [List.length_append]; exact r1

theorem clauses_any {B : BT} {gb n : Nat} {cs : List (List Int)} (w : World) (h : Gt B gb w n cs) (h0 : 0 < cs.length) (h1 : cs.length ≤ 100000) :
    Calls Try.prog 27 #[.pointer (some ⟨gb, 0, none⟩)] w fun e w' => ∃ ao k, e = .returned (.slice ao k k) ∧ k = cs.length ∧ Hid (Grid w ao k k cs) ∧ w' = w := by
  obtain ⟨v, c0, c1, f0, f1, ho⟩ := h.cells
  obtain ⟨ao, c, rfl, hnone, hl, hm, hlo⟩ := ho.out.shape
  obtain ⟨ad, rfl⟩ : ∃ ad, ao = some ad := by
    cases ao with
    | none => exact absurd (hnone rfl).2 (by omega)
    | some ad => exact ⟨ad, rfl⟩
  have HG := hid ho.out.grid
  obtain ⟨k, hk⟩ : ∃ k, k = cs.length := ⟨_, rfl⟩
  rw [← hk] at h0 h1 hl c1
  have HK := hid hk
  have hz : ¬ k = 0 := by omega
  unfold maxLen at hm
  clear h ho hnone hlo hk
  go_enter Try.func27, Try.ntmps27
  go_wp2
  go_ret
  exact ⟨_, _, rfl, HK.out, by rw [HK.out]; exact HG, rfl⟩

theorem OwnC.slice {B : BT} {w : World} {v : Value} {cs : List (List Int)} (h : OwnC B w v cs) : ∃ ao n c, v = .slice ao n c := by
  obtain ⟨ao, c, e, _⟩ := h.shape
  exact ⟨ao, _, c, e⟩
theorem Own.tshape {T : Nat → Prop} {w : World} {C : Nat} {v : Value} {xs : List Int} (h : Own w C v xs) (hT : ∀ b, T b → b < C) : ∃ ao n c, v = .slice ao n c ∧ Hid (TRow T w ao n c xs) := by
  obtain ⟨ao, c, e, r⟩ := h.trow hT
  exact ⟨ao, _, c, e, r⟩

/-- The list of clauses is another one, behind a block that came. -/
theorem putc_new {B : BT} {gb cb n : Nat} {cs cs' : List (List Int)} {w w' : World} {u : Obj} {v v' : Value} (h : Gt B gb w n cs) (hb : Bx w cb gb) (e : w.cell? ⟨gb, 1, none⟩ = some v) (g : (w.alloc u).drew.grownBy w' v.ownBlock) (o : OwnC B w' v' cs') :
    (w'.cell? ⟨cb, 0, none⟩ = some (.pointer (some ⟨gb, 0, none⟩)) ∧ w'.cell? ⟨gb, 1, none⟩ = some v ∧ w'.frozen? ⟨gb, 1, none⟩ = false) ∧ Gt B gb (w'.setCell ⟨gb, 1, none⟩ v') n cs' ∧ FG B w (w'.setCell ⟨gb, 1, none⟩ v') := by
  have b : Below w.heap.size w (w.alloc u).drew := ((Below.refl _ _).alloc (Nat.le_refl _) u).drew
  obtain ⟨q1, q2, q3⟩ := (h.below b).putc ((b.cell (cell_lt e)).trans e) g o
  have e2 : (w.alloc u).drew.cell? ⟨gb, 1, none⟩ = some v := (b.cell (cell_lt e)).trans e
  obtain ⟨v2, e3, o3⟩ := (h.below b).blk
  obtain ⟨vs, h1, h2⟩ := o3
  have ev : v = v2 := by
    rw [cell_of e3] at e2
    simpa using e2.symm
  subst ev
  have hT : ∀ j T, v.ownBlock = some j → Typ (w.alloc u).drew j T → T = 29 := by
    rintro j T e4 ⟨c2, f2, e5⟩
    rcases h1.2 with ⟨rfl, hn⟩ | ⟨g2, cap, cur, rfl, hb, hg, _⟩
    · simp [Value.ownBlock] at e4
    · simp [Value.ownBlock] at e4
      subst e4
      rw [hg] at e5; cases e5; rfl
  have hb2 := hb.below b
  have k1 : w'.heap[cb]? = (w.alloc u).drew.heap[cb]? := g.block cb (blk_lt hb2) (fun e => absurd (hT cb 27 e.symm (typ_of hb2)) (by decide))
  have k2 : w'.heap[gb]? = (w.alloc u).drew.heap[gb]? := g.block gb (blk_lt e3) (fun e => absurd (hT gb 47 e.symm (typ_of e3)) (by decide))
  exact ⟨⟨by rw [cell_of (k1.trans hb2)]; rfl, (World.cell?_of_block (w := (w.alloc u).drew) k2).trans e2, q3⟩, q1, (FG.below b).trans q2⟩

theorem new_b (w : World) (o : Obj) : Below w.heap.size w (w.alloc o).drew := ((Below.refl _ _).alloc (Nat.le_refl _) o).drew

set_option maxHeartbeats 4000000 in
theorem add_any {B : BT} {gb cb n : Nat} {cs : List (List Int)} (w : World) (h : Gt B gb w n cs) (hb : Bx w cb gb) (hl : cs.length ≤ 100000) (x : Int) (x0 : -9223372036854775808 ≤ x) (x1 : x ≤ 9223372036854775807)
    (ao : Option Addr) (m cap : Nat) (ws : List Int) (hr : Row w ao m cap ws) (hm10 : m ≤ 10) :
    Calls Try.prog 35 #[.int .i64 x, .slice ao m cap, .pointer (some ⟨cb, 0, none⟩)] w fun e w' => e = .returned (.tuple #[]) ∧ Hid (Gt B gb w' n (cs ++ [clF x ws])) ∧ Hid (FG B w w') := by
  have HG := hid h
  have HB := hid hb
  have HR := hid hr
  have HL := hid hl
  obtain ⟨wm, hmk, hom, hbm⟩ := make_none (1 + m) (by omega) w
  have hmk2 : (Instr.makeSlice 29 (.int .i64 0) (.int .i64 (1 + (m : Int)))).run Try.prog w = .ok (.slice (some ⟨w.heap.size, 0, none⟩) 0 (1 + m)) wm := by
    have e : ((1 + m : Nat) : Int) = 1 + (m : Int) := by omega
    rw [← e]; exact hmk
  clear h hb hr hmk hl
  go_enter Try.func35, Try.ntmps35
  go_wp2_with (at_builtin; refine append_ints rfl (.tmp 11) (.tmp 13) rfl w.heap.size _ _ [x] rfl (hom.out.alloc _) _ 1 1 rfl (row_one _ _ x0 x1) (by simp) (by have := hbm.out.size; simp; omega) ?_; intro v2 w2 own2 hb3)
  have hb4 := hid ((hbm.out.alloc hbm.out.size (.cells #[.int .i64 x] 3)).trans hb3.out)
  clear hmk2 hbm hb3
  go_loopw [5, 7, 17] (fun v _ i wr => ∃ q : Nat, q ≤ m ∧ i = .int .i64 q ∧ Hid (Own wr w.heap.size v (x :: (ws.take q).map notF)) ∧ Hid (Below w.heap.size w wr)) (fun _ _ i _ => m - (intOf i).toNat)
  case atStart => exact ⟨0, Nat.zero_le _, rfl, own2, hb4⟩
  case round =>
    obtain ⟨q, hq, rfl, hown, hb⟩ := hrel
    by_cases hlt : q < m
    · obtain ⟨b, off, y, rfl, hc, hy, y0, y1⟩ := (HR.out.keep hb.out).at hlt
      have HE := hid (map_next hy.out)
      have HY := hid (fit_not y0 y1)
      have hql : (x :: (ws.take q).map notF).length ≤ 1000 := by rw [List.length_cons, List.length_map, List.length_take]; omega
      go_wp2_with (first
        | (go_at_call 36; with_reducible (refine (not_any _ _ y1).mono ?_); rintro e w1 ⟨rfl, hb1⟩; have hb2 := Below.next hb.out hb1)
        | (at_builtin; refine append_ints rfl (.tmp 21) (.tmp 24) rfl w.heap.size _ _ [notF y] rfl ((hown.out.keep hb1).alloc _) _ 1 1 rfl (row_one _ _ HY.out.1 HY.out.2) (by omega) (by have := hb2.size; simp; omega) ?_; intro v2 w2 own2 hb3))
      go_roundw
      case rel => exact ⟨q + 1, by omega, by go_num, hid (by rw [HE.out]; exact own2.out), hid ((hb2.alloc hb2.size _).trans hb3.out)⟩
      case measure => simp only [intOf]; omega
    · have HV : Hid (ws.take q = ws) := hid (List.take_of_length_le (by rw [HR.out.1]; omega))
      obtain ⟨co, ck, cc, rfl, hrow⟩ := hown.out.tshape HG.out.tl
      have G1 := hid (HG.out.below hb.out)
      have B1 := hid (HB.out.below hb.out)
      obtain ⟨cv, c0, c1, f0, f1, ho⟩ := G1.out.cells
      have K3 : Hid (∀ W, Below wr.heap.size wr W → W.cell? ⟨cb, 0, none⟩ = some (.pointer (some ⟨gb, 0, none⟩)) ∧ W.cell? ⟨gb, 1, none⟩ = some cv ∧ W.frozen? ⟨gb, 1, none⟩ = false) := hid (fun W b => by
        refine ⟨(B1.out.below b).cell, (b.cell (cell_lt c1)).trans c1, (b.frozen (cell_lt c1)).trans f1⟩)
      have KD : Hid (∀ W, Below wr.heap.size wr W → OwnC B W cv cs ∧ TRow B.T W co ck cc (x :: (ws.take q).map notF) ∧ B.n ≤ W.heap.size) := hid (fun W b => ⟨ho.out.below b, hrow.out.fg (FG.below (B := B0) b), by have := G1.out.lo; have := G1.out.lt; have := b.size; omega⟩)
      have bn := fun u => new_b wr u
      have BC := B1.out.cell
      have lb := blk_lt B1.out
      have lg := G1.out.lt
      have BA : wr.drew.cell? ⟨cb, 0, none⟩ = some (.pointer (some ⟨gb, 0, none⟩)) := (K3.out _ ((Below.refl _ _).drew)).1
      have BD : ∀ u, (wr.alloc u).drew.cell? ⟨cb, 0, none⟩ = some (.pointer (some ⟨gb, 0, none⟩)) := fun u => (K3.out _ (new_b _ u)).1
      have BE : ∀ u, (wr.alloc u).drew.cell? ⟨gb, 1, none⟩ = some cv := fun u => (K3.out _ (new_b _ u)).2.1
      clear ho hown hq
      go_wp2
      go_region_law (refine step_clause rfl _ _ rfl B cs (x :: (ws.take q).map notF) cv rfl (KD.out _ (new_b _ _)).1 _ rfl co ck cc (by first | simp | simp [go_sem]) (KD.out _ (new_b _ _)).2.1 HL.out (KD.out _ (new_b _ _)).2.2 ?_; intro v5 w5 own5 g5; obtain ⟨ao5, n5, cp5, rfl⟩ := own5.out.slice; have g6 := hid (putc_new G1.out B1.out c1 g5.out own5.out); have s5 := g6.out.1; obtain ⟨s6, s7, s8⟩ := s5)
      all_goals go_wp2
      all_goals go_end0
      all_goals exact ⟨rfl, hid (by have := g6.out.2.1; rw [HV.out] at this; exact this), hid ((FG.below hb.out).trans g6.out.2.2)⟩

end Go.Proofs.Ytifecnnkkbpglaa
