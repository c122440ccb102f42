/-
  The document's Show.
-/
import Derived.Test.YtefielnmlekhaaaDoorRu
import Derived.Test.YtefielnmlekhaaaDoorSw
namespace Go.Proofs.YtefielnmlekhaaaDoor
open Go.RowKit
open Go.Lib (decDigits itoa byteCells)
set_option linter.unusedVariables false
set_option maxRecDepth 20000

theorem Tryd.info9 : (Tryd.prog.info? 9).map (fun i => (i.zero, i.size, i.bytes)) = some (some (.string ⟨#[]⟩), 1, 16) := by kernel_rfl
theorem Tryd.info4 : (Tryd.prog.info? 4).map (fun i => (i.zero, i.size, i.bytes)) = some (some (.bool false), 1, 1) := by kernel_rfl

theorem rshow_yes {N : List Nd} (r : Wl N) (g : Gd N) {i : Nat} (hi : i < N.length) {n : Nd} (hn : ndA N i = n) (aA aF : Option Addr) (cA cF : Nat) (w : World) (hA : Ahead w aA aF N i) (hi2 : i ≤ 100000) (hf : (TX N i).length ≤ 4096) :
    Calls Tryd.prog 23 #[.agg #[.int .i64 n.op, .int .i64 n.wd, .int .i64 n.a, .int .i64 n.b, .int .i64 n.c, .int .u64 n.v], .slice aA i cA, .slice aF i cF] w fun e w' => e = .returned (.tuple #[.string ⟨(TX N i).toArray⟩, .bool true]) ∧ Hid (Below w.heap.size w w') := by
  have key : Calls Tryd.prog 23 #[.agg #[.int .i64 n.op, .int .i64 n.wd, .int .i64 n.a, .int .i64 n.b, .int .i64 n.c, .int .u64 n.v], .slice aA i cA, .slice aF i cF] w fun e w' => ShEnd N i w e w' := by
    by_cases o0 : n.op = 20
    · exact rshow_const r g hi n hn o0 aA aF cA cF w
    · by_cases o1 : n.op = 21
      · exact rshow_var r g hi n hn o1 aA aF cA cF w
      · exact rshow_made r g hi n hn o0 o1 aA aF cA cF w hA hi2
  refine key.mono fun e w' q => ?_
  obtain ⟨s, rfl, hs, b⟩ := q
  refine ⟨?_, b⟩
  rw [hs.out hf, decide_eq_true hf]
theorem rshow_not {N : List Nd} (r : Wl N) (g : Gd N) {i : Nat} (hi : i < N.length) {n : Nd} (hn : ndA N i = n) (aA aF : Option Addr) (cA cF : Nat) (w : World) (hA : Ahead w aA aF N i) (hi2 : i ≤ 100000) (hf : ¬ (TX N i).length ≤ 4096) :
    Calls Tryd.prog 23 #[.agg #[.int .i64 n.op, .int .i64 n.wd, .int .i64 n.a, .int .i64 n.b, .int .i64 n.c, .int .u64 n.v], .slice aA i cA, .slice aF i cF] w fun e w' => ∃ s, e = .returned (.tuple #[.string s, .bool false]) ∧ Hid (Below w.heap.size w w') := by
  have key : Calls Tryd.prog 23 #[.agg #[.int .i64 n.op, .int .i64 n.wd, .int .i64 n.a, .int .i64 n.b, .int .i64 n.c, .int .u64 n.v], .slice aA i cA, .slice aF i cF] w fun e w' => ShEnd N i w e w' := by
    by_cases o0 : n.op = 20
    · exact rshow_const r g hi n hn o0 aA aF cA cF w
    · by_cases o1 : n.op = 21
      · exact rshow_var r g hi n hn o1 aA aF cA cF w
      · exact rshow_made r g hi n hn o0 o1 aA aF cA cF w hA hi2
  refine key.mono fun e w' q => ?_
  obtain ⟨s, rfl, hs, b⟩ := q
  refine ⟨s, ?_, b⟩
  rw [decide_eq_false hf]

def AlV (N : List Nd) (q : Nat) : List Value := (List.range q).map fun j => Value.string ⟨(shT N j).toArray⟩
def FiV (N : List Nd) (q : Nat) : List Value := (List.range q).map fun (j : Nat) => Value.bool (decide ((TX N j).length ≤ 4096))
theorem AlV_step (N : List Nd) (q : Nat) : AlV N (q + 1) = AlV N q ++ [.string ⟨(shT N q).toArray⟩] := by simp [AlV, List.range_succ]
theorem FiV_step (N : List Nd) (q : Nat) : FiV N (q + 1) = FiV N q ++ [.bool (decide ((TX N q).length ≤ 4096))] := by simp [FiV, List.range_succ]

/-- The two lists so far: q texts, p truths. -/
structure Sho (w wr : World) (N : List Nd) (s m : Value) (q p : Nat) (v6 v7 : Value) : Prop where
  be : Below w.heap.size w wr
  bx : wr.heap[w.heap.size]? = some (.cells #[s, m] 27 (0, 0))
  al : wr.ownsRow (w.heap.size + 1) 9 1 v6 q (AlV N q)
  fi : wr.ownsRow (w.heap.size + 1) 4 1 v7 p (FiV N p)

section
variable {w wr w2 : World} {N : List Nd} {s m : Value} {q p : Nat} {v6 v7 v' : Value}
theorem Sho.below (h : Sho w wr N s m q p v6 v7) (b : Below wr.heap.size wr w2) : Sho w w2 N s m q p v6 v7 :=
  ⟨Below.next h.be b, by rw [b.block _ (blk_lt h.bx)]; exact h.bx, own_keep h.al (grown_below b) (fun j hj => by cases hj), own_keep h.fi (grown_below b) (fun j hj => by cases hj)⟩
theorem Sho.lt (h : Sho w wr N s m q p v6 v7) : w.heap.size + 1 ≤ wr.heap.size := blk_lt h.bx
theorem Sho.app6 (h : Sho w wr N s m q p v6 v7) (g : wr.grownBy w2 v6.ownBlock) (o : w2.ownsRow (w.heap.size + 1) 9 1 v' (q + 1) (AlV N q ++ [.string ⟨(shT N q).toArray⟩])) : Sho w w2 N s m (q + 1) p v' v7 := by
  have hl : ∀ j, v6.ownBlock = some j → w.heap.size + 1 ≤ j := fun j hj => (own_lt h.al hj).1
  have hs := h.be.size
  refine ⟨h.be.trans (below_grown g (fun j hj => by have := hl j hj; omega) hs), ?_, ?_, own_keep h.fi g fun j hj e => ?_⟩
  · rw [g.block _ (blk_lt h.bx) (fun e => by have := hl _ e.symm; omega)]; exact h.bx
  · rw [AlV_step]; exact o
  · obtain ⟨c1, e1⟩ := own_block h.al hj
    obtain ⟨c2, e2⟩ := own_block h.fi e
    rw [e1] at e2; simp at e2
theorem Sho.app7 (h : Sho w wr N s m q p v6 v7) (g : wr.grownBy w2 v7.ownBlock) (o : w2.ownsRow (w.heap.size + 1) 4 1 v' (p + 1) (FiV N p ++ [.bool (decide ((TX N p).length ≤ 4096))])) : Sho w w2 N s m q (p + 1) v6 v' := by
  have hl : ∀ j, v7.ownBlock = some j → w.heap.size + 1 ≤ j := fun j hj => (own_lt h.fi hj).1
  have hs := h.be.size
  refine ⟨h.be.trans (below_grown g (fun j hj => by have := hl j hj; omega) hs), ?_, own_keep h.al g fun j hj e => ?_, ?_⟩
  · rw [g.block _ (blk_lt h.bx) (fun e => by have := hl _ e.symm; omega)]; exact h.bx
  · obtain ⟨c1, e1⟩ := own_block h.fi hj
    obtain ⟨c2, e2⟩ := own_block h.al e
    rw [e1] at e2; simp at e2
  · rw [FiV_step]; exact o
end

theorem row_shape {w : World} {B : Nat} {E : TypeId} {v : Value} {n : Nat} {xs : List Value} (h : w.ownsRow B E 1 v n xs) : ∃ a c, v = .slice a n c ∧ (0 < n → ∃ g, a = some ⟨g, 0, none⟩ ∧ ∀ j, j < n → w.cell? ⟨g, j, none⟩ = xs[j]?) := by
  have h' := h
  rcases h.2 with ⟨rfl, e⟩ | ⟨b, cap, cur, rfl, _⟩
  · exact ⟨none, 0, by rw [e], fun h => by omega⟩
  · exact ⟨_, _, rfl, fun _ => ⟨b, rfl, fun j hj => h'.cellAt j (by omega)⟩⟩

theorem Sho.shape {w wr : World} {N : List Nd} {s m : Value} {q : Nat} {v6 v7 : Value} (h : Sho w wr N s m q q v6 v7) : ∃ a6 c6 a7 c7, v6 = .slice a6 q c6 ∧ v7 = .slice a7 q c7 ∧ Ahead wr a6 a7 N q := by
  obtain ⟨a6, c6, rfl, h6⟩ := row_shape h.al
  obtain ⟨a7, c7, rfl, h7⟩ := row_shape h.fi
  refine ⟨a6, c6, a7, c7, rfl, rfl, fun h0 => ?_⟩
  obtain ⟨ga, rfl, k6⟩ := h6 h0
  obtain ⟨gf, rfl, k7⟩ := h7 h0
  refine ⟨ga, gf, rfl, rfl, fun j hj => ⟨?_, ?_⟩⟩
  · rw [k6 j hj]; simp [AlV, hj]
  · rw [k7 j hj]; simp [FiV, hj]

theorem sho_start (w : World) (N : List Nd) (s m : Value) {w2 : World} (b : Below (w.alloc (.cells #[s, m] 27)).heap.size (w.alloc (.cells #[s, m] 27)) w2) : Sho w w2 N s m 0 0 (.slice none 0 0) (.slice none 0 0) :=
  ⟨Below.next (new_b w _) b, by rw [b.block _ (by simp)]; exact new_same w _, ⟨rfl, .inl ⟨rfl, rfl⟩⟩, ⟨rfl, .inl ⟨rfl, rfl⟩⟩⟩

set_option maxHeartbeats 16000000 in
theorem rShow_any {w : World} {ao : Option Addr} {c M : Nat} {N : List Nd} (hR : RD w ao c N) (r : Wl N) (g : Gd N) (hN : N.length ≤ 100000) (id : Int) :
    Calls Tryd.prog 8 #[.agg #[.slice ao N.length c, .int .i64 M], .int .i64 id] w fun e w' => e = .returned (.tuple #[.string ⟨(shS N id).toArray⟩, .int .i64 (shE N id)]) ∧ Hid (Below w.heap.size w w') := by
  have HR := hid hR
  have HG := hid g
  cases hi : isN N id
  · have HI := hid hi
    have HS : Hid (shS N id = [] ∧ shE N id = 11) := hid (by simp [shS, shE, hi])
    rw [HS.out.1, HS.out.2]
    clear hi HS hR g
    go_enter Tryd.func8, Tryd.ntmps8
    go_wp2_with (go_at_call 22; with_reducible (refine (ris_is id HI.out).mono ?_); rintro e w1 ⟨rfl, b1⟩)
    go_ret2
    exact ⟨rfl, hid (Below.next (new_b w _) b1.out)⟩
  · have HI := hid hi
    obtain ⟨i0, rfl, hl⟩ := isN_yes hi
    have HO : Hid (((TX N i0).length ≤ 4096 → shS N i0 = TX N i0 ∧ shE N i0 = 0) ∧ (¬ (TX N i0).length ≤ 4096 → shS N i0 = [] ∧ shE N i0 = 8)) := hid ⟨fun h => by simp [shS, shE, hi, h], fun h => by simp [shS, shE, hi, h]⟩
    obtain ⟨so, hso⟩ : ∃ x, Hid (x = shS N i0) := ⟨_, hid rfl⟩
    obtain ⟨eo, heo⟩ : ∃ x, Hid (x = shE N i0) := ⟨_, hid rfl⟩
    rw [← hso.out, ← heo.out]
    rw [← hso.out, ← heo.out] at HO
    clear hi hR g hso heo
    go_enter Tryd.func8, Tryd.ntmps8
    go_wp2_with (go_at_call 22; with_reducible (refine (ris_is (i0 : Int) HI.out).mono ?_); rintro e w1 ⟨rfl, b1⟩)
    have H0 := hid (sho_start w N (.slice ao N.length c) (.int .i64 M) b1.out)
    clear b1
    go_loopw [6, 7, 8] (fun v6 v7 ix wr => ∃ q : Nat, q ≤ i0 + 1 ∧ ix = .int .i64 q ∧ Hid (Sho w wr N (.slice ao N.length c) (.int .i64 M) q q v6 v7)) (fun _ _ ix _ => i0 + 1 - (intOf ix).toNat)
    case atStart => exact ⟨0, Nat.zero_le _, rfl, H0⟩
    case round =>
      clear H0
      obtain ⟨q, hq, rfl, hs⟩ := hrel
      by_cases hlt : q ≤ i0
      · have hlt' : (q : Int) ≤ i0 := by omega
        have hqN : q < N.length := by omega
        have hqN' : (q : Int) < N.length := by omega
        obtain ⟨gn, rfl, n0, n1, n2, n3, n4, n5⟩ := (HR.out.below hs.out.be).at hqN
        obtain ⟨n, hn⟩ : ∃ n, ndA N (q : Int) = n := ⟨_, rfl⟩
        rw [hn] at n0 n1 n2 n3 n4 n5
        have HN := hid hn
        have cb : wr.cell? ⟨w.heap.size, 0, none⟩ = some (.slice (some ⟨gn, 0, none⟩) N.length c) := cell_of hs.out.bx
        obtain ⟨a6, c6, a7, c7, rfl, rfl, hA⟩ := hs.out.shape
        have HA := hid hA
        have hq2 : q ≤ 100000 := by omega
        have hsl := hs.out.lt
        clear hn hA
        by_cases hf : (TX N q).length ≤ 4096
        · have HF := hid hf
          have HU : Hid (shT N q = TX N q ∧ decide ((TX N q).length ≤ 4096) = true) := hid ⟨by unfold shT; rw [if_pos hf], by simpa using hf⟩
          clear hf
          go_wp2_with (first
            | (go_at_call 23; with_reducible (refine (rshow_yes r HG.out hqN HN.out _ _ _ _ _ HA.out hq2 HF.out).mono ?_); rintro e w2 ⟨rfl, b2⟩; have S2 := hid (hs.out.below b2.out); have z2 := S2.out.lt)
            | (at_builtin; first
              | (refine append_fresh (w1 := w2) rfl _ _ 58 9 rfl Tryd.underlying58 (.string ⟨#[]⟩) 16 rfl Tryd.info9 (by omega) (.string ⟨(TX N q).toArray⟩) rfl rfl (w.heap.size + 1) q _ (AlV N q) rfl S2.out.al rfl (by omega) z2 ?_; intro v3 w3 o3 g3; have S3 := hid (S2.out.app6 g3.out (by rw [HU.out.1]; exact o3.out)); have z3 := S3.out.lt)
              | (refine append_fresh (w1 := w3) rfl _ _ 59 4 rfl Tryd.underlying59 (.bool false) 1 rfl Tryd.info4 (by omega) (.bool true) rfl rfl (w.heap.size + 1) q _ (FiV N q) rfl S3.out.fi rfl (by omega) z3 ?_; intro v4 w4 o4 g4; have S4 := hid (S3.out.app7 g4.out (by rw [HU.out.2]; exact o4.out)))))
          go_roundw
          case rel => exact ⟨q + 1, by omega, by go_num, S4⟩
          case measure => simp only [intOf]; omega
        · have HF := hid hf
          have HU : Hid (shT N q = [] ∧ decide ((TX N q).length ≤ 4096) = false) := hid ⟨by unfold shT; rw [if_neg hf], by simpa using hf⟩
          clear hf
          go_wp2_with (first
            | (go_at_call 23; with_reducible (refine (rshow_not r HG.out hqN HN.out _ _ _ _ _ HA.out hq2 HF.out).mono ?_); rintro e w2 ⟨sx, rfl, b2⟩; have S2 := hid (hs.out.below b2.out); have z2 := S2.out.lt)
            | (at_builtin; first
              | (refine append_fresh (w1 := w2) rfl _ _ 58 9 rfl Tryd.underlying58 (.string ⟨#[]⟩) 16 rfl Tryd.info9 (by omega) (.string ⟨#[]⟩) rfl rfl (w.heap.size + 1) q _ (AlV N q) rfl S2.out.al rfl (by omega) z2 ?_; intro v3 w3 o3 g3; have S3 := hid (S2.out.app6 g3.out (by rw [HU.out.1]; exact o3.out)); have z3 := S3.out.lt)
              | (refine append_fresh (w1 := w3) rfl _ _ 59 4 rfl Tryd.underlying59 (.bool false) 1 rfl Tryd.info4 (by omega) (.bool false) rfl rfl (w.heap.size + 1) q _ (FiV N q) rfl S3.out.fi rfl (by omega) z3 ?_; intro v4 w4 o4 g4; have S4 := hid (S3.out.app7 g4.out (by rw [HU.out.2]; exact o4.out)))))
          go_roundw
          case rel => exact ⟨q + 1, by omega, by go_num, S4⟩
          case measure => simp only [intOf]; omega
      · have e : q = i0 + 1 := by omega
        subst e
        have hlt' : ¬ ((i0 + 1 : Nat) : Int) ≤ i0 := by omega
        obtain ⟨a6, c6, a7, c7, rfl, rfl, hA⟩ := hs.out.shape
        obtain ⟨ga, gf, rfl, rfl, ca, cf⟩ := hA.at (show i0 < i0 + 1 by omega)
        have hb : Hid (Below w.heap.size w wr) := hid hs.out.be
        have hi1 : (i0 : Int) < (i0 + 1 : Nat) := by omega
        by_cases hf : (TX N i0).length ≤ 4096
        · have ef : decide ((TX N i0).length ≤ 4096) = true := by simpa using hf
          rw [ef] at cf
          have es : shT N i0 = so := by unfold shT; rw [if_pos hf, (HO.out.1 hf).1]
          rw [es] at ca
          have HE := hid (HO.out.1 hf).2
          clear hf ef es hA hs
          go_wp2_with fail
          go_ret2
          exact ⟨by rw [HE.out]; rfl, hb⟩
        · have ef : decide ((TX N i0).length ≤ 4096) = false := by simpa using hf
          rw [ef] at cf
          have HE := hid (HO.out.2 hf)
          clear hf ef hA hs ca
          go_wp2_with fail
          go_ret2
          exact ⟨by rw [HE.out.1, HE.out.2]; rfl, hb⟩

end Go.Proofs.YtefielnmlekhaaaDoor
