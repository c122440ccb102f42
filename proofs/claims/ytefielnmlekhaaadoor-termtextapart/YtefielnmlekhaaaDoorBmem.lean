/-
  Terms beside the document's: what lies in memory.
-/
import Derived.Test.YtefielnmlekhaaaDoorBuild
namespace Go.Proofs.YtefielnmlekhaaaDoor
open Go.RowKit Go.Maps
set_option linter.unusedVariables false
set_option maxRecDepth 100000

theorem own_same {w w' : World} {base : Nat} {E : TypeId} {sz : Nat} {v : Value} {n : Nat} {xs : List Value} (h : w.ownsRow base E sz v n xs) (e : ∀ j, v.ownBlock = some j → w'.heap[j]? = w.heap[j]?) : w'.ownsRow base E sz v n xs := by
  refine ⟨h.1, ?_⟩
  rcases h.2 with h2 | ⟨b, cap, cur, rfl, hb, hg, rest⟩
  · exact .inl h2
  · exact .inr ⟨b, cap, cur, rfl, hb, by rw [e b rfl]; exact hg, rest⟩
theorem own_addr {ao : Option Addr} {n c j : Nat} (h : (Value.slice ao n c).ownBlock = some j) : ∃ g, ao = some g ∧ g.block = j := by
  cases ao with
  | none => simp [Value.ownBlock] at h
  | some g => exact ⟨g, rfl, by simpa [Value.ownBlock] using h⟩
theorem RD.lt {w : World} {ao : Option Addr} {c : Nat} {N : List Nd} (h : RD w ao c N) {g : Addr} (hg : ao = some g) : g.block < w.heap.size := by
  subst hg
  exact (own_lt h rfl).2

/-- Between two deeds: the dag has the terms N1, the document's the terms N. -/
structure LB (w0 : World) (k : K) (XB : Nat) (N1 : List Nd) (P : Nat → Prop) (ao : Option Addr) (c : Nat) (N : List Nd) (wr : World) : Prop where
  be : Below w0.heap.size w0 wr
  rb : wr.heap[w0.heap.size]? = some (.cells #[.slice none 0 0, .int .i64 0] 27 (0, 0))
  xb : wr.heap[XB]? = some (.cells #[.slice ao N.length c, .int .i64 k.M] 27 (0, 0))
  dg : Dg k wr N1 P
  rd : RD wr ao c N
  np : ∀ g, ao = some g → ¬ P g.block
  nx : ¬ P XB
  kb : w0.heap.size < k.B
  xw : w0.heap.size < XB

section
variable {w0 wr w2 w3 : World} {k : K} {XB : Nat} {N1 N N' : List Nd} {P P' : Nat → Prop} {ao ao' : Option Addr} {c c' : Nat}

theorem LB.below (h : LB w0 k XB N1 P ao c N wr) (b : Below wr.heap.size wr w2) : LB w0 k XB N1 P ao c N w2 :=
  ⟨Below.next h.be b, by rw [b.block _ (blk_lt h.rb)]; exact h.rb, by rw [b.block _ (blk_lt h.xb)]; exact h.xb, h.dg.below b, h.rd.below b, h.np, h.nx, h.kb, h.xw⟩

theorem LB.made (h : LB w0 k XB N1 P ao c N wr) (h1 : Dg k w2 N' P') (f : Fr P P' wr w2) : LB w0 k XB N' P' ao c N w2 := by
  have nr : ¬ P w0.heap.size := fun e => by have := (h.dg.bd e).1; have := h.kb; omega
  refine ⟨h.be.trans (f.be (fun j hj => Nat.le_trans (Nat.le_of_lt h.kb) (h.dg.bd hj).1) h.be.size), ?_, ?_, h1, ?_, fun g hg e => ?_, fun e => ?_, h.kb, h.xw⟩
  · rw [f.block _ (blk_lt h.rb) nr]; exact h.rb
  · rw [f.block _ (blk_lt h.xb) h.nx]; exact h.xb
  · refine own_same h.rd fun j hj => ?_
    obtain ⟨g, e1, e2⟩ := own_addr hj
    subst e2
    exact f.block _ (h.rd.lt e1) (h.np g e1)
  · rcases f.new _ e with e | e
    · exact h.np g hg e
    · have := h.rd.lt hg; omega
  · rcases f.new _ e with e | e
    · exact h.nx e
    · have := blk_lt h.xb; omega

/-- Behind meant: the answer lies in the box q. -/
def LC (w0 : World) (k : K) (XB : Nat) (N' : List Nd) (P : Nat → Prop) (ao : Option Addr) (c : Nat) (N : List Nd) (q : Nat) (ao' : Option Addr) (c' : Nat) (wx : World) : Prop :=
  LB w0 k XB N' P ao c N wx ∧ wx.heap[q]? = some (.cells #[.slice ao' N'.length c', .int .i64 k.M] 27 (0, 0)) ∧ RD wx ao' c' N' ∧ (∀ g, ao' = some g → ¬ P g.block) ∧ XB ≠ q

theorem LB.fresh (h : LB w0 k XB N' P ao c N wr) (hf : Fresh wr ao ao') : ∀ g, ao' = some g → ¬ P g.block := by
  intro g hg e
  rcases hf with hf | hf
  · subst hf; exact h.np g hg e
  · have := hf g hg; have := (h.dg.bd e).2; omega

theorem lc_a (h : LB w0 k XB N' P ao c N w2) (b3 : Below w2.heap.size w2 w3) (h3 : RDF w2 ao w3 ao' c' N') : LC w0 k XB N' P ao c N w3.heap.size ao' c' (w3.alloc (.cells #[.slice ao' N'.length c', .int .i64 k.M] 27)) := by
  have b4 : Below w3.heap.size w3 (w3.alloc (.cells #[.slice ao' N'.length c', .int .i64 k.M] 27)) := by go_grown
  refine ⟨(h.below b3).below b4, new_same _ _, h3.1.below b4, h.fresh h3.2, ?_⟩
  have := blk_lt (h.below b3).xb
  omega

theorem lc_b {x y : Value} (h : LB w0 k XB N' P ao c N w2) (b3 : Below (w2.alloc (.cells #[x, y] 27)).heap.size (w2.alloc (.cells #[x, y] 27)) w3) (h3 : RDF (w2.alloc (.cells #[x, y] 27)) ao w3 ao' c' N') :
    LC w0 k XB N' P ao c N w2.heap.size ao' c' ((w3.setCell ⟨w2.heap.size, 0, none⟩ (.slice ao' N'.length c')).setCell ⟨w2.heap.size, 1, none⟩ (.int .i64 k.M)) := by
  have ha : Below w2.heap.size w2 (w2.alloc (.cells #[x, y] 27)) := by go_grown
  have hb : w3.heap[w2.heap.size]? = some (.cells #[x, y] 27 (0, 0)) := by rw [b3.block _ (by simp)]; exact new_same _ _
  have hs := b3.size
  simp at hs
  have b5 : Below w2.heap.size w2 ((w3.setCell ⟨w2.heap.size, 0, none⟩ (.slice ao' N'.length c')).setCell ⟨w2.heap.size, 1, none⟩ (.int .i64 k.M)) := res_below (Below.next ha b3) (Nat.le_refl _)
  have hx := blk_lt h.xb
  refine ⟨h.below b5, ?_, res_keep hb h3.1, h.fresh (h3.2.from (by simp)), by omega⟩
  have := set_same (set_same hb (o := 0) (.slice ao' N'.length c')) (o := 1) (.int .i64 k.M)
  simpa using this

theorem LC.next {q : Nat} (h : LC w0 k XB N' P ao c N q ao' c' w2) : LB w0 k XB N' P ao' c' N' ((w2.setCell ⟨XB, 0, none⟩ (.slice ao' N'.length c')).setCell ⟨XB, 1, none⟩ (.int .i64 k.M)) := by
  obtain ⟨h, hq, hr, hf, hne⟩ := h
  have hw := h.xw
  have hd : Dg k (w2.setCell ⟨XB, 0, none⟩ (.slice ao' N'.length c')) N' P := h.dg.keep (grown_set w2 ⟨XB, 0, none⟩ _) fun j hj => by cases hj; exact h.nx
  refine ⟨res_below h.be (by omega), ?_, ?_, hd.keep (grown_set _ ⟨XB, 1, none⟩ _) (fun j hj => by cases hj; exact h.nx), res_keep h.xb hr, hf, h.nx, h.kb, h.xw⟩
  · rw [set_other _ (by simp; omega), set_other _ (by simp; omega)]; exact h.rb
  · have := set_same (set_same h.xb (o := 0) (.slice ao' N'.length c')) (o := 1) (.int .i64 k.M)
    simpa using this

theorem lb_start {w w1 w2 : World} {k : K} {n : Int} {o : Obj} (ho : o = .cells #[.slice none 0 0, .int .i64 0] 27 (0, 0)) (hM : k.M = cntF n) (hB : k.B = (w.alloc o).heap.size) (s0 : Dg k w1 [] (fun j => j = k.DB)) (b1 : Below (w.alloc o).heap.size (w.alloc o) w1) (b2 : Below w1.heap.size w1 w2) :
    LB w k w2.heap.size [] (fun j => j = k.DB) none 0 [] (w2.alloc (.cells #[.slice none 0 0, .int .i64 (cntF n)] 27)) := by
  have ha : Below w.heap.size w (w.alloc o) := by go_grown
  have b3 : Below w2.heap.size w2 (w2.alloc (.cells #[.slice none 0 0, .int .i64 (cntF n)] 27)) := by go_grown
  have b4 := Below.next b1 (Below.next b2 b3)
  have h1 := b1.size
  have h2 := b2.size
  simp at h1 hB
  have hd := (s0.bd rfl).2
  refine ⟨Below.next ha b4, ?_, ?_, (s0.below b2).below b3, World.ownsRow_nil _ _ _ _, (fun g hg => by cases hg), fun e => ?_, by omega, by omega⟩
  · rw [b4.block _ (by simp), ← ho]; exact new_same _ _
  · rw [hM]; exact new_same _ _
  · have e : w2.heap.size = k.DB := e
    omega

/-- The end of Build. -/
theorem lb_end (h : LB w0 k XB N P ao c N w2) {x y : Value} : Dg k ((w2.setCell ⟨w0.heap.size, 0, none⟩ x).setCell ⟨w0.heap.size, 1, none⟩ y) N P ∧ RD ((w2.setCell ⟨w0.heap.size, 0, none⟩ x).setCell ⟨w0.heap.size, 1, none⟩ y) ao c N ∧ Below w0.heap.size w0 ((w2.setCell ⟨w0.heap.size, 0, none⟩ x).setCell ⟨w0.heap.size, 1, none⟩ y) := by
  have nr : ¬ P w0.heap.size := fun e => by have := (h.dg.bd e).1; have := h.kb; omega
  have hd : Dg k (w2.setCell ⟨w0.heap.size, 0, none⟩ x) N P := h.dg.keep (grown_set w2 ⟨w0.heap.size, 0, none⟩ _) fun j hj => by cases hj; exact nr
  exact ⟨hd.keep (grown_set _ ⟨w0.heap.size, 1, none⟩ _) (fun j hj => by cases hj; exact nr), res_keep h.rb h.rd, res_below h.be (Nat.le_refl _)⟩
end

/-- meant, between two deeds. -/
theorem meant_at {w0 wr : World} {k : K} {XB : Nat} {N1 N N' : List Nd} {P : Nat → Prop} {ao : Option Addr} {c : Nat} (h : LB w0 k XB N1 P ao c N wr) (gd : Gd N) (hN : N.length ≤ 65536) (d : Dd) (hd : DdFt d) {I E : Int} (hI : resI k.M N (planD N d) = I) (hE : resE k.M N (planD N d) = E) (hR : resN k.M N (planD N d) = N') :
    Calls Tryd.prog 18 #[.agg #[.slice ao N.length c, .int .i64 k.M], .agg #[.int .i64 d.kd, .int .i64 d.w, .int .i64 d.a, .int .i64 d.b, .int .i64 d.c, .int .u64 d.x]] wr fun e w' => ∃ ao' c', e = .returned (.tuple #[.agg #[.slice ao' N'.length c', .int .i64 k.M], .int .i64 I, .int .i64 E]) ∧ Hid (RDF wr ao w' ao' c' N') ∧ Hid (Below wr.heap.size wr w') := by
  subst hI hE hR
  exact rmeant_any h.rd hN gd d hd

end Go.Proofs.YtefielnmlekhaaaDoor
