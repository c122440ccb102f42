/-
  reckon: each term that one is made of, once, behind its parts: words.
-/
import Derived.Test.YtbekgejbgmdbdaaRm
import Derived.Test.YtbekgejbgmdbdaaVo
namespace Go.Proofs.Ytbekgejbgmdbdaa
open Go.RowKit Go.Maps
set_option linter.unusedVariables false
set_option maxRecDepth 20000

/-- While the parts of a term are looked at: q of them were. -/
structure SQ (w0 : World) (mb : Nat) (val : Nat → Int) (H S : List Nat) (n : Nd) (nb pb kb ko q : Nat) (v : Value) (wr : World) : Prop where
  sk : SK uR w0 mb val H S v wr
  nx : wr.heap[nb]? = some (.cells #[.int .i64 n.op, .int .i64 n.wd, .int .i64 n.a, .int .i64 n.b, .int .i64 n.c, .int .u64 n.v] 61 (0, 0))
  px : ∃ cs : List Int, wr.heap[pb]? = some (.cells ((cs.map (Value.int .u64)).toArray) 64 (0, 0)) ∧ cs.length = 3 ∧ (∀ c ∈ cs, Wd64 c) ∧ ∀ j, j < q → inF H ((ksF n).getD j 0).toNat = true → cs.getD j 0 = val ((ksF n).getD j 0).toNat
  pw : w0.heap.size ≤ pb
  kc : ∀ j, j < (ksF n).length → wr.cell? ⟨kb, ko + j, none⟩ = some (.int .i64 ((ksF n).getD j 0))
  kn : 0 < (ksF n).length → v.ownBlock ≠ some kb ∧ kb < wr.heap.size ∧ kb ≠ pb

theorem cell_set_other {w : World} {b o : Nat} {a : Addr} {v : Value} (h : b ≠ a.block) : (w.setCell a v).cell? ⟨b, o, none⟩ = w.cell? ⟨b, o, none⟩ := by
  simp only [World.cell?]
  rw [set_other v h]

section
variable {w0 wr w2 : World} {mb : Nat} {val : Nat → Int} {H S : List Nat} {n : Nd} {nb pb kb ko q : Nat} {v : Value}

theorem SQ.at (h : SQ w0 mb val H S n nb pb kb ko q v wr) (hq : q < (ksF n).length) : wr.cell? ⟨kb, ko + q, none⟩ = some (.int .i64 ((ksF n).getD q 0)) := h.kc q hq

/-- A word is laid into its place. -/
theorem SQ.set (h : SQ w0 mb val H S n nb pb kb ko q v wr) (hq : q < (ksF n).length) (hq3 : q < 3) {c : Int} (hc : Wd64 c) (hv : inF H ((ksF n).getD q 0).toNat = true → c = val ((ksF n).getD q 0).toNat) :
    SQ w0 mb val H S n nb pb kb ko (q + 1) v (wr.setCell ⟨pb, q, none⟩ (.int .u64 c)) := by
  obtain ⟨cs, p1, p2, p3, p4⟩ := h.px
  obtain ⟨k1, k2, k3⟩ := h.kn (by omega)
  have hnp : nb ≠ pb := by
    intro e
    have := h.nx
    rw [e, p1] at this
    simp at this
  refine ⟨?_, ?_, ⟨cs.set q c, ?_, by simpa using p2, fun d hd => ?_, fun j hj hi => ?_⟩, h.pw, fun j hj => ?_, fun _ => ⟨k1, by simpa using k2, k3⟩⟩
  · exact h.sk.other (grown_set wr ⟨pb, q, none⟩ _) rfl h.pw p1 (by decide)
  · rw [set_other _ (by simpa using hnp)]; exact h.nx
  · have := set_same p1 (o := q) (.int .u64 c)
    rw [this]
    simp [List.map_set]
  · rcases List.mem_or_eq_of_mem_set hd with hd | hd
    · exact p3 d hd
    · rw [hd]; exact hc
  · by_cases e : j = q
    · subst e
      rw [List.getD_eq_getElem?_getD, List.getElem?_set_self (by omega)]
      exact hv hi
    · have := p4 j (by omega) hi
      rw [← this]
      simp [List.getElem?_set_ne (Ne.symm e)]
  · rw [cell_set_other (by simpa using k3)]; exact h.kc j hj

theorem SQ.cell (h : SQ w0 mb val H S n nb pb kb ko q v wr) (hq3 : q < 3) : ∃ u, wr.cell? ⟨pb, q, none⟩ = some (.int .u64 u) ∧ wr.frozen? ⟨pb, q, none⟩ = false := by
  obtain ⟨cs, p1, p2, p3, p4⟩ := h.px
  refine ⟨cs.getD q 0, ?_, frozen_of p1⟩
  rw [cell_of p1]
  simp [p2, hq3]

theorem SQ.three (h : SQ w0 mb val H S n nb pb kb ko q v wr) : ∃ c0 c1 c2, wr.cell? ⟨pb, 0, none⟩ = some (.int .u64 c0) ∧ wr.cell? ⟨pb, 1, none⟩ = some (.int .u64 c1) ∧ wr.cell? ⟨pb, 2, none⟩ = some (.int .u64 c2) ∧ Wd64 c0 ∧ Wd64 c1 ∧ Wd64 c2 ∧ ∀ j, j < q → inF H ((ksF n).getD j 0).toNat = true → [c0, c1, c2].getD j 0 = val ((ksF n).getD j 0).toNat := by
  obtain ⟨cs, p1, p2, p3, p4⟩ := h.px
  match cs, p2 with
  | [c0, c1, c2], _ =>
    exact ⟨c0, c1, c2, by rw [cell_of p1]; rfl, by rw [cell_of p1]; rfl, by rw [cell_of p1]; rfl, p3 c0 (by simp), p3 c1 (by simp), p3 c2 (by simp), p4⟩

theorem SQ.six (h : SQ w0 mb val H S n nb pb kb ko q v wr) : wr.cell? ⟨nb, 0, none⟩ = some (.int .i64 n.op) ∧ wr.cell? ⟨nb, 1, none⟩ = some (.int .i64 n.wd) ∧ wr.cell? ⟨nb, 2, none⟩ = some (.int .i64 n.a) ∧ wr.cell? ⟨nb, 3, none⟩ = some (.int .i64 n.b) ∧ wr.cell? ⟨nb, 4, none⟩ = some (.int .i64 n.c) ∧ wr.cell? ⟨nb, 5, none⟩ = some (.int .u64 n.v) := by
  refine ⟨?_, ?_, ?_, ?_, ?_, ?_⟩ <;> (rw [cell_of h.nx]; rfl)

/-- A part that is not held is put on the list. -/
theorem SQ.push (h : SQ w0 mb val H S n nb pb kb ko q v wr) (hq : q < (ksF n).length) {x : Nat} {w3 : World} {v3 : Value} {o : Obj} (g : (wr.alloc o).grownBy w3 v.ownBlock) (ow : w3.ownsRow w0.heap.size 3 1 v3 (S.length + 1) (stC S ++ [.int .i64 (x : Int)]))
    (hb : v3.ownBlock = v.ownBlock ∨ v3.ownBlock = some (wr.alloc o).heap.size) : SQ w0 mb val H (S ++ [x]) n nb pb kb ko q v3 w3 := by
  have ha : Below wr.heap.size wr (wr.alloc o) := by go_grown
  have h1 := h.sk.below ha
  obtain ⟨cs, p1, p2, p3, p4⟩ := h.px
  obtain ⟨k1, k2, k3⟩ := h.kn (by omega)
  have hne : ∀ {j : Nat} {cc : Array Value} {t : TypeId}, wr.heap[j]? = some (.cells cc t (0, 0)) → t ≠ 3 → w3.heap[j]? = wr.heap[j]? := by
    intro j cc t hj ht
    rw [g.block j (by have := blk_lt hj; simp; omega) fun e => ?_, ha.block j (blk_lt hj)]
    obtain ⟨_, cur, hc⟩ := own_type h.sk.ow e.symm
    rw [hj] at hc
    simp at hc
    exact ht hc.2
  refine ⟨h1.push g ow, by rw [hne h.nx (by decide)]; exact h.nx, ⟨cs, by rw [hne p1 (by decide)]; exact p1, p2, p3, p4⟩, h.pw, fun j hj => ?_, fun _ => ⟨?_, ?_, k3⟩⟩
  · have e : w3.heap[kb]? = wr.heap[kb]? := by
      rw [g.block kb (by simp; omega) (fun e => k1 e.symm), ha.block kb k2]
    have := h.kc j hj
    simp only [World.cell?] at this ⊢
    rw [e]; exact this
  · rcases hb with hb | hb
    · rw [hb]; exact k1
    · rw [hb]; simp; omega
  · have := g.size
    simp at this; omega
end

end Go.Proofs.Ytbekgejbgmdbdaa
