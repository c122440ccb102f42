/-
  reckon, where the terms themselves are told: what lies in memory.
-/
import Derived.Test.YtbekgejbgmdbdaaRu
namespace Go.Proofs.Ytbekgejbgmdbdaa
open Go.RowKit Go.Maps
set_option linter.unusedVariables false
set_option maxRecDepth 20000

/-- While the parts of a term are looked at. -/
structure SN (w0 : World) (mb : Nat) (val : Nat → Nd) (H S : List Nat) (n : Nd) (nb pb kb ko : Nat) (v : Value) (wr : World) : Prop where
  sk : SK nR w0 mb val H S v wr
  nx : wr.heap[nb]? = some (.cells #[.int .i64 n.op, .int .i64 n.wd, .int .i64 n.a, .int .i64 n.b, .int .i64 n.c, .int .u64 n.v] 61 (0, 0))
  px : ∃ cs : Array Value, wr.heap[pb]? = some (.cells cs 99 (0, 0)) ∧ cs.size = 18 ∧ ∀ v ∈ cs.toList, v.oneCell' = true
  pw : w0.heap.size ≤ pb
  kc : ∀ j, j < (ksF n).length → wr.cell? ⟨kb, ko + j, none⟩ = some (.int .i64 ((ksF n).getD j 0))
  kn : 0 < (ksF n).length → v.ownBlock ≠ some kb ∧ kb < wr.heap.size ∧ kb ≠ pb

section
variable {w0 wr w2 : World} {mb : Nat} {val : Nat → Nd} {H S : List Nat} {n : Nd} {nb pb kb ko : Nat} {v : Value}

theorem SN.at (h : SN w0 mb val H S n nb pb kb ko v wr) {q : Nat} (hq : q < (ksF n).length) : wr.cell? ⟨kb, ko + q, none⟩ = some (.int .i64 ((ksF n).getD q 0)) := h.kc q hq

theorem SN.below (h : SN w0 mb val H S n nb pb kb ko v wr) (b : Below wr.heap.size wr w2) : SN w0 mb val H S n nb pb kb ko v w2 := by
  obtain ⟨cs, p1, p2, p3⟩ := h.px
  refine ⟨h.sk.below b, by rw [b.block _ (blk_lt h.nx)]; exact h.nx, ⟨cs, by rw [b.block _ (blk_lt p1)]; exact p1, p2, p3⟩, h.pw, fun j hj => (b.cell (cell_lt (h.kc j hj))).trans (h.kc j hj), fun h0 => ?_⟩
  obtain ⟨k1, k2, k3⟩ := h.kn h0
  exact ⟨k1, Nat.lt_of_lt_of_le k2 b.size, k3⟩

theorem SN.set1 (h : SN w0 mb val H S n nb pb kb ko v wr) (o : Nat) (u : Value) (hu : u.oneCell' = true) : SN w0 mb val H S n nb pb kb ko v (wr.setCell ⟨pb, o, none⟩ u) := by
  obtain ⟨cs, p1, p2, p3⟩ := h.px
  have hnp : nb ≠ pb := by
    intro e
    have := h.nx
    rw [e, p1] at this
    simp at this
  refine ⟨h.sk.other (grown_set wr ⟨pb, o, none⟩ _) rfl h.pw p1 (by decide), by rw [set_other _ (by simpa using hnp)]; exact h.nx, ⟨cs.setIfInBounds o u, set_same p1 _, by simpa using p2, fun x hx => ?_⟩, h.pw, fun j hj => ?_, fun h0 => ?_⟩
  · rw [Array.toList_setIfInBounds] at hx
    rcases List.mem_or_eq_of_mem_set hx with hx | hx
    · exact p3 x hx
    · rw [hx]; exact hu
  · obtain ⟨k1, k2, k3⟩ := h.kn (by omega)
    rw [cell_set_other (by simpa using k3)]; exact h.kc j hj
  · obtain ⟨k1, k2, k3⟩ := h.kn h0
    exact ⟨k1, by simpa using k2, k3⟩

theorem SN.set6 (h : SN w0 mb val H S n nb pb kb ko v wr) (o : Nat) (m : Nd) : SN w0 mb val H S n nb pb kb ko v ((((((wr.setCell ⟨pb, o, none⟩ (.int .i64 m.op)).setCell ⟨pb, o + 1, none⟩ (.int .i64 m.wd)).setCell ⟨pb, o + 2, none⟩ (.int .i64 m.a)).setCell ⟨pb, o + 3, none⟩ (.int .i64 m.b)).setCell ⟨pb, o + 4, none⟩ (.int .i64 m.c)).setCell ⟨pb, o + 5, none⟩ (.int .u64 m.v)) :=
  (((((h.set1 _ _ rfl).set1 _ _ rfl).set1 _ _ rfl).set1 _ _ rfl).set1 _ _ rfl).set1 _ _ rfl

theorem SN.cell (h : SN w0 mb val H S n nb pb kb ko v wr) {o : Nat} (ho : o < 18) : ∃ u, wr.cell? ⟨pb, o, none⟩ = some u ∧ wr.frozen? ⟨pb, o, none⟩ = false := by
  obtain ⟨cs, p1, p2, p3⟩ := h.px
  refine ⟨cs[o]'(by omega), ?_, frozen_of p1⟩
  rw [cell_of p1]
  exact Array.getElem?_eq_getElem (by omega)

theorem SN.cells6 (h : SN w0 mb val H S n nb pb kb ko v wr) {q : Nat} (hq : q < 3) : ∃ u0 u1 u2 u3 u4 u5, wr.cell? ⟨pb, q * 6, none⟩ = some u0 ∧ wr.cell? ⟨pb, q * 6 + 1, none⟩ = some u1 ∧ wr.cell? ⟨pb, q * 6 + 2, none⟩ = some u2 ∧ wr.cell? ⟨pb, q * 6 + 3, none⟩ = some u3 ∧ wr.cell? ⟨pb, q * 6 + 4, none⟩ = some u4 ∧ wr.cell? ⟨pb, q * 6 + 5, none⟩ = some u5 ∧
    wr.frozen? ⟨pb, q * 6, none⟩ = false ∧ wr.frozen? ⟨pb, q * 6 + 1, none⟩ = false ∧ wr.frozen? ⟨pb, q * 6 + 2, none⟩ = false ∧ wr.frozen? ⟨pb, q * 6 + 3, none⟩ = false ∧ wr.frozen? ⟨pb, q * 6 + 4, none⟩ = false ∧ wr.frozen? ⟨pb, q * 6 + 5, none⟩ = false := by
  obtain ⟨u0, a0, b0⟩ := h.cell (o := q * 6) (by omega)
  obtain ⟨u1, a1, b1⟩ := h.cell (o := q * 6 + 1) (by omega)
  obtain ⟨u2, a2, b2⟩ := h.cell (o := q * 6 + 2) (by omega)
  obtain ⟨u3, a3, b3⟩ := h.cell (o := q * 6 + 3) (by omega)
  obtain ⟨u4, a4, b4⟩ := h.cell (o := q * 6 + 4) (by omega)
  obtain ⟨u5, a5, b5⟩ := h.cell (o := q * 6 + 5) (by omega)
  exact ⟨u0, u1, u2, u3, u4, u5, a0, a1, a2, a3, a4, a5, b0, b1, b2, b3, b4, b5⟩

theorem SN.all (h : SN w0 mb val H S n nb pb kb ko v wr) : ∃ x0 x1 x2 x3 x4 x5 x6 x7 x8 x9 x10 x11 x12 x13 x14 x15 x16 x17, wr.cell? ⟨pb, 0, none⟩ = some x0 ∧ wr.cell? ⟨pb, 1, none⟩ = some x1 ∧ wr.cell? ⟨pb, 2, none⟩ = some x2 ∧ wr.cell? ⟨pb, 3, none⟩ = some x3 ∧ wr.cell? ⟨pb, 4, none⟩ = some x4 ∧ wr.cell? ⟨pb, 5, none⟩ = some x5 ∧ wr.cell? ⟨pb, 6, none⟩ = some x6 ∧ wr.cell? ⟨pb, 7, none⟩ = some x7 ∧ wr.cell? ⟨pb, 8, none⟩ = some x8 ∧ wr.cell? ⟨pb, 9, none⟩ = some x9 ∧ wr.cell? ⟨pb, 10, none⟩ = some x10 ∧ wr.cell? ⟨pb, 11, none⟩ = some x11 ∧ wr.cell? ⟨pb, 12, none⟩ = some x12 ∧ wr.cell? ⟨pb, 13, none⟩ = some x13 ∧ wr.cell? ⟨pb, 14, none⟩ = some x14 ∧ wr.cell? ⟨pb, 15, none⟩ = some x15 ∧ wr.cell? ⟨pb, 16, none⟩ = some x16 ∧ wr.cell? ⟨pb, 17, none⟩ = some x17 := by
  obtain ⟨x0, a0, _⟩ := h.cell (o := 0) (by omega)
  obtain ⟨x1, a1, _⟩ := h.cell (o := 1) (by omega)
  obtain ⟨x2, a2, _⟩ := h.cell (o := 2) (by omega)
  obtain ⟨x3, a3, _⟩ := h.cell (o := 3) (by omega)
  obtain ⟨x4, a4, _⟩ := h.cell (o := 4) (by omega)
  obtain ⟨x5, a5, _⟩ := h.cell (o := 5) (by omega)
  obtain ⟨x6, a6, _⟩ := h.cell (o := 6) (by omega)
  obtain ⟨x7, a7, _⟩ := h.cell (o := 7) (by omega)
  obtain ⟨x8, a8, _⟩ := h.cell (o := 8) (by omega)
  obtain ⟨x9, a9, _⟩ := h.cell (o := 9) (by omega)
  obtain ⟨x10, a10, _⟩ := h.cell (o := 10) (by omega)
  obtain ⟨x11, a11, _⟩ := h.cell (o := 11) (by omega)
  obtain ⟨x12, a12, _⟩ := h.cell (o := 12) (by omega)
  obtain ⟨x13, a13, _⟩ := h.cell (o := 13) (by omega)
  obtain ⟨x14, a14, _⟩ := h.cell (o := 14) (by omega)
  obtain ⟨x15, a15, _⟩ := h.cell (o := 15) (by omega)
  obtain ⟨x16, a16, _⟩ := h.cell (o := 16) (by omega)
  obtain ⟨x17, a17, _⟩ := h.cell (o := 17) (by omega)
  exact ⟨x0, x1, x2, x3, x4, x5, x6, x7, x8, x9, x10, x11, x12, x13, x14, x15, x16, x17, a0, a1, a2, a3, a4, a5, a6, a7, a8, a9, a10, a11, a12, a13, a14, a15, a16, a17⟩

theorem SN.six (h : SN w0 mb val H S n nb pb kb ko v wr) : wr.cell? ⟨nb, 0, none⟩ = some (.int .i64 n.op) ∧ wr.cell? ⟨nb, 1, none⟩ = some (.int .i64 n.wd) ∧ wr.cell? ⟨nb, 2, none⟩ = some (.int .i64 n.a) ∧ wr.cell? ⟨nb, 3, none⟩ = some (.int .i64 n.b) ∧ wr.cell? ⟨nb, 4, none⟩ = some (.int .i64 n.c) ∧ wr.cell? ⟨nb, 5, none⟩ = some (.int .u64 n.v) := by
  refine ⟨?_, ?_, ?_, ?_, ?_, ?_⟩ <;> (rw [cell_of h.nx]; rfl)

/-- A part that is not held is put on the list; a box bb of a term is kept. -/
theorem SN.push (h : SN w0 mb val H S n nb pb kb ko v wr) (h0 : 0 < (ksF n).length) {x : Nat} {w3 : World} {v3 : Value} {o : Obj} (g : (wr.alloc o).grownBy w3 v.ownBlock) (ow : w3.ownsRow w0.heap.size 3 1 v3 (S.length + 1) (stC S ++ [.int .i64 (x : Int)]))
    (hb : v3.ownBlock = v.ownBlock ∨ v3.ownBlock = some (wr.alloc o).heap.size) : SN w0 mb val H (S ++ [x]) n nb pb kb ko v3 w3 ∧ ∀ {j : Nat} {cc : Array Value}, wr.heap[j]? = some (.cells cc 61 (0, 0)) → w3.heap[j]? = some (.cells cc 61 (0, 0)) := by
  have ha : Below wr.heap.size wr (wr.alloc o) := by go_grown
  have h1 := h.sk.below ha
  obtain ⟨cs, p1, p2, p3⟩ := h.px
  obtain ⟨k1, k2, k3⟩ := h.kn h0
  have hne : ∀ {j : Nat} {cc : Array Value} {t : TypeId}, wr.heap[j]? = some (.cells cc t (0, 0)) → t ≠ 3 → w3.heap[j]? = wr.heap[j]? := by
    intro j cc t hj ht
    rw [g.block j (by have := blk_lt hj; simp; omega) fun e => ?_, ha.block j (blk_lt hj)]
    obtain ⟨_, cur, hc⟩ := own_type h.sk.ow e.symm
    rw [hj] at hc
    simp at hc
    exact ht hc.2
  refine ⟨⟨h1.push g ow, by rw [hne h.nx (by decide)]; exact h.nx, ⟨cs, by rw [hne p1 (by decide)]; exact p1, p2, p3⟩, h.pw, fun j hj => ?_, fun _ => ⟨?_, ?_, k3⟩⟩, fun hj => by rw [hne hj (by decide)]; exact hj⟩
  · have e : w3.heap[kb]? = wr.heap[kb]? := by
      rw [g.block kb (by simp; omega) (fun e => k1 e.symm), ha.block kb k2]
    have := h.kc j hj
    simp only [World.cell?] at this ⊢
    rw [e]; exact this
  · rcases hb with hb | hb
    · rw [hb]; exact k1
    · rw [hb]; simp; omega
  · have := g.size
    simp at this; omega
end

theorem bxSix {w : World} {b : Nat} {v0 v1 v2 v3 v4 v5 : Value} (h : w.heap[b]? = some (.cells #[v0, v1, v2, v3, v4, v5] 61 (0, 0))) : w.cell? ⟨b, 0, none⟩ = some v0 ∧ w.cell? ⟨b, 1, none⟩ = some v1 ∧ w.cell? ⟨b, 2, none⟩ = some v2 ∧ w.cell? ⟨b, 3, none⟩ = some v3 ∧ w.cell? ⟨b, 4, none⟩ = some v4 ∧ w.cell? ⟨b, 5, none⟩ = some v5 := by
  refine ⟨?_, ?_, ?_, ?_, ?_, ?_⟩ <;> (rw [cell_of h]; rfl)

theorem nIn {w : World} {mb : Nat} {H : List Nat} {val : Nat → Nd} (h : HeldIs nR w mb H val) {j : Nat} (hj : inF H j = true) (hb : j ≤ 1000000) : (Instr.lookup 68 (.map (some mb)) (.int .i64 j) true).run Try.prog w = .ok (.tuple #[.agg #[.int .i64 (val j).op, .int .i64 (val j).wd, .int .i64 (val j).a, .int .i64 (val j).b, .int .i64 (val j).c, .int .u64 (val j).v], .bool true]) w := h.look_in (by simpa [inF] using hj) hb
theorem nOut {w : World} {mb : Nat} {H : List Nat} {val : Nat → Nd} (h : HeldIs nR w mb H val) {j : Nat} (hj : inF H j = false) (hb : j ≤ 1000000) : (Instr.lookup 68 (.map (some mb)) (.int .i64 j) true).run Try.prog w = .ok (.tuple #[.agg #[.int .i64 0, .int .i64 0, .int .i64 0, .int .i64 0, .int .i64 0, .int .u64 0], .bool false]) w := h.look_out (fun k hk e => by
  have : j = k := by omega
  subst this; simp [inF] at hj; exact hj hk) (by omega) (by omega)
theorem nput {w0 wr : World} {mb : Nat} {val : Nat → Nd} {H S : List Nat} {v : Value} {x : Nat} (h : SK nR w0 mb val H S v wr) (hx : inF H x = false) (hb : x ≤ 1000000) (hl : H.length ≤ 1000000) {n : Nd} (hn : val x = n) : ∃ w2, (Instr.mapUpdate 68 (.map (some mb)) (.int .i64 x) (.agg #[.int .i64 n.op, .int .i64 n.wd, .int .i64 n.a, .int .i64 n.b, .int .i64 n.c, .int .u64 n.v])).run Try.prog wr = .ok () w2 ∧ Hid (SK nR w0 mb val (H ++ [x]) S v w2) := by
  subst hn; exact h.put hx hb hl

theorem skn_start (w0 w1 w2 : World) (b1 : Below w0.heap.size w0 w1) {b : Nat} (hb : b = w1.heap.size) {g : Nat} (hg : g = w2.heap.size) (b2 : Below (w1.alloc (.map #[] 0)).heap.size (w1.alloc (.map #[] 0)) w2) (val : Nat → Nd) (id : Nat) :
    SK nR w0 b val [] [id] (.slice (some ⟨g, 0, none⟩) 1 1) (w2.alloc (.cells #[.int .i64 (id : Int)] 3)) := by
  subst hb hg
  have s1 := b1.size
  have hm := HeldIs.made nR val w1
  have ba : Below w1.heap.size w1 (w1.alloc (.map #[] 0)) := by go_grown
  have bb : Below w2.heap.size w2 (w2.alloc (.cells #[.int .i64 (id : Int)] 3)) := by go_grown
  have s2 := b2.size
  simp at s2
  refine ⟨Below.next b1 (Below.next ba (Below.next b2 bb)), (hm.below b2).below bb, s1, ?_⟩
  exact World.ownsRow_lit (base := w0.heap.size) (e := 3) (size := 1) w2 #[.int .i64 (id : Int)] 1 (by omega) (by unfold maxLen; omega) rfl

theorem itself_any (n : Nd) (cs : Array Value) (w : World) : Calls Try.prog 31 #[.agg #[.int .i64 n.op, .int .i64 n.wd, .int .i64 n.a, .int .i64 n.b, .int .i64 n.c, .int .u64 n.v], .agg cs] w fun e w' => e = .returned (.agg #[.int .i64 n.op, .int .i64 n.wd, .int .i64 n.a, .int .i64 n.b, .int .i64 n.c, .int .u64 n.v]) ∧ Hid (Below w.heap.size w w') := by
  go_enter Try.func31, Try.ntmps31
  go_wp2
  go_returns
  exact ⟨rfl, hid (by go_grown)⟩

end Go.Proofs.Ytbekgejbgmdbdaa
