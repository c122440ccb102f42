/-
  Terms, each once: the walk.
-/
import Derived.Test.YtefielnmlekhaaaDoorOnce
import Derived.Test.YtefielnmlekhaaaDoorFrame
import Derived.Test.YtefielnmlekhaaaDoorMade
import Derived.Test.YtefielnmlekhaaaDoorMkC
import Derived.Test.YtefielnmlekhaaaDoorVar
import Derived.Test.YtefielnmlekhaaaDoorRmade
import Derived.Test.YtefielnmlekhaaaDoorPl
namespace Go.Proofs.YtefielnmlekhaaaDoor
open Go.RowKit Go.Maps
set_option linter.unusedVariables false
set_option maxRecDepth 100000

theorem mk_is {k : K} {w : World} {N : List Nd} {P : Nat → Prop} {p : Plan} {f : FuncId} {args : Array Value} (h : Calls Tryd.prog f args w fun e w' => e = .returned (.tuple #[.int .i64 (resI k.M N p), .int .i64 (resE k.M N p)]) ∧ Hid (MkEnd k N P p w w')) {M : Nat} (hM : k.M = M) {I E : Int} {N' : List Nd} (hI : resI M N p = I) (hE : resE M N p = E) (hN : resN M N p = N') :
    Calls Tryd.prog f args w fun e w' => ∃ P', e = .returned (.tuple #[.int .i64 I, .int .i64 E]) ∧ Hid (Dg k w' N' P') ∧ Hid (Fr P P' w w') := by
  subst hM hI hE hN
  refine h.mono fun e w' h => ?_
  obtain ⟨rfl, h⟩ := h
  obtain ⟨P', h1, h2⟩ := h.out
  exact ⟨P', rfl, h1, h2⟩

theorem new_at (n : Int) (w : World) : Calls Tryd.prog 11 #[.int .i64 n] w fun e w' => ∃ k : K, e = .returned (.pointer (some ⟨k.DB, 0, none⟩)) ∧ Hid (k.M = cntF n) ∧ Hid (k.B = w.heap.size) ∧ Hid (Dg k w' [] (fun j => j = k.DB)) ∧ Hid (Below w.heap.size w w') := by
  refine (new_any n w).mono fun e w' h => ?_
  obtain ⟨OB, rfl, h⟩ := h
  obtain ⟨rfl, h1, h2⟩ := h.out
  exact ⟨⟨w.heap.size, w.heap.size, cntF n⟩, rfl, hid rfl, hid rfl, h1, h2⟩

theorem Fr.from {k : K} {w w1 w' : World} {N : List Nd} {P P' : Nat → Prop} (s : Dg k w1 N P) (f : Fr P P' w1 w') (hB : k.B = w.heap.size) (b : Below w.heap.size w w1) : Below w.heap.size w w' := by
  have h1 := b.size
  have := f.be (B := k.B) (fun j hj => (s.bd hj).1) (by omega)
  rw [hB] at this
  exact b.trans this

theorem node_is {k : K} {w : World} {N : List Nd} {P : Nat → Prop} (s : Dg k w N P) (id : Int) {n : Nd} {b : Bool} (hn : ndA N id = n) (hb : isN N id = b) : Calls Tryd.prog 42 #[.pointer (some ⟨k.DB, 0, none⟩), .int .i64 id] w fun e w' =>
    e = .returned (.tuple #[.agg #[.int .i64 n.op, .int .i64 n.wd, .int .i64 n.a, .int .i64 n.b, .int .i64 n.c, .int .u64 n.v], .bool b]) ∧ Hid (Below w.heap.size w w') := by
  subst hn hb
  exact node_any s id

theorem len_is {k : K} {w : World} {N : List Nd} {P : Nat → Prop} (s : Dg k w N P) {x : Int} (hx : (N.length : Int) = x) : Calls Tryd.prog 19 #[.pointer (some ⟨k.DB, 0, none⟩)] w fun e w' => e = .returned (.int .i64 x) ∧ w' = w := by
  subst hx; exact len_any s

theorem box_new {v v' : World} {op wd a b c x : Int} (h : Below (v.alloc (.cells #[.int .i64 op, .int .i64 wd, .int .i64 a, .int .i64 b, .int .i64 c, .int .u64 x] 63)).heap.size (v.alloc (.cells #[.int .i64 op, .int .i64 wd, .int .i64 a, .int .i64 b, .int .i64 c, .int .u64 x] 63)) v') : v'.cell? ⟨v.heap.size, 0, none⟩ = some (.int .i64 op) ∧ v'.cell? ⟨v.heap.size, 1, none⟩ = some (.int .i64 wd) ∧ v'.cell? ⟨v.heap.size, 2, none⟩ = some (.int .i64 a) ∧ v'.cell? ⟨v.heap.size, 3, none⟩ = some (.int .i64 b) ∧ v'.cell? ⟨v.heap.size, 4, none⟩ = some (.int .i64 c) ∧ v'.cell? ⟨v.heap.size, 5, none⟩ = some (.int .u64 x) :=
  box6 (n := ⟨op, wd, a, b, c, x⟩) (by rw [h.block _ (by simp)]; exact new_same v _)

/-- One deed of a list, in a later world. -/
theorem Deeds.at {w wr : World} {a : Option Addr} {len : Nat} {D : Nat → Dd} (h : Deeds w a len D) (b : Below w.heap.size w wr) {q : Nat} (hq : q < len) : ∃ g off, a = some ⟨g, off, none⟩ ∧ g < w.heap.size ∧ DdFt (D q) ∧
    wr.cell? ⟨g, off + q * 6, none⟩ = some (.int .i64 (D q).kd) ∧ wr.cell? ⟨g, off + q * 6 + 1, none⟩ = some (.int .i64 (D q).w) ∧ wr.cell? ⟨g, off + q * 6 + 2, none⟩ = some (.int .i64 (D q).a) ∧
    wr.cell? ⟨g, off + q * 6 + 3, none⟩ = some (.int .i64 (D q).b) ∧ wr.cell? ⟨g, off + q * 6 + 4, none⟩ = some (.int .i64 (D q).c) ∧ wr.cell? ⟨g, off + q * 6 + 5, none⟩ = some (.int .u64 (D q).x) := by
  obtain ⟨g, off, rfl, hc⟩ := h (by omega)
  obtain ⟨hd, c0, c1, c2, c3, c4, c5⟩ := hc q hq
  have hg := cell_lt c0
  exact ⟨g, off, rfl, hg, hd, (b.cell (cell_lt c0)).trans c0, (b.cell (cell_lt c1)).trans c1, (b.cell (cell_lt c2)).trans c2, (b.cell (cell_lt c3)).trans c3, (b.cell (cell_lt c4)).trans c4, (b.cell (cell_lt c5)).trans c5⟩

/-- Six cells that came in. -/
def Six (w : World) (g off : Nat) (d : Dd) : Prop := w.cell? ⟨g, off, none⟩ = some (.int .i64 d.kd) ∧ w.cell? ⟨g, off + 1, none⟩ = some (.int .i64 d.w) ∧ w.cell? ⟨g, off + 2, none⟩ = some (.int .i64 d.a) ∧ w.cell? ⟨g, off + 3, none⟩ = some (.int .i64 d.b) ∧ w.cell? ⟨g, off + 4, none⟩ = some (.int .i64 d.c) ∧ w.cell? ⟨g, off + 5, none⟩ = some (.int .u64 d.x)

/-- made, beside what came in. -/
theorem made_at {k : K} {w wr : World} {N : List Nd} {P : Nat → Prop} (s : Dg k wr N P) (hk : w.heap.size ≤ k.B) (b : Below w.heap.size w wr) (d : Dd) (hd : DdFt d) {M : Nat} (hM : k.M = M) {I E : Int} {N' : List Nd} (hI : resI M N (planD N d) = I) (hE : resE M N (planD N d) = E) (hN : resN M N (planD N d) = N') (g off : Nat) (hg : g < w.heap.size) (h6 : Six wr g off d) :
    Calls Tryd.prog 17 #[.pointer (some ⟨k.DB, 0, none⟩), .agg #[.int .i64 d.kd, .int .i64 d.w, .int .i64 d.a, .int .i64 d.b, .int .i64 d.c, .int .u64 d.x]] wr fun e w' => ∃ P', e = .returned (.tuple #[.int .i64 I, .int .i64 E]) ∧ Hid (Dg k w' N' P') ∧ Hid (Fr P P' wr w') ∧ Hid (Below w.heap.size w w') ∧ Hid (Six w' g off d) ∧
      w'.cell? ⟨g, off, none⟩ = some (.int .i64 d.kd) ∧ w'.cell? ⟨g, off + 1, none⟩ = some (.int .i64 d.w) ∧ w'.cell? ⟨g, off + 2, none⟩ = some (.int .i64 d.a) ∧ w'.cell? ⟨g, off + 3, none⟩ = some (.int .i64 d.b) ∧ w'.cell? ⟨g, off + 4, none⟩ = some (.int .i64 d.c) ∧ w'.cell? ⟨g, off + 5, none⟩ = some (.int .u64 d.x) := by
  refine (mk_is (made_any s d hd) hM hI hE hN).mono fun e w' h => ?_
  obtain ⟨P', rfl, h1, h2⟩ := h
  have hs := b.size
  have b2 : Below w.heap.size wr w' := h2.out.be (fun j hj => Nat.le_trans hk (s.bd hj).1) hs
  have b3 : Below w.heap.size w w' := b.trans b2
  obtain ⟨c0, c1, c2, c3, c4, c5⟩ := h6
  exact ⟨P', rfl, h1, h2, hid b3, hid ⟨(b2.cell hg).trans c0, (b2.cell hg).trans c1, (b2.cell hg).trans c2, (b2.cell hg).trans c3, (b2.cell hg).trans c4, (b2.cell hg).trans c5⟩, (b2.cell hg).trans c0, (b2.cell hg).trans c1, (b2.cell hg).trans c2, (b2.cell hg).trans c3, (b2.cell hg).trans c4, (b2.cell hg).trans c5⟩

structure LO (w : World) (k : K) (q : Nat) (N : List Nd) (P : Nat → Prop) (wr : World) : Prop where
  dg : Dg k wr N P
  ln : N.length ≤ q
  rs : Rise N
  be : Below w.heap.size w wr

theorem len_at {k : K} {w : World} {N : List Nd} {P : Nat → Prop} (s : Dg k w N P) {x : Int} (hx : (N.length : Int) = x) : Calls Tryd.prog 19 #[.pointer (some ⟨k.DB, 0, none⟩)] w fun e w' => e = .returned (.int .i64 x) ∧ w' = w := by subst hx; exact len_any s

theorem node_at {k : K} {w : World} {N : List Nd} {P : Nat → Prop} (s : Dg k w N P) (id : Int) {n : Nd} (hn : ndA N id = n) {b : Bool} (hb : isN N id = b) : Calls Tryd.prog 42 #[.pointer (some ⟨k.DB, 0, none⟩), .int .i64 id] w fun e w' =>
    e = .returned (.tuple #[.agg #[.int .i64 n.op, .int .i64 n.wd, .int .i64 n.a, .int .i64 n.b, .int .i64 n.c, .int .u64 n.v], .bool b]) ∧ Hid (Below w.heap.size w w') := by subst hn hb; exact node_any s id

theorem node_as {k : K} {w : World} {N : List Nd} {P : Nat → Prop} (s : Dg k w N P) (id : Int) {op wd a b c v : Int} (hn : ndA N id = ⟨op, wd, a, b, c, v⟩) {t : Bool} (hb : isN N id = t) : Calls Tryd.prog 42 #[.pointer (some ⟨k.DB, 0, none⟩), .int .i64 id] w fun e w' =>
    e = .returned (.tuple #[.agg #[.int .i64 op, .int .i64 wd, .int .i64 a, .int .i64 b, .int .i64 c, .int .u64 v], .bool t]) ∧ Hid (Below w.heap.size w w') := node_at s id hn hb

theorem box_keep {wc w5 : World} {bb : Nat} {v0 v1 v2 v3 v4 v5 : Value} (b : Below wc.heap.size wc w5) (hz : bb < wc.heap.size) (h0 : wc.cell? ⟨bb, 0, none⟩ = some v0) (h1 : wc.cell? ⟨bb, 1, none⟩ = some v1) (h2 : wc.cell? ⟨bb, 2, none⟩ = some v2) (h3 : wc.cell? ⟨bb, 3, none⟩ = some v3) (h4 : wc.cell? ⟨bb, 4, none⟩ = some v4) (h5 : wc.cell? ⟨bb, 5, none⟩ = some v5) :
    w5.cell? ⟨bb, 0, none⟩ = some v0 ∧ w5.cell? ⟨bb, 1, none⟩ = some v1 ∧ w5.cell? ⟨bb, 2, none⟩ = some v2 ∧ w5.cell? ⟨bb, 3, none⟩ = some v3 ∧ w5.cell? ⟨bb, 4, none⟩ = some v4 ∧ w5.cell? ⟨bb, 5, none⟩ = some v5 ∧ bb < w5.heap.size :=
  ⟨(b.cell hz).trans h0, (b.cell hz).trans h1, (b.cell hz).trans h2, (b.cell hz).trans h3, (b.cell hz).trans h4, (b.cell hz).trans h5, Nat.lt_of_lt_of_le hz b.size⟩

end Go.Proofs.YtefielnmlekhaaaDoor
