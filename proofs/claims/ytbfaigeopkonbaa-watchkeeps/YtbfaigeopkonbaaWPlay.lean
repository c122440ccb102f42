/-
  A watch and the document's, side by side, deed behind deed.
-/
import Derived.Test.YtbfaigeopkonbaaWFrame
import Derived.Test.YtbfaigeopkonbaaWAwake
import Derived.Deep.Cut
import Derived.Deep.CutRange
namespace Go.Proofs.Ytbfaigeopkonbaa
open Go.RowKit Go.Maps
set_option linter.unusedVariables false

/-- All but the box of the document's watch. -/
structure Co (k : K) (kw : WK) (w0 : World) (q T : Nat) (g : G) (L : List E) (lev : Nat) (p : V) (H : List Int) (la ta : Value) (xss : List (List Int)) (ths : List Bool) (wr : World) : Prop where
  W : Wa k kw wr g L lev p H
  r : RW w0 wr la ta xss ths
  b0 : Below w0.heap.size w0 wr
  hB : kw.B = w0.heap.size
  hn : kw.n ≤ 40
  hq : q ≤ 70
  nx : g.nx ≤ q
  rm : g.rm ≤ q
  xl : xss.length ≤ q
  tt : tot kw.n g ≤ T
  hT : T ≤ 400000

/-- .. and its box. -/
structure Pl (k : K) (kw : WK) (w0 : World) (xb q T : Nat) (g : G) (L : List E) (lev : Nat) (p : V) (H : List Int) (la ta : Value) (xss : List (List Int)) (ths : List Bool) (wr : World) : Prop where
  c : Co k kw w0 q T g L lev p H la ta xss ths wr
  x : wr.heap[xb]? = some (.cells #[.int .i64 kw.n, la, ta] 32 (0, 0))
  lo : w0.heap.size ≤ xb

section
variable {k : K} {kw : WK} {w0 w wr w5 w6 : World} {xb q T yb : Nat} {g g' : G} {L L' : List E} {lev lev' : Nat} {p p' : V} {H H' : List Int} {la ta la' ta' : Value} {xss xss' : List (List Int)} {ths ths' : List Bool} {kd : Int} {b : Bool}

theorem Co.below (s : Co k kw w0 q T g L lev p H la ta xss ths wr) (b : Below wr.heap.size wr w5) : Co k kw w0 q T g L lev p H la ta xss ths w5 :=
  ⟨s.W.below b, s.r.below b, Below.trans s.b0 (b.mono s.b0.size), s.hB, s.hn, s.hq, s.nx, s.rm, s.xl, s.tt, s.hT⟩
theorem Pl.below (s : Pl k kw w0 xb q T g L lev p H la ta xss ths wr) (b : Below wr.heap.size wr w5) : Pl k kw w0 xb q T g L lev p H la ta xss ths w5 := ⟨s.c.below b, wbox_keep s.x b, s.lo⟩
theorem Pl.cells (s : Pl k kw w0 xb q T g L lev p H la ta xss ths wr) : (wr.cell? ⟨xb, 0, none⟩ = some (.int .i64 kw.n) ∧ wr.cell? ⟨xb, 1, none⟩ = some la ∧ wr.cell? ⟨xb, 2, none⟩ = some ta) ∧ wr.frozen? ⟨xb, 0, none⟩ = false ∧ wr.frozen? ⟨xb, 1, none⟩ = false ∧ wr.frozen? ⟨xb, 2, none⟩ = false := wbox_cells s.x

theorem Co.act (s : Co k kw w0 q T g L lev p H la ta xss ths wr) {d : Dd} (ok : DdOk w0 d) (hm : d.m ≤ 12) : ActI k kw w0 g L lev p H la ta xss ths d.a d.m d.c d.xs wr := by
  have h1 := s.nx
  have h2 := s.rm
  have h3 := s.xl
  have h4 := s.tt
  have h5 := s.hq
  have h6 := s.hT
  exact ⟨s.W, s.r, s.b0, s.hB, ok.row, hm, by omega, by omega, by omega, by omega⟩

theorem Co.next (s : Co k kw w0 q T g L lev p H la ta xss ths wr) (hq : q + 1 ≤ 70) (hT : T + 1 ≤ 400000) (e : ActE k kw w0 g p H xss ths kd wr g' L' lev' p' la' ta' xss' ths' b w5) : Co k kw w0 (q + 1) (T + 1) g' L' lev' p' H la' ta' xss' ths' w5 := by
  have h1 := s.nx
  have h2 := s.rm
  have h3 := s.xl
  have h4 := s.tt
  obtain ⟨n1, n2, n3, n4⟩ := e.nx
  have n5 := e.xl
  exact ⟨e.wa, e.rw, e.ft.be s.hB s.b0, s.hB, s.hn, hq, by omega, by omega, by omega, by omega, hT⟩

/-- Another's box of type 32 is written. -/
theorem Co.put3 (s : Co k kw w0 q T g L lev p H la ta xss ths wr) {r : Nat} {c : Array Value} {fz : Nat × Nat} (hr : wr.heap[r]? = some (.cells c 32 fz)) (lo : w0.heap.size ≤ r) (x y z : Value) : Co k kw w0 q T g L lev p H la ta xss ths (((wr.setCell ⟨r, 0, none⟩ x).setCell ⟨r, 1, none⟩ y).setCell ⟨r, 2, none⟩ z) :=
  ⟨s.W.put3 hr (.inl rfl) x y z, s.r.put3 hr (by decide) x y z, wput3_below s.b0 lo x y z, s.hB, s.hn, s.hq, s.nx, s.rm, s.xl, s.tt, s.hT⟩

/-- Behind the deed, ahead of x = y. -/
def HalfW (k : K) (kw : WK) (w0 : World) (xb q T : Nat) (g' : G) (L' : List E) (lev' : Nat) (p' : V) (H : List Int) (la ta la' ta' : Value) (xss' : List (List Int)) (ths' : List Bool) (yb : Nat) (wx : World) : Prop :=
  Co k kw w0 q T g' L' lev' p' H la' ta' xss' ths' wx ∧ wx.heap[yb]? = some (.cells #[.int .i64 kw.n, la', ta'] 32 (0, 0)) ∧ wx.heap[xb]? = some (.cells #[.int .i64 kw.n, la, ta] 32 (0, 0))

theorem HalfW.done (h : HalfW k kw w0 xb q T g' L' lev' p' H la ta la' ta' xss' ths' yb wr) (lo : w0.heap.size ≤ xb) : Pl k kw w0 xb q T g' L' lev' p' H la' ta' xss' ths' (((wr.setCell ⟨xb, 0, none⟩ (.int .i64 kw.n)).setCell ⟨xb, 1, none⟩ la').setCell ⟨xb, 2, none⟩ ta') := by
  obtain ⟨h1, h2, h3⟩ := h
  refine ⟨h1.put3 h3 lo _ _ _, ?_, lo⟩
  rw [set_same (o := 2) (set_same (o := 1) (set_same (o := 0) h3 _) _) _]
  rfl

theorem Pl.half_a (s : Pl k kw w0 xb q T g L lev p H la ta xss ths wr) (hq : q + 1 ≤ 70) (hT : T + 1 ≤ 400000) (e : ActE k kw w0 g p H xss ths kd wr g' L' lev' p' la' ta' xss' ths' b w5) :
    HalfW k kw w0 xb (q + 1) (T + 1) g' L' lev' p' H la ta la' ta' xss' ths' w5.heap.size (w5.alloc (.cells #[.int .i64 kw.n, la', ta'] 32)) := by
  have bb : Below w5.heap.size w5 (w5.alloc (.cells #[.int .i64 kw.n, la', ta'] 32)) := by go_grown
  exact ⟨(s.c.next hq hT e).below bb, new_same _ _, wbox_keep (FT.box s.c.W.j.t e.ft s.x (.inl rfl)) bb⟩

/-- The box that was laid ahead of the deed. -/
theorem Pl.half_b {z0 z1 z2 : Value} (s : Pl k kw w0 xb q T g L lev p H la ta xss ths wr) (hq : q + 1 ≤ 70) (hT : T + 1 ≤ 400000) (e : ActE k kw w0 g p H xss ths kd (wr.alloc (.cells #[z0, z1, z2] 32)).drew g' L' lev' p' la' ta' xss' ths' b w5) :
    w5.heap[wr.heap.size]? = some (.cells #[z0, z1, z2] 32 (0, 0)) ∧ HalfW k kw w0 xb (q + 1) (T + 1) g' L' lev' p' H la ta la' ta' xss' ths' wr.heap.size (((w5.setCell ⟨wr.heap.size, 0, none⟩ (.int .i64 kw.n)).setCell ⟨wr.heap.size, 1, none⟩ la').setCell ⟨wr.heap.size, 2, none⟩ ta') := by
  have bb : Below wr.heap.size wr (wr.alloc (.cells #[z0, z1, z2] 32)).drew := by go_grown
  have s1 := s.below bb
  have hy : (wr.alloc (.cells #[z0, z1, z2] 32)).drew.heap[wr.heap.size]? = some (.cells #[z0, z1, z2] 32 (0, 0)) := new_same wr _
  have y5 := FT.box s1.c.W.j.t e.ft hy (.inl rfl)
  have x5 := FT.box s1.c.W.j.t e.ft s1.x (.inl rfl)
  have hx := blk_lt s.x
  have lo : w0.heap.size ≤ wr.heap.size := s.c.b0.size
  refine ⟨y5, (s1.c.next hq hT e).put3 y5 lo _ _ _, ?_, ?_⟩
  · rw [set_same (o := 2) (set_same (o := 1) (set_same (o := 0) y5 _) _) _]
    rfl
  · rw [(grown3 w5 wr.heap.size 0 1 2 _ _ _).block xb (blk_lt x5) (fun e => by have := Option.some.inj e; omega)]
    exact x5

theorem Pl.run (s : Pl k kw w0 xb q T g L lev p H la ta xss ths wr) (hT : T + 2801 ≤ 400000) (e : RlEnd k kw w0 g L lev p la ta xss ths wr w5) : ∃ g' L' p', Pl k kw w0 xb q (T + 2801) g' L' lev p' (litsF L') la ta xss ths w5 ∧ Match g' xss ths := by
  obtain ⟨g', L', p', h1, h2, h3, ⟨h4, h5⟩, h6⟩ := e
  refine ⟨g', L', p', ⟨⟨h1, h2, h6.be s.c.hB s.c.b0, s.c.hB, s.c.hn, s.c.hq, ?_, ?_, s.c.xl, ?_, hT⟩, FT.box s.c.W.j.t h6 s.x (.inl rfl), s.lo⟩, h3⟩
  · rw [h4.nx]; exact s.c.nx
  · rw [h4.rm]; exact s.c.rm
  · have a1 := s.c.tt
    have a2 := s.c.nx
    have a3 := s.c.hn
    have a4 := s.c.hq
    have a5 : kw.n * g.nx ≤ 40 * 70 := Nat.mul_le_mul a3 (by omega)
    omega

theorem Pl.su (s : Pl k kw w0 xb q T g L lev p H la ta xss ths wr) : tot kw.n g + kw.n * g.nx ≤ 3000000 ∧ g.nx ≤ 100 := by
  have a1 := s.c.tt
  have a2 := s.c.nx
  have a3 := s.c.hn
  have a4 := s.c.hq
  have a6 := s.c.hT
  have a5 : kw.n * g.nx ≤ 40 * 70 := Nat.mul_le_mul a3 (by omega)
  omega

theorem Pl.weak {T' : Nat} (s : Pl k kw w0 xb q T g L lev p H la ta xss ths wr) (h : T ≤ T') (hT : T' ≤ 400000) : Pl k kw w0 xb q T' g L lev p H la ta xss ths wr :=
  ⟨⟨s.c.W, s.c.r, s.c.b0, s.c.hB, s.c.hn, s.c.hq, s.c.nx, s.c.rm, s.c.xl, Nat.le_trans s.c.tt h, hT⟩, s.x, s.lo⟩

theorem Pl.ft (s : Pl k kw w0 xb q T g L lev p H la ta xss ths wr) (W : Wa k kw w5 g L' lev' p' H') (f : FT k kw.B p p' wr w5) : Pl k kw w0 xb q T g L' lev' p' H' la ta xss ths w5 :=
  ⟨⟨W, s.c.r.ft s.c.W.j.t f, f.be s.c.hB s.c.b0, s.c.hB, s.c.hn, s.c.hq, s.c.nx, s.c.rm, s.c.xl, s.c.tt, s.c.hT⟩, FT.box s.c.W.j.t f s.x (.inl rfl), s.lo⟩
end

end Go.Proofs.Ytbfaigeopkonbaa
