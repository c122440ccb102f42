/-
  An order and the document's, side by side.
-/
import Derived.Test.YtbddhjohlpblaaaFrame
import Derived.Deep.Cut
import Derived.Deep.CutRange
namespace Go.Proofs.Ytbddhjohlpblaaa
open Go.RowKit
set_option linter.unusedVariables false

theorem rnew_at (n : Int) (w : World) : Calls Try.prog 8 #[.int .i64 n] w fun e w' => ∃ a b : Nat, e = .returned (.agg #[.slice (some ⟨a, 0, none⟩) (cntF n) (cntF n), .slice (some ⟨b, 0, none⟩) (cntF n) (cntF n)]) ∧ Hid (RnEnd (cntF n) w (.slice (some ⟨a, 0, none⟩) (cntF n) (cntF n)) (.slice (some ⟨b, 0, none⟩) (cntF n) (cntF n)) w') := rnew_any n w

theorem doOk_same (A : List Int) (W : List Bool) (kd v : Int) : doOk A W A W kd v = true := by
  unfold doOk
  split
  · simp
  · split <;> simp

theorem cntF_le (n : Int) : cntF n ≤ 1048576 := by unfold cntF; split <;> omega
theorem zeros_len (m : Nat) : (zeros m).length = m := by simp [zeros]
theorem nones_len (m : Nat) : (nones m).length = m := by simp [nones]

theorem doin_new {k : K} {w1 w2 : World} {m : Nat} {av bv : Value} (o : Ord k w1 (zeros m) (nones m) (.slice none 0 0)) (hn : k.n = m) (hm : m ≤ 1048576) (r : RnEnd m w1 av bv w2) : DoIn k w2 (zeros m) (nones m) (.slice none 0 0) av bv (zeros m) (nones m) := by
  obtain ⟨ro, h1, h2, b⟩ := r
  refine ⟨o.below b, ro, fun j hj hM => ?_, fun j hj hM => ?_, by rw [zeros_len, hn], by rw [zeros_len, hn], by rw [nones_len, hn], by omega, fun u hu => by rw [fn_zeros]; omega⟩
  · have := h1 j hj; have := (o.lt hM).2; omega
  · have := h2 j hj; have := (o.lt hM).2; omega

theorem DoIn.below {k : K} {w w' : World} {A A2 : List Int} {W W2 : List Bool} {wv av bv : Value} (h : DoIn k w A W wv av bv A2 W2) (b : Below w.heap.size w w') : DoIn k w' A W wv av bv A2 W2 :=
  ⟨h.o.below b, h.r.below b, h.wa, h.wb, h.la, h.l2, h.lw, h.hn, h.bd⟩

/-- What is so between the rounds: xb is the box of the document's order. -/
structure Side (k : K) (w : World) (xb : Nat) (av bv : Value) (A : List Int) (W : List Bool) (wv : Value) (wr : World) : Prop where
  d : DoIn k wr A W wv av bv A W
  x : wr.heap[xb]? = some (.cells #[av, bv] 29 (0, 0))
  nx : ¬ Mine k wv xb
  be : Below w.heap.size w wr
  lo : w.heap.size ≤ xb
  kb : k.B = w.heap.size

theorem Side.below {k : K} {w wr wq : World} {xb : Nat} {av bv wv : Value} {A : List Int} {W : List Bool} (s : Side k w xb av bv A W wv wr) (b : Below wr.heap.size wr wq) : Side k w xb av bv A W wv wq :=
  ⟨s.d.below b, box_keep s.x b, s.nx, Below.next s.be b, s.lo, s.kb⟩

theorem Side.start {k : K} {w w1 w2 : World} {m : Nat} {av bv : Value} (o : Ord k w1 (zeros m) (nones m) (.slice none 0 0)) (hn : k.n = m) (hB : k.B = w.heap.size) (b1 : Below w.heap.size w w1) (hm : m ≤ 1048576) (r : RnEnd m w1 av bv w2) :
    Side k w w2.heap.size av bv (zeros m) (nones m) (.slice none 0 0) (w2.alloc (.cells #[av, bv] 29)) := by
  have b2 : Below w2.heap.size w2 (w2.alloc (.cells #[av, bv] 29)) := by go_grown
  have d := doin_new o hn hm r
  have h1 := b1.size
  have h2 := r.2.2.2.size
  refine ⟨d.below b2, new_same _ _, fun hM => ?_, Below.next (Below.next b1 r.2.2.2) b2, by omega, hB⟩
  have := (d.o.lt hM).2
  omega

/-- Behind the deed: the document's order is the answer now. -/
theorem Side.next {k : K} {w wr w5 w6 : World} {xb : Nat} {av bv av' bv' wv : Value} {A : List Int} {W : List Bool} {kd v t : Int} (s : Side k w xb av bv A W wv wr) (e : DoEnd k wr wv A W A W kd v t av' bv' w5) (b : Below w5.heap.size w5 w6) :
    w6.heap[xb]? = some (.cells #[av, bv] 29 (0, 0)) ∧ Below w.heap.size w w6 ∧ ∃ wv', Side k w xb av' bv' (doA A kd v t) (doW A W kd v) wv' ((w6.setCell ⟨xb, 0, none⟩ av').setCell ⟨xb, 1, none⟩ bv') := by
  obtain ⟨wv', d, f⟩ := e
  have x6 := box_keep (f.box s.x s.nx) b
  have nx := f.not_mine (blk_lt s.x) s.nx
  have d6 := d.below b
  have be : Below w.heap.size w w5 := by
    obtain ⟨hs, ⟨P, s1, p⟩, hp, g⟩ := s.d.o
    have := Fr.be s1 f (by have := s.be.size; have := s.kb; omega)
    rw [s.kb] at this
    exact s.be.trans this
  have be6 := Below.next be b
  have h1 := own_ne d6.r.a x6 (by decide)
  have h2 := own_ne d6.r.b x6 (by decide)
  refine ⟨x6, be6, wv', ⟨?_, d6.r.put h1 h2, d.wa, d.wb, d.la, d.l2, d.lw, d.hn, d.bd⟩, ?_, nx, (be6.setCell s.lo _).setCell s.lo _, s.lo, s.kb⟩
  · exact (d6.o.keep (grown_set w6 _ _) (fun j hj => by cases hj; exact nx)).keep (grown_set _ _ _) (fun j hj => by cases hj; exact nx)
  · have e1 := set_same (o := 0) x6 av'
    have e2 := set_same (o := 1) e1 bv'
    rw [e2]
    rfl

theorem Side.cells {k : K} {w wr : World} {xb : Nat} {av bv wv : Value} {A : List Int} {W : List Bool} (s : Side k w xb av bv A W wv wr) : wr.cell? ⟨xb, 0, none⟩ = some av ∧ wr.cell? ⟨xb, 1, none⟩ = some bv ∧ wr.frozen? ⟨xb, 0, none⟩ = false ∧ wr.frozen? ⟨xb, 1, none⟩ = false := box_cells s.x

theorem DoEnd.from {k : K} {w w' w5 : World} {A A2 : List Int} {W W2 : List Bool} {wv av' bv' : Value} {kd v t : Int} (e : DoEnd k w' wv A W A2 W2 kd v t av' bv' w5) (b : Below w.heap.size w w') : DoEnd k w wv A W A2 W2 kd v t av' bv' w5 := by
  obtain ⟨wv', d, f⟩ := e
  exact ⟨wv', d, (Fr.below b).trans f⟩

/-- A box that was there ahead of the deed is written behind it. -/
theorem DoEnd.put {k : K} {wr w5 : World} {A A2 : List Int} {W W2 : List Bool} {wv av' bv' p' q' : Value} {kd v t : Int} (e : DoEnd k (wr.alloc (.cells #[p', q'] 29)).drew wv A W A2 W2 kd v t av' bv' w5) (o : Ord k wr A W wv) :
    w5.heap[wr.heap.size]? = some (.cells #[p', q'] 29 (0, 0)) ∧ ∀ p q : Value, DoEnd k wr wv A W A2 W2 kd v t av' bv' ((w5.setCell ⟨wr.heap.size, 0, none⟩ p).setCell ⟨wr.heap.size, 1, none⟩ q) := by
  obtain ⟨wv', d, f⟩ := e
  have hy : (wr.alloc (.cells #[p', q'] 29)).drew.heap[wr.heap.size]? = some (.cells #[p', q'] 29 (0, 0)) := new_same wr _
  have nm : ¬ Mine k wv wr.heap.size := fun h => by have := (o.lt h).2; omega
  have y5 := f.box hy nm
  have nm5 := f.not_mine (blk_lt hy) nm
  have h1 := own_ne d.r.a y5 (by decide)
  have h2 := own_ne d.r.b y5 (by decide)
  refine ⟨y5, fun p q => ⟨wv', ⟨?_, d.r.put h1 h2, d.wa, d.wb, d.la, d.l2, d.lw, d.hn, d.bd⟩, Fr.put ((Fr.below (by go_grown)).trans f) (Nat.le_refl _) p q⟩⟩
  exact (d.o.keep (grown_set w5 _ _) (fun j hj => by cases hj; exact nm5)).keep (grown_set _ _ _) (fun j hj => by cases hj; exact nm5)

/-- What is so behind the deed, ahead of the document's order being written. -/
def Half (k : K) (w : World) (xb : Nat) (av bv : Value) (A' : List Int) (W' : List Bool) (yb : Nat) (av' bv' : Value) (wx : World) : Prop :=
  wx.heap[yb]? = some (.cells #[av', bv'] 29 (0, 0)) ∧ wx.heap[xb]? = some (.cells #[av, bv] 29 (0, 0)) ∧ ∃ wv', Side k w xb av' bv' A' W' wv' ((wx.setCell ⟨xb, 0, none⟩ av').setCell ⟨xb, 1, none⟩ bv')

theorem half_a {k : K} {w wr w5 : World} {xb : Nat} {av bv av' bv' wv : Value} {A : List Int} {W : List Bool} {kd v t : Int} (s : Side k w xb av bv A W wv wr) (e : DoEnd k wr wv A W A W kd v t av' bv' w5) :
    Half k w xb av bv (doA A kd v t) (doW A W kd v) w5.heap.size av' bv' (w5.alloc (.cells #[av', bv'] 29)) := by
  obtain ⟨h1, _, h2⟩ := s.next e (w6 := w5.alloc (.cells #[av', bv'] 29)) (by go_grown)
  exact ⟨new_same _ _, h1, h2⟩

theorem half_b {k : K} {w wr w5 : World} {xb : Nat} {av bv av' bv' wv p' q' : Value} {A : List Int} {W : List Bool} {kd v t : Int} (s : Side k w xb av bv A W wv wr) (y : w5.heap[wr.heap.size]? = some (.cells #[p', q'] 29 (0, 0)))
    (e : ∀ p q : Value, DoEnd k wr wv A W A W kd v t av' bv' ((w5.setCell ⟨wr.heap.size, 0, none⟩ p).setCell ⟨wr.heap.size, 1, none⟩ q)) :
    Half k w xb av bv (doA A kd v t) (doW A W kd v) wr.heap.size av' bv' ((w5.setCell ⟨wr.heap.size, 0, none⟩ av').setCell ⟨wr.heap.size, 1, none⟩ bv') := by
  obtain ⟨h1, _, h2⟩ := s.next (e av' bv') (w6 := (w5.setCell ⟨wr.heap.size, 0, none⟩ av').setCell ⟨wr.heap.size, 1, none⟩ bv') (Below.refl _ _)
  refine ⟨?_, h1, h2⟩
  rw [set_same (o := 1) (set_same (o := 0) y av') bv']
  rfl

section
variable {k : K} {w : World} {A : List Int} {W : List Bool} {wv av bv : Value}
theorem ris_in (d : DoIn k w A W wv av bv A W) (v : Int) {b : Bool} (hb : isF k.n v = b) : Calls Try.prog 10 #[.agg #[av, bv], .int .i64 v] w fun e w' => e = .returned (.bool b) ∧ Hid (Below w.heap.size w w') := by
  have := ris_any d.r v
  rw [d.l2, hb] at this
  exact this
theorem rlen_in (d : DoIn k w A W wv av bv A W) {x : Int} (hx : (W.count true : Int) = x) : Calls Try.prog 12 #[.agg #[av, bv]] w fun e w' => e = .returned (.int .i64 x) ∧ Hid (Below w.heap.size w w') := by
  have := rlen_any d.r (by rw [d.lw]; exact d.hn)
  rw [hx] at this
  exact this
end

end Go.Proofs.Ytbddhjohlpblaaa
