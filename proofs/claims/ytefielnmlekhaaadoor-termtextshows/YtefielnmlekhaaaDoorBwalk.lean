/-
  Build: terms, and the document's, by the same deeds.
-/
import Derived.Test.YtefielnmlekhaaaDoorBmem
import Derived.Test.YtefielnmlekhaaaDoorOwalk
namespace Go.Proofs.YtefielnmlekhaaaDoor
open Go.RowKit Go.Maps
set_option linter.unusedVariables false
set_option maxRecDepth 100000

theorem six_below {w w' : World} {g off : Nat} {d : Dd} (h : Six w g off d) (b : Below w.heap.size w w') : Six w' g off d := by
  obtain ⟨h0, h1, h2, h3, h4, h5⟩ := h
  exact ⟨(b.cell (cell_lt h0)).trans h0, (b.cell (cell_lt h1)).trans h1, (b.cell (cell_lt h2)).trans h2, (b.cell (cell_lt h3)).trans h3, (b.cell (cell_lt h4)).trans h4, (b.cell (cell_lt h5)).trans h5⟩

/-- What the loads of a round want. -/
theorem eight_of {w0 w2 : World} {k : K} {XB : Nat} {N1 N : List Nd} {P : Nat → Prop} {ao : Option Addr} {c g off : Nat} {d : Dd} (h : LB w0 k XB N1 P ao c N w2) (h6 : Six w2 g off d) (W : World) (b : Below w2.heap.size w2 W) :
    W.cell? ⟨XB, 0, none⟩ = some (.slice ao N.length c) ∧ W.cell? ⟨XB, 1, none⟩ = some (.int .i64 k.M) ∧ W.cell? ⟨g, off, none⟩ = some (.int .i64 d.kd) ∧ W.cell? ⟨g, off + 1, none⟩ = some (.int .i64 d.w) ∧ W.cell? ⟨g, off + 2, none⟩ = some (.int .i64 d.a) ∧ W.cell? ⟨g, off + 3, none⟩ = some (.int .i64 d.b) ∧ W.cell? ⟨g, off + 4, none⟩ = some (.int .i64 d.c) ∧ W.cell? ⟨g, off + 5, none⟩ = some (.int .u64 d.x) := by
  have s := h.below b
  exact ⟨(two_of s.xb).1, (two_of s.xb).2, six_below h6 b⟩

theorem new_two {w w3 : World} {x y : Value} (b : Below (w.alloc (.cells #[x, y] 27)).heap.size (w.alloc (.cells #[x, y] 27)) w3) : w3.cell? ⟨w.heap.size, 0, none⟩ = some x ∧ w3.cell? ⟨w.heap.size, 1, none⟩ = some y ∧ w3.frozen? ⟨w.heap.size, 0, none⟩ = false ∧ w3.frozen? ⟨w.heap.size, 1, none⟩ = false ∧ w.heap.size < w3.heap.size := by
  have hb : w3.heap[w.heap.size]? = some (.cells #[x, y] 27 (0, 0)) := by rw [b.block _ (by simp)]; exact new_same _ _
  exact ⟨(two_of hb).1, (two_of hb).2, frozen_of hb, frozen_of hb, blk_lt hb⟩
theorem new_twod {w w3 : World} {x y : Value} (b : Below (w.alloc (.cells #[x, y] 27)).drew.heap.size (w.alloc (.cells #[x, y] 27)).drew w3) : w3.cell? ⟨w.heap.size, 0, none⟩ = some x ∧ w3.cell? ⟨w.heap.size, 1, none⟩ = some y ∧ w3.frozen? ⟨w.heap.size, 0, none⟩ = false ∧ w3.frozen? ⟨w.heap.size, 1, none⟩ = false ∧ w.heap.size < w3.heap.size :=
  new_two ⟨b.os, b.tape, b.output, b.size, b.block⟩
theorem lc_bd {w0 w2 w3 : World} {k : K} {XB : Nat} {N N' : List Nd} {P : Nat → Prop} {ao ao' : Option Addr} {c c' : Nat} {x y : Value} (h : LB w0 k XB N' P ao c N w2) (b3 : Below (w2.alloc (.cells #[x, y] 27)).drew.heap.size (w2.alloc (.cells #[x, y] 27)).drew w3) (h3 : RDF (w2.alloc (.cells #[x, y] 27)).drew ao w3 ao' c' N') :
    LC w0 k XB N' P ao c N w2.heap.size ao' c' ((w3.setCell ⟨w2.heap.size, 0, none⟩ (.slice ao' N'.length c')).setCell ⟨w2.heap.size, 1, none⟩ (.int .i64 k.M)) :=
  lc_b h ⟨b3.os, b3.tape, b3.output, b3.size, b3.block⟩ ⟨h3.1, h3.2⟩
theorem alloc_b (w : World) (x y : Value) : Below w.heap.size w (w.alloc (.cells #[x, y] 27)).drew := by go_grown
theorem new_b (w : World) (o : Obj) : Below w.heap.size w (w.alloc o) := by go_grown
theorem drew_b (w : World) : Below w.heap.size w w.drew := below_drew w
theorem set_b {w w3 : World} {r : Nat} {x y : Value} (b : Below w.heap.size w w3) (hr : w.heap.size ≤ r) : Below w.heap.size w ((w3.setCell ⟨r, 0, none⟩ x).setCell ⟨r, 1, none⟩ y) := res_below b hr

set_option maxHeartbeats 8000000 in
set_option maxRecDepth 20000 in
theorem build_any (n : Int) (a : Option Addr) (len cap : Nat) (D : Nat → Dd) (w : World) (hD : Deeds w a len D) (hl : len ≤ 150) : Calls Tryd.prog 6 #[.int .i64 n, .slice a len cap] w fun e w' =>
    ∃ (k : K) (N : List Nd) (P : Nat → Prop) (ao : Option Addr) (c : Nat), e = .returned (.tuple #[.pointer (some ⟨k.DB, 0, none⟩), .agg #[.slice ao N.length c, .int .i64 k.M]]) ∧ Hid (Dg k w' N P) ∧ Hid (RD w' ao c N) ∧ Hid (Below w.heap.size w w') ∧ Hid (Wl N) ∧ N.length ≤ len ∧ Hid (k.M = cntF n) ∧ Hid (w.heap.size ≤ k.B) := by
  have HD := hid hD
  clear hD
  go_enter Tryd.func6, Tryd.ntmps6
  go_wp2_with (first
    | (go_at_call 11; with_reducible (refine (new_at n _).mono ?_); rintro e w1 ⟨k, rfl, hM, hB, s0, b1⟩)
    | (go_at_call 16; with_reducible (refine (rnew_any n _).mono ?_); rintro e w2 ⟨rfl, b2⟩))
  have HS := hid (lb_start rfl hM.out hB.out s0.out b1.out b2.out)
  have HM := hid hM.out
  clear s0 b1 hB hM b2
  revert HS
  generalize w2.alloc (.cells #[.slice none 0 0, .int .i64 (cntF n)] 27) = wz
  generalize w2.heap.size = XB
  intro HS
  go_loopw [8] (fun i wr => ∃ (q : Nat) (N : List Nd) (P : Nat → Prop) (ao : Option Addr) (c : Nat), q ≤ len ∧ i = .int .i64 q ∧ Hid (LB w k XB N P ao c N wr) ∧ Hid (Wl N) ∧ Hid (N.length ≤ q)) (fun i _ => len - (intOf i).toNat)
  case atStart => exact ⟨0, [], _, none, 0, Nat.zero_le _, rfl, HS, hid Wl.nil, hid (Nat.le_refl _)⟩
  case round =>
    clear HS
    obtain ⟨q, N, P, ao, c, hq, rfl, hr, hwl, hnq⟩ := hrel
    by_cases hlt : q < len
    · have hlt' : (q : Int) < len := by omega
      obtain ⟨g, off, rfl, hg, hd, e0, e1, e2, e3, e4, e5⟩ := HD.out.at hr.out.be hlt
      obtain ⟨d, ed⟩ : ∃ d, D q = d := ⟨_, rfl⟩
      rw [ed] at hd e0 e1 e2 e3 e4 e5
      have H6 : Hid (Six wr g (off + q * 6) d) := hid ⟨e0, e1, e2, e3, e4, e5⟩
      have HF := hid hd
      have HG := hid hg
      obtain ⟨N', hN⟩ : ∃ N', resN k.M N (planD N d) = N' := ⟨_, rfl⟩
      obtain ⟨I, hI⟩ : ∃ I, resI k.M N (planD N d) = I := ⟨_, rfl⟩
      obtain ⟨E, hE⟩ : ∃ E, resE k.M N (planD N d) = E := ⟨_, rfl⟩
      have HN := hid hN
      have HWL : Hid (Wl N') := hid (by rw [← hN]; exact hwl.out.made _ _)
      have HNQ : Hid (N'.length ≤ q + 1) := hid (by have := resN_more k.M N (planD N d); rw [hN] at this; have := hnq.out; omega)
      have HI := hid hI
      have HE := hid hE
      have GD := hid hr.out.dg.1
      have HN6 : Hid (N.length ≤ 65536) := hid (by obtain ⟨_, nv, mo, s⟩ := hr.out.dg; exact Nat.le_trans s.len s.hM)
      have hBB : Hid (w.heap.size ≤ k.B) := hid (Nat.le_of_lt hr.out.kb)
      clear hN hI hE hd hg ed
      go_upto_region 8 with (go_at_call 17; with_reducible (refine (made_at hr.out.dg hBB.out hr.out.be d HF.out rfl HI.out HE.out HN.out g (off + q * 6) HG.out H6.out).mono ?_); rintro e w2 ⟨P2, rfl, s2, f2, b2, G6, g0, g1, g2, g3, g4, g5⟩)
      have L2 := hid (hr.out.made s2.out f2.out)
      have K8 := hid (eight_of L2.out G6.out)
      clear s2 f2 b2 hr H6 e0 e1 e2 e3 e4 e5
      go_cut [11, 12, 13] from 21 to 63 (fun p i f wx => ∃ (q' : Nat) (ao' : Option Addr) (c' : Nat), p = .pointer (some ⟨q', 0, none⟩) ∧ i = .int .i64 I ∧ f = .int .i64 E ∧ Hid (LC w k XB N' P2 ao c N q' ao' c' wx))
      case first =>
        have L3 := hid (L2.out.below (drew_b _))
        have L4 := hid (L2.out.below (alloc_b w2 (.slice none 0 0) (.int .i64 0)))
        go_region_held3 (fun W => W.cell? ⟨XB, 0, none⟩ = some (.slice ao N.length c) ∧ W.cell? ⟨XB, 1, none⟩ = some (.int .i64 k.M) ∧ W.cell? ⟨g, off + q * 6, none⟩ = some (.int .i64 d.kd) ∧ W.cell? ⟨g, off + q * 6 + 1, none⟩ = some (.int .i64 d.w) ∧ W.cell? ⟨g, off + q * 6 + 2, none⟩ = some (.int .i64 d.a) ∧ W.cell? ⟨g, off + q * 6 + 3, none⟩ = some (.int .i64 d.b) ∧ W.cell? ⟨g, off + q * 6 + 4, none⟩ = some (.int .i64 d.c) ∧ W.cell? ⟨g, off + q * 6 + 5, none⟩ = some (.int .u64 d.x)) (first | exact K8.out _ (drew_b _) | exact K8.out _ (alloc_b _ _ _) | exact K8.out _ B5.out | exact K8.out _ (Below.next B5.out (new_b _ _)) | exact K8.out _ (set_b B5.out (Nat.le_refl _))) (first
          | (go_at_call 18; with_reducible (refine (meant_at L3.out GD.out HN6.out d HF.out HI.out HE.out HN.out).mono ?_); rintro e w5 ⟨ao5, c5, rfl, h5, b5⟩; have B5 := hid (Below.next (drew_b w2) b5.out))
          | (go_at_call 18; with_reducible (refine (meant_at L4.out GD.out HN6.out d HF.out HI.out HE.out HN.out).mono ?_); rintro e w5 ⟨ao5, c5, rfl, h5, b5⟩; have B5 := hid (Below.next (alloc_b w2 (.slice none 0 0) (.int .i64 0)) b5.out); have t := new_twod b5.out; obtain ⟨t0, t1, t2, t3, t4⟩ := t))
        all_goals go_wp2_with fail
        all_goals go_meet
        all_goals first
          | exact ⟨w5.heap.size, ao5, c5, rfl, rfl, rfl, hid (lc_a L3.out b5.out h5.out)⟩
          | exact ⟨w2.heap.size, ao5, c5, rfl, rfl, rfl, hid (lc_bd L2.out b5.out h5.out)⟩
      case rest =>
        obtain ⟨q', ao', c', rfl, rfl, rfl, hc⟩ := hcut
        clear L2 K8 G6 g0 g1 g2 g3 g4 g5
        obtain ⟨k0, k1⟩ := two_of hc.out.1.xb
        have k2 := frozen_of (o := 0) hc.out.1.xb
        have k3 := frozen_of (o := 1) hc.out.1.xb
        obtain ⟨k4, k5⟩ := two_of hc.out.2.1
        have L5 := hid hc.out.next
        go_upto_region 10 with fail
        clear k0 k1 k2 k3 k4 k5 hc
        revert L5
        generalize (World.setCell _ ⟨XB, 0, none⟩ (.slice ao' N'.length c')).setCell ⟨XB, 1, none⟩ (.int .i64 k.M) = w4
        intro L5
        have z0 : ∀ p : BW w4, p.w.cell? ⟨XB, 0, none⟩ = some (.slice ao' N'.length c') := BW.cell (two_of L5.out.xb).1
        have x1 : (I != I) = false := by simp
        have x2 : (E != E) = false := by simp
        have x3 : ((N'.length : Int) != (N'.length : Int)) = false := by simp
        haveI : Inhabited (BW w4) := ⟨⟨w4, Below.refl _ _⟩⟩
        refine wp_region_below (by kernel_rfl) (by kernel_rfl) ?_
        repeat (go_big_quiet_step (first
          | (go_at_call 19; exact bw_same (len_any (Dg.below L5.out.dg (BW.be _))))
          | fail))
        refine wpQuiet_nil ?_
        intro _ hw
        obtain ⟨p, hw2⟩ := hw
        subst hw2
        go_wp2_with fail
        go_roundw
        case rel => exact ⟨q + 1, N', P2, ao', c', by omega, by go_num, hid (L5.out.below p.be), HWL, HNQ⟩
        case measure => simp only [intOf]; omega
    · have hlt' : ¬ (q : Int) < len := by omega
      obtain ⟨k0, k1⟩ := two_of hr.out.xb
      obtain ⟨k2, k3⟩ := two_of hr.out.rb
      have k4 := frozen_of (o := 0) hr.out.rb
      have k5 := frozen_of (o := 1) hr.out.rb
      have L6 := hid (hr.out.below (below_drew _))
      go_wp2_with fail
      go_region
      all_goals go_wp2_with fail
      all_goals refine bodyPost_ret (results_pbox rfl _ _ w.heap.size _ _ rfl (res_two L6.out.rb).1 (res_two L6.out.rb).2) rfl ?_
      all_goals exact ⟨k, N, P, ao, c, rfl, hid (lb_end L6.out).1, hid (lb_end L6.out).2.1, hid (lb_end L6.out).2.2, hwl, Nat.le_trans hnq.out hq, HM, hid (Nat.le_of_lt hr.out.kb)⟩

end Go.Proofs.YtefielnmlekhaaaDoor
