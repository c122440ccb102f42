/-
  Whatever terms are asked for: the walk.
-/
import Derived.Test.YtfbnlhgpknialaaBwalk
namespace Go.Proofs.Ytfbnlhgpknialaa
open Go.RowKit Go.Maps
set_option linter.unusedVariables false

theorem neq32 (x : Nd) (w : World) : (binOp BinOp.neq 32 (.agg #[.int .i64 x.op, .int .i64 x.wd, .int .i64 x.a, .int .i64 x.b, .int .i64 x.c, .int .u64 x.v]) (.agg #[.int .i64 x.op, .int .i64 x.wd, .int .i64 x.a, .int .i64 x.b, .int .i64 x.c, .int .u64 x.v])).run Try.prog w = .ok (.bool false) w := by
  simp [go_sem]

/-- Behind Build: terms, the document's in the box XB. -/
structure LP (w0 : World) (k : K) (XB : Nat) (N : List Nd) (P : Nat → Prop) (ao : Option Addr) (c : Nat) (wr : World) : Prop where
  be : Below w0.heap.size w0 wr
  xb : wr.heap[XB]? = some (.cells #[.slice ao N.length c, .int .i64 k.M] 27 (0, 0))
  dg : Dg k wr N P
  rd : RD wr ao c N

theorem LP.below {w0 wr w2 : World} {k : K} {XB : Nat} {N : List Nd} {P : Nat → Prop} {ao : Option Addr} {c : Nat} (h : LP w0 k XB N P ao c wr) (b : Below wr.heap.size wr w2) : LP w0 k XB N P ao c w2 :=
  ⟨Below.next h.be b, by rw [b.block _ (blk_lt h.xb)]; exact h.xb, h.dg.below b, h.rd.below b⟩
theorem lp_start {w0 w1 : World} {k : K} {N : List Nd} {P : Nat → Prop} {ao : Option Addr} {c : Nat} (s : Dg k w1 N P) (r : RD w1 ao c N) (b : Below w0.heap.size w0 w1) : LP w0 k w1.heap.size N P ao c (w1.alloc (.cells #[.slice ao N.length c, .int .i64 k.M] 27)) := by
  have b2 : Below w1.heap.size w1 (w1.alloc (.cells #[.slice ao N.length c, .int .i64 k.M] 27)) := by go_grown
  exact ⟨Below.next b b2, new_same _ _, s.below b2, r.below b2⟩

set_option maxHeartbeats 8000000 in
set_option maxRecDepth 20000 in
theorem plays_walk (n : Int) (a : Option Addr) (len cap : Nat) (D : Nat → Dd) (z : Int) (w : World) (hD : Deeds w a len D) : Calls Try.prog 3 #[.int .i64 n, .slice a len cap, .int .i64 z] w fun e w' => e = .returned (.bool true) ∧ Below w.heap.size w w' := by
  have HD := hid hD
  clear hD
  by_cases hl : 150 < len
  · have hl' : (150 : Int) < len := by omega
    go_enter Try.func3, Try.ntmps3
    go_wp2_with (go_at_call 6; with_reducible (refine (awake_any _).mono ?_); rintro e w6 ⟨rfl, b6⟩)
    go_ret
    exact ⟨rfl, b6.out⟩
  have hl' : ¬ (150 : Int) < len := by omega
  have HL : Hid (len ≤ 150) := hid (by omega)
  go_enter Try.func3, Try.ntmps3
  go_wp2_with (go_at_call 7; with_reducible (refine (build_any n a len cap D _ HD.out HL.out).mono ?_); rintro e w1 ⟨k, N, P, ao, c, rfl, s1, r1, b1⟩)
  have HS := hid (lp_start s1.out r1.out b1.out)
  have HN6 : N.length ≤ 65536 := by obtain ⟨_, nv, mo, s⟩ := s1.out; exact Nat.le_trans s.len s.hM
  clear s1 r1 b1
  revert HS
  generalize w1.alloc (.cells #[.slice ao N.length c, .int .i64 k.M] 27) = wz
  generalize w1.heap.size = XB
  intro HS
  go_loopw [9] (fun i wr => ∃ m : Nat, m ≤ N.length ∧ i = .int .i64 m ∧ Hid (LP w k XB N P ao c wr)) (fun i _ => N.length - (intOf i).toNat)
  case atStart => exact ⟨0, Nat.zero_le _, rfl, HS⟩
  case round =>
    clear HS
    obtain ⟨m, hm, rfl, hr⟩ := hrel
    obtain ⟨k0, k1⟩ := two_of hr.out.xb
    have hxb := blk_lt hr.out.xb
    by_cases hlt : m < N.length
    · have hlt' : (m : Int) < N.length := by omega
      obtain ⟨n1, hn⟩ : ∃ n1, ndA N m = n1 := ⟨_, rfl⟩
      have HI := hid (isN_nat hlt)
      obtain ⟨op, wd, na, nb, nc, nv⟩ := n1
      have HN := hid hn
      have HW : Hid (wdF N m = wd) := hid (by unfold wdF; rw [hn])
      have he := neq32 ⟨op, wd, na, nb, nc, nv⟩
      simp only [] at he
      clear hn
      go_upto_region 10 with (go_at_call 8; with_reducible (refine (node_as hr.out.dg (m : Int) HN.out HI.out).mono ?_); rintro e w2 ⟨rfl, b2⟩)
      have bx := box_new (Below.refl _ (w2.alloc (.cells #[.int .i64 op, .int .i64 wd, .int .i64 na, .int .i64 nb, .int .i64 nc, .int .u64 nv] 32)))
      have L3 := hid (hr.out.below (Below.next b2.out (show Below w2.heap.size w2 (w2.alloc (.cells #[.int .i64 op, .int .i64 wd, .int .i64 na, .int .i64 nb, .int .i64 nc, .int .u64 nv] 32)) by go_grown)))
      revert bx L3
      generalize w2.alloc (.cells #[.int .i64 op, .int .i64 wd, .int .i64 na, .int .i64 nb, .int .i64 nc, .int .u64 nv] 32) = w4
      generalize w2.heap.size = bb
      intro bx L3
      obtain ⟨g, rfl, e0, e1, e2, e3, e4, e5⟩ := L3.out.rd.at hlt
      rw [HN.out] at e0 e1 e2 e3 e4 e5
      simp only [] at e0 e1 e2 e3 e4 e5
      have E0 := BW.cell e0
      have E1 := BW.cell e1
      have E2 := BW.cell e2
      have E3 := BW.cell e3
      have E4 := BW.cell e4
      have E5 := BW.cell e5
      have Y0 := BW.cell bx.1
      have Y1 := BW.cell bx.2.1
      have Y2 := BW.cell bx.2.2.1
      have Y3 := BW.cell bx.2.2.2.1
      have Y4 := BW.cell bx.2.2.2.2.1
      have Y5 := BW.cell bx.2.2.2.2.2
      have X0 := BW.cell (two_of L3.out.xb).1
      have x1 : (wd != wd) = false := by simp
      clear e0 e1 e2 e3 e4 e5 bx k0 k1 hxb hr b2
      haveI : Inhabited (BW w4) := ⟨⟨w4, Below.refl _ _⟩⟩
      refine wp_region_below (by kernel_rfl) (by kernel_rfl) ?_
      repeat (go_big_quiet_step (first
        | (go_at_call 9; exact bw_of (width_is (Dg.below L3.out.dg (BW.be _)) (m : Int) HW.out))
        | fail))
      refine wpQuiet_nil ?_
      intro _ hw
      obtain ⟨p, hw2⟩ := hw
      subst hw2
      go_wp2_with fail
      go_roundw
      case rel => exact ⟨m + 1, by omega, by go_num, hid (L3.out.below p.be)⟩
      case measure => simp only [intOf]; omega
    · have hlt' : ¬ (m : Int) < N.length := by omega
      obtain ⟨t, ht⟩ : ∃ t, isN N z = t := ⟨_, rfl⟩
      obtain ⟨n1, hn⟩ : ∃ n1, ndA N z = n1 := ⟨_, rfl⟩
      have hz : t = false → n1 = z6 := fun e => by rw [← hn]; exact ndA_no (ht.trans e)
      obtain ⟨op, wd, na, nb, nc, nv⟩ := n1
      have HT := hid ht
      have HN := hid hn
      have HW : Hid (wdF N z = wd) := hid (by unfold wdF; rw [hn])
      have HZ := hid hz
      clear hn ht hz
      go_upto_region 13 with (go_at_call 8; with_reducible (refine (node_as hr.out.dg z HN.out HT.out).mono ?_); rintro e w2 ⟨rfl, b2⟩)
      have bx := box_new (Below.refl _ (w2.alloc (.cells #[.int .i64 op, .int .i64 wd, .int .i64 na, .int .i64 nb, .int .i64 nc, .int .u64 nv] 32)))
      have L3 := hid (hr.out.below (Below.next b2.out (show Below w2.heap.size w2 (w2.alloc (.cells #[.int .i64 op, .int .i64 wd, .int .i64 na, .int .i64 nb, .int .i64 nc, .int .u64 nv] 32)) by go_grown)))
      revert bx L3
      generalize w2.alloc (.cells #[.int .i64 op, .int .i64 wd, .int .i64 na, .int .i64 nb, .int .i64 nc, .int .u64 nv] 32) = w4
      generalize w2.heap.size = bb
      intro bx L3
      have x1 : (wd == wd) = true := by simp
      cases t
      · have hz := HZ.out rfl
        simp only [z6, Nd.mk.injEq] at hz
        obtain ⟨rfl, rfl, rfl, rfl, rfl, rfl⟩ := hz
        have Y0 := BW.cell bx.1
        have Y1 := BW.cell bx.2.1
        have Y2 := BW.cell bx.2.2.1
        have Y3 := BW.cell bx.2.2.2.1
        have Y4 := BW.cell bx.2.2.2.2.1
        have Y5 := BW.cell bx.2.2.2.2.2
        have X0 := BW.cell (two_of L3.out.xb).1
        have X1 := BW.cell (two_of L3.out.xb).2
        clear bx k0 k1 hxb hr b2 x1
        haveI : Inhabited (BW w4) := ⟨⟨w4, Below.refl _ _⟩⟩
        refine wp_region_below (by kernel_rfl) (by kernel_rfl) ?_
        repeat (go_big_quiet_step (first
          | (go_at_call 10; exact bw_of (ris_is z HT.out))
          | (go_at_call 9; exact bw_of (width_is (Dg.below L3.out.dg (BW.be _)) z HW.out))
          | (go_at_call 11; exact bw_of (rwidth_is (RD.below L3.out.rd (BW.be _)) z HW.out))
          | (go_at_call 6; exact bw_of (awake_any _))
          | fail))
        refine wpQuiet_nil ?_
        intro _ hw
        obtain ⟨p, hw2⟩ := hw
        subst hw2
        go_wp2_with fail
        go_ret
        exact ⟨rfl, Below.next L3.out.be p.be⟩
      · have X0 := BW.cell (two_of L3.out.xb).1
        have X1 := BW.cell (two_of L3.out.xb).2
        clear bx k0 k1 hxb hr b2
        haveI : Inhabited (BW w4) := ⟨⟨w4, Below.refl _ _⟩⟩
        refine wp_region_below (by kernel_rfl) (by kernel_rfl) ?_
        repeat (go_big_quiet_step (first
          | (go_at_call 10; exact bw_of (ris_is z HT.out))
          | (go_at_call 9; exact bw_of (width_is (Dg.below L3.out.dg (BW.be _)) z HW.out))
          | (go_at_call 11; exact bw_of (rwidth_is (RD.below L3.out.rd (BW.be _)) z HW.out))
          | (go_at_call 6; exact bw_of (awake_any _))
          | fail))
        refine wpQuiet_nil ?_
        intro _ hw
        obtain ⟨p, hw2⟩ := hw
        subst hw2
        go_wp2_with fail
        go_ret
        exact ⟨rfl, Below.next L3.out.be p.be⟩

end Go.Proofs.Ytfbnlhgpknialaa
