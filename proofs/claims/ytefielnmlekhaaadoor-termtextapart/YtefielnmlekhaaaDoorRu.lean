/-
  The document's text of a term that is made of others.
-/
import Derived.Test.YtefielnmlekhaaaDoorRs
namespace Go.Proofs.YtefielnmlekhaaaDoor
open Go.RowKit
open Go.Lib (decDigits itoa byteCells)
set_option linter.unusedVariables false
set_option maxRecDepth 20000

/-- The array of the parts. -/
def Arr (w : World) (A : Nat) (ks : List Int) : Prop := w.heap[A]? = some (.cells #[.int .i64 (ks.getD 0 0), .int .i64 (ks.getD 1 0), .int .i64 (ks.getD 2 0)] 90 (0, 0))
theorem Arr.below {w w' : World} {A : Nat} {ks : List Int} (h : Arr w A ks) (b : Below w.heap.size w w') : Arr w' A ks := by
  show _ = _
  rw [b.block _ (blk_lt h)]; exact h
theorem Arr.at {w : World} {A : Nat} {ks : List Int} (h : Arr w A ks) {q : Nat} (hq : q < 3) {x : Int} (hx : ks[q]? = some x) : w.cell? ⟨A, q, none⟩ = some (.int .i64 x) := by
  rw [cell_of h]
  have : q = 0 ∨ q = 1 ∨ q = 2 := by omega
  rcases this with rfl | rfl | rfl <;> simp [List.getD_eq_getElem?_getD, hx]

set_option maxHeartbeats 16000000 in
theorem rshow_made {N : List Nd} (r : Wl N) (g : Gd N) {i : Nat} (hi : i < N.length) (n : Nd) (hn : ndA N i = n) (o0 : n.op ≠ 20) (o1 : n.op ≠ 21) (aA aF : Option Addr) (cA cF : Nat) (w : World) (hA : Ahead w aA aF N i) (hi2 : i ≤ 100000) :
    Calls Tryd.prog 23 #[.agg #[.int .i64 n.op, .int .i64 n.wd, .int .i64 n.a, .int .i64 n.b, .int .i64 n.c, .int .u64 n.v], .slice aA i cA, .slice aF i cF] w fun e w' => ShEnd N i w e w' := by
  have hft : Ft n := by rw [← hn]; exact g.ft _ (ndA_mem (isN_nat hi))
  have HT : Hid (TX N i = headF n ++ (ksF n).flatMap (fun a => 32 :: TX N a) ++ [41]) := hid (by have e := TX_made r g hi (by rw [hn]; exact o0) (by rw [hn]; exact o1); rw [hn] at e; exact e)
  have HK : Hid (∀ a ∈ ksF n, Ahd i a) := hid (by have e := ks_ahead (r.shp g hi); rw [hn] at e; exact e)
  have HPL : Hid (∀ a ∈ ksF n, (TX N a).length < (TX N i).length) := hid (fun a ha => part_len r g hi (by rw [hn]; exact ha))
  have HN : ∀ a ∈ numsF n, 0 ≤ a ∧ a ≤ 64 := by have e := nums_in r g hi; rw [hn] at e; exact e
  have ho : OpOk n := by have e := op_ok r g hi (by rw [hn]; exact o0) (by rw [hn]; exact o1); rw [hn] at e; exact e
  have hwd : 1 ≤ n.wd ∧ n.wd ≤ 64 := by rw [← hn]; exact g.wd _ (ndA_mem (isN_nat hi))
  have wl := word_len n.op
  have hhl := head_len hft
  have lw := dgs_len (x := n.wd) (by omega)
  have q20 := ne_b o0
  have q21 := ne_b o1
  have HA := hid hA
  -- the texts
  obtain ⟨wv, hwv⟩ : ∃ x, Hid (x = wordF n.op) := ⟨_, hid rfl⟩
  obtain ⟨t0, ht0⟩ : ∃ x, Hid (x = [40] ++ wv) := ⟨_, hid rfl⟩
  obtain ⟨t1, ht1⟩ : ∃ x, Hid (x = t0 ++ [32]) := ⟨_, hid rfl⟩
  obtain ⟨db, hdb⟩ : ∃ x, Hid (x = dgs n.b) := ⟨_, hid rfl⟩
  obtain ⟨dw, hdw⟩ : ∃ x, Hid (x = dgs n.wd) := ⟨_, hid rfl⟩
  obtain ⟨t2, ht2⟩ : ∃ x, Hid (x = t1 ++ db) := ⟨_, hid rfl⟩
  obtain ⟨t3, ht3⟩ : ∃ x, Hid (x = t2 ++ [32]) := ⟨_, hid rfl⟩
  obtain ⟨hd, hhd⟩ : ∃ x, Hid (x = headF n) := ⟨_, hid rfl⟩
  have lb := dgs_len (x := n.b) (by have := hft.2.2.2.1; omega)
  have lwv : wv.length ≤ 4 := by rw [hwv.out]; exact wl
  have lt0 : t0.length ≤ 5 := by rw [ht0.out]; simp; omega
  have lt1 : t1.length ≤ 6 := by rw [ht1.out]; simp; omega
  have ldb : db.length ≤ 20 := by rw [hdb.out]; exact lb
  have ldw : dw.length ≤ 20 := by rw [hdw.out]; exact lw
  have lt2 : t2.length ≤ 26 := by rw [ht2.out]; simp; omega
  have lt3 : t3.length ≤ 27 := by rw [ht3.out]; simp; omega
  have lhd : hd.length ≤ 47 := by rw [hhd.out]; exact hhl
  have ad0 := add_text [40] wv (by decide) (by omega)
  have ad1 := add_text t0 [32] (by omega) (by decide)
  have ad2 := add_text t1 db (by omega) (by omega)
  have ad3 := add_text t2 [32] (by omega) (by decide)
  rw [← ht0.out] at ad0
  rw [← ht1.out] at ad1
  rw [← ht2.out] at ad2
  rw [← ht3.out] at ad3
  have D0 : Hid (∀ W, Calls Tryd.prog 10 #[.int .i64 n.op] W fun e w' => e = .returned (.string ⟨wv.toArray⟩) ∧ Hid (Below W.heap.size W w')) := hid (fun W => by rw [hwv.out]; exact rword_any n.op W)
  have D2 : Hid (∀ W, Calls Tryd.prog 49 #[.int .i64 n.wd] W fun e w' => e = .returned (.string ⟨dw.toArray⟩) ∧ Hid (Below W.heap.size W w')) := hid (fun W => by rw [hdw.out]; exact rnumber_any n.wd (by omega) (by omega) W)
  obtain ⟨p0, e0⟩ : ∃ x, Hid (x = (ksF n).getD 0 0) := ⟨_, hid rfl⟩
  obtain ⟨p1, e1⟩ : ∃ x, Hid (x = (ksF n).getD 1 0) := ⟨_, hid rfl⟩
  obtain ⟨p2, e2⟩ : ∃ x, Hid (x = (ksF n).getD 2 0) := ⟨_, hid rfl⟩
  obtain ⟨kl, hkl⟩ : ∃ x, Hid (x = (ksF n).length) := ⟨_, hid rfl⟩
  have hk3 : kl ≤ 3 := by rw [hkl.out]; exact ks_len n
  have D3 : Hid (∀ W, Calls Tryd.prog 50 #[.agg #[.int .i64 n.op, .int .i64 n.wd, .int .i64 n.a, .int .i64 n.b, .int .i64 n.c, .int .u64 n.v]] W fun e w' =>
    e = .returned (.tuple #[.agg #[.int .i64 p0, .int .i64 p1, .int .i64 p2], .int .i64 (kl : Int)]) ∧ Hid (Below W.heap.size W w')) := hid (fun W => by rw [e0.out, e1.out, e2.out, hkl.out]; exact rparts_any n ho W)
  have HAr : Hid (∀ W : World, Arr (W.alloc (.cells #[.int .i64 p0, .int .i64 p1, .int .i64 p2] 90)) W.heap.size (ksF n)) := hid (fun W => by rw [e0.out, e1.out, e2.out]; exact new_same _ _)
  have cases4 : (∃ D : Hid (∀ W, Calls Tryd.prog 49 #[.int .i64 n.b] W fun e w' => e = .returned (.string ⟨db.toArray⟩) ∧ Hid (Below W.heap.size W w')), (n.op == 23) = true ∧ hd = t3 ++ dw) ∨
      ((n.op == 23) = false ∧ (n.op == 25) = true ∧ hd = t1 ++ dw) ∨ ((n.op == 23) = false ∧ (n.op == 25) = false ∧ (n.op == 26) = true ∧ hd = t1 ++ dw) ∨ ((n.op == 23) = false ∧ (n.op == 25) = false ∧ (n.op == 26) = false ∧ hd = t0) := by
    by_cases c23 : n.op = 23
    · refine .inl ⟨hid (fun W => by rw [hdb.out]; have := HN n.b (by simp [numsF, c23]); exact rnumber_any n.b (by omega) (by omega) W), by simp [c23], ?_⟩
      rw [hhd.out, ht3.out, ht2.out, ht1.out, ht0.out, hwv.out, hdb.out, hdw.out]
      simp [headF, numsF, c23]
    · by_cases c25 : n.op = 25
      · refine .inr (.inl ⟨ne_b c23, by simp [c25], ?_⟩)
        rw [hhd.out, ht1.out, ht0.out, hwv.out, hdw.out]
        simp [headF, numsF, c25]
      · by_cases c26 : n.op = 26
        · refine .inr (.inr (.inl ⟨ne_b c23, ne_b c25, by simp [c26], ?_⟩))
          rw [hhd.out, ht1.out, ht0.out, hwv.out, hdw.out]
          simp [headF, numsF, c26]
        · refine .inr (.inr (.inr ⟨ne_b c23, ne_b c25, ne_b c26, ?_⟩))
          rw [hhd.out, ht0.out, hwv.out]
          simp [headF, numsF, c23, c25, c26]
  rw [← hhd.out] at HT
  clear hft HN ho hwd wl hhl lw hwv ht0 ht1 hdb hdw ht2 ht3 lb lwv lt0 hA hn e0 e1 e2 hhd lt2 o0 o1
  rcases cases4 with ⟨D1, q23, hh⟩ | ⟨q23, q25, hh⟩ | ⟨q23, q25, q26, hh⟩ | ⟨q23, q25, q26, hh⟩
  · have ad4 := add_text t3 dw (by omega) (by omega)
    rw [← hh] at ad4
    clear lt1 ldb ldw lt3 hh
    go_enter Tryd.func23, Tryd.ntmps23
    have S0 := (bx_below w n (Below.refl _ _)).six
    obtain ⟨s0, s1, s2, s3, s4, s5⟩ := S0
    go_upto_region 12 with (first
      | (go_at_call 10; with_reducible (refine (D0.out _).mono ?_); rintro e w1 ⟨rfl, b1⟩; obtain ⟨s0, s1, s2, s3, s4, s5⟩ := (bx_below w n b1.out).six; have m1 := hid (Below.next (new_b w _) b1.out))
      | (go_at_call 49; with_reducible (refine (D1.out _).mono ?_); rintro e w2 ⟨rfl, b2⟩; have c2 := hid (Below.next b1.out b2.out); obtain ⟨s0, s1, s2, s3, s4, s5⟩ := (bx_below w n c2.out).six; have m2 := hid (Below.next m1.out b2.out))
      | (go_at_call 49; with_reducible (refine (D2.out _).mono ?_); rintro e w3 ⟨rfl, b3⟩; have c3 := hid (Below.next c2.out b3.out); obtain ⟨s0, s1, s2, s3, s4, s5⟩ := (bx_below w n c3.out).six; have m3 := hid (Below.next m2.out b3.out))
      | (go_at_call 50; with_reducible (refine (D3.out _).mono ?_); rintro e w4 ⟨rfl, b4⟩; have m4 := hid (Below.next m3.out b4.out)))
    have HC := hid (HAr.out w4)
    have HM := hid (Below.next m4.out (new_b w4 (.cells #[.int .i64 p0, .int .i64 p1, .int .i64 p2] 90)))
    clear s0 s1 s2 s3 s4 s5
    revert HC HM
    generalize w4.alloc (.cells #[.int .i64 p0, .int .i64 p1, .int .i64 p2] 90) = wz
    generalize w4.heap.size = A
    intro HC HM
    go_wp2_with fail
    go_loopw [8, 11] (fun s ix wr => ∃ (q : Nat) (tx : List UInt8), q ≤ kl ∧ ix = .int .i64 q ∧ s = .string ⟨tx.toArray⟩ ∧ Hid (tx = hd ++ ((ksF n).take q).flatMap (fun a => 32 :: TX N a)) ∧ tx.length ≤ 47 + q * 4097 ∧ Hid (Below w.heap.size w wr) ∧ Hid (Arr wr A (ksF n))) (fun _ ix _ => kl - (intOf ix).toNat)
    case atStart => exact ⟨0, hd, Nat.zero_le _, rfl, rfl, hid (by simp), by omega, HM, HC⟩
    case round =>
      clear HC HM
      obtain ⟨q, tx, hq, rfl, rfl, htx, hlx, hm, hr⟩ := hrel
      by_cases hlt : q < kl
      · have hlt' : (q : Int) < kl := by omega
        obtain ⟨x, hx⟩ : ∃ x, (ksF n)[q]? = some x := ⟨_, List.getElem?_eq_getElem (by rw [← hkl.out]; exact hlt)⟩
        obtain ⟨x0, x1⟩ := HK.out _ (List.mem_of_getElem? hx)
        have HP := hid (HPL.out _ (List.mem_of_getElem? hx))
        obtain ⟨j, rfl⟩ := Int.eq_ofNat_of_zero_le x0
        have hj : j < i := by omega
        have hj' : (j : Int) < i := by omega
        have hc := hr.out.at (by omega) hx
        have HS := hid (parts_step (N := N) hx)
        obtain ⟨ga, gf, rfl, rfl, ca, cf⟩ := (HA.out.below hm.out).at hj
        clear hx x0 x1
        by_cases hf : (TX N j).length ≤ 4096
        · have ef : decide ((TX N j).length ≤ 4096) = true := by simpa using hf
          rw [ef] at cf
          have es : shT N j = TX N j := by unfold shT; rw [if_pos hf]
          rw [es] at ca
          obtain ⟨tj, htj⟩ : ∃ tj, Hid (tj = TX N j) := ⟨_, hid rfl⟩
          have ltj : tj.length ≤ 4096 := by rw [htj.out]; exact hf
          rw [← htj.out] at ca
          obtain ⟨y1, hy1⟩ : ∃ x, Hid (x = tx ++ [32]) := ⟨_, hid rfl⟩
          obtain ⟨y2, hy2⟩ : ∃ x, Hid (x = y1 ++ tj) := ⟨_, hid rfl⟩
          have ly1 : y1.length = tx.length + 1 := by rw [hy1.out]; simp
          have ly2 : y2.length = y1.length + tj.length := by rw [hy2.out]; simp
          have am : q * 4097 ≤ 3 * 4097 := Nat.mul_le_mul_right _ (by omega)
          have as1 := add_text tx [32] (by omega) (by decide)
          have as2 := add_text y1 tj (by omega) (by omega)
          rw [← hy1.out] at as1
          rw [← hy2.out] at as2
          have LL : Hid (y2.length ≤ 47 + (q + 1) * 4097) := hid (by rw [Nat.add_mul]; omega)
          have HY : Hid (y2 = hd ++ ((ksF n).take (q + 1)).flatMap (fun a => 32 :: TX N a)) := hid (by rw [HS.out, hy2.out, hy1.out, htx.out, htj.out]; simp)
          clear hf ef es ltj ly1 ly2 am hlx
          go_wp2_with fail
          go_roundw
          case rel => exact ⟨q + 1, y2, by omega, by go_num, rfl, HY, LL.out, hm, hr⟩
          case measure => simp only [intOf]; omega
        · have ef : decide ((TX N j).length ≤ 4096) = false := by simpa using hf
          rw [ef] at cf
          have HF : Hid (decide ((TX N i).length ≤ 4096) = false) := hid (by have := HP.out; simp; omega)
          clear hf ef ca hlx
          go_wp2_with fail
          go_ret2
          exact ⟨_, by rw [HF.out]; rfl, hid (fun h => by have := HF.out; simp at this; omega), hm⟩
      · have e : q = kl := by omega
        subst e
        have hlt' : ¬ (q : Int) < q := by omega
        have HE : Hid (tx = hd ++ (ksF n).flatMap (fun a => 32 :: TX N a)) := hid (by have := htx.out; rw [List.take_of_length_le (by have := hkl.out; omega)] at this; exact this)
        obtain ⟨z, hz⟩ : ∃ x, Hid (x = tx ++ [41]) := ⟨_, hid rfl⟩
        have am : q * 4097 ≤ 3 * 4097 := Nat.mul_le_mul_right _ hk3
        have as1 := add_text tx [41] (by omega) (by decide)
        rw [← hz.out] at as1
        have HZ : Hid (z = TX N i) := hid (by rw [hz.out, HE.out, HT.out])
        by_cases hzl : z.length ≤ 4096
        · have hzl' : (z.length : Int) ≤ 4096 := by omega
          have HF : Hid (decide ((TX N i).length ≤ 4096) = true) := hid (by rw [← HZ.out]; simpa using hzl)
          clear hlx am htx
          go_wp2_with fail
          go_ret2
          exact ⟨_, by rw [HF.out]; rfl, hid (fun _ => by rw [HZ.out]), hm⟩
        · have hzl' : ¬ (z.length : Int) ≤ 4096 := by omega
          have HF : Hid (decide ((TX N i).length ≤ 4096) = false) := hid (by rw [← HZ.out]; simpa using hzl)
          clear hlx am htx
          go_wp2_with fail
          go_ret2
          exact ⟨_, by rw [HF.out]; rfl, hid (fun _ => by rw [HZ.out]), hm⟩
  · have ad4 := add_text t1 dw (by omega) (by omega)
    rw [← hh] at ad4
    clear lt1 ldb ldw lt3 hh
    go_enter Tryd.func23, Tryd.ntmps23
    have S0 := (bx_below w n (Below.refl _ _)).six
    obtain ⟨s0, s1, s2, s3, s4, s5⟩ := S0
    go_upto_region 12 with (first
      | (go_at_call 10; with_reducible (refine (D0.out _).mono ?_); rintro e w1 ⟨rfl, b1⟩; obtain ⟨s0, s1, s2, s3, s4, s5⟩ := (bx_below w n b1.out).six; have m1 := hid (Below.next (new_b w _) b1.out))
      | (go_at_call 49; with_reducible (refine (D2.out _).mono ?_); rintro e w3 ⟨rfl, b3⟩; have c3 := hid (Below.next b1.out b3.out); obtain ⟨s0, s1, s2, s3, s4, s5⟩ := (bx_below w n c3.out).six; have m3 := hid (Below.next m1.out b3.out))
      | (go_at_call 50; with_reducible (refine (D3.out _).mono ?_); rintro e w4 ⟨rfl, b4⟩; have m4 := hid (Below.next m3.out b4.out)))
    have HC := hid (HAr.out w4)
    have HM := hid (Below.next m4.out (new_b w4 (.cells #[.int .i64 p0, .int .i64 p1, .int .i64 p2] 90)))
    clear s0 s1 s2 s3 s4 s5
    revert HC HM
    generalize w4.alloc (.cells #[.int .i64 p0, .int .i64 p1, .int .i64 p2] 90) = wz
    generalize w4.heap.size = A
    intro HC HM
    go_wp2_with fail
    go_loopw [8, 11] (fun s ix wr => ∃ (q : Nat) (tx : List UInt8), q ≤ kl ∧ ix = .int .i64 q ∧ s = .string ⟨tx.toArray⟩ ∧ Hid (tx = hd ++ ((ksF n).take q).flatMap (fun a => 32 :: TX N a)) ∧ tx.length ≤ 47 + q * 4097 ∧ Hid (Below w.heap.size w wr) ∧ Hid (Arr wr A (ksF n))) (fun _ ix _ => kl - (intOf ix).toNat)
    case atStart => exact ⟨0, hd, Nat.zero_le _, rfl, rfl, hid (by simp), by omega, HM, HC⟩
    case round =>
      clear HC HM
      obtain ⟨q, tx, hq, rfl, rfl, htx, hlx, hm, hr⟩ := hrel
      by_cases hlt : q < kl
      · have hlt' : (q : Int) < kl := by omega
        obtain ⟨x, hx⟩ : ∃ x, (ksF n)[q]? = some x := ⟨_, List.getElem?_eq_getElem (by rw [← hkl.out]; exact hlt)⟩
        obtain ⟨x0, x1⟩ := HK.out _ (List.mem_of_getElem? hx)
        have HP := hid (HPL.out _ (List.mem_of_getElem? hx))
        obtain ⟨j, rfl⟩ := Int.eq_ofNat_of_zero_le x0
        have hj : j < i := by omega
        have hj' : (j : Int) < i := by omega
        have hc := hr.out.at (by omega) hx
        have HS := hid (parts_step (N := N) hx)
        obtain ⟨ga, gf, rfl, rfl, ca, cf⟩ := (HA.out.below hm.out).at hj
        clear hx x0 x1
        by_cases hf : (TX N j).length ≤ 4096
        · have ef : decide ((TX N j).length ≤ 4096) = true := by simpa using hf
          rw [ef] at cf
          have es : shT N j = TX N j := by unfold shT; rw [if_pos hf]
          rw [es] at ca
          obtain ⟨tj, htj⟩ : ∃ tj, Hid (tj = TX N j) := ⟨_, hid rfl⟩
          have ltj : tj.length ≤ 4096 := by rw [htj.out]; exact hf
          rw [← htj.out] at ca
          obtain ⟨y1, hy1⟩ : ∃ x, Hid (x = tx ++ [32]) := ⟨_, hid rfl⟩
          obtain ⟨y2, hy2⟩ : ∃ x, Hid (x = y1 ++ tj) := ⟨_, hid rfl⟩
          have ly1 : y1.length = tx.length + 1 := by rw [hy1.out]; simp
          have ly2 : y2.length = y1.length + tj.length := by rw [hy2.out]; simp
          have am : q * 4097 ≤ 3 * 4097 := Nat.mul_le_mul_right _ (by omega)
          have as1 := add_text tx [32] (by omega) (by decide)
          have as2 := add_text y1 tj (by omega) (by omega)
          rw [← hy1.out] at as1
          rw [← hy2.out] at as2
          have LL : Hid (y2.length ≤ 47 + (q + 1) * 4097) := hid (by rw [Nat.add_mul]; omega)
          have HY : Hid (y2 = hd ++ ((ksF n).take (q + 1)).flatMap (fun a => 32 :: TX N a)) := hid (by rw [HS.out, hy2.out, hy1.out, htx.out, htj.out]; simp)
          clear hf ef es ltj ly1 ly2 am hlx
          go_wp2_with fail
          go_roundw
          case rel => exact ⟨q + 1, y2, by omega, by go_num, rfl, HY, LL.out, hm, hr⟩
          case measure => simp only [intOf]; omega
        · have ef : decide ((TX N j).length ≤ 4096) = false := by simpa using hf
          rw [ef] at cf
          have HF : Hid (decide ((TX N i).length ≤ 4096) = false) := hid (by have := HP.out; simp; omega)
          clear hf ef ca hlx
          go_wp2_with fail
          go_ret2
          exact ⟨_, by rw [HF.out]; rfl, hid (fun h => by have := HF.out; simp at this; omega), hm⟩
      · have e : q = kl := by omega
        subst e
        have hlt' : ¬ (q : Int) < q := by omega
        have HE : Hid (tx = hd ++ (ksF n).flatMap (fun a => 32 :: TX N a)) := hid (by have := htx.out; rw [List.take_of_length_le (by have := hkl.out; omega)] at this; exact this)
        obtain ⟨z, hz⟩ : ∃ x, Hid (x = tx ++ [41]) := ⟨_, hid rfl⟩
        have am : q * 4097 ≤ 3 * 4097 := Nat.mul_le_mul_right _ hk3
        have as1 := add_text tx [41] (by omega) (by decide)
        rw [← hz.out] at as1
        have HZ : Hid (z = TX N i) := hid (by rw [hz.out, HE.out, HT.out])
        by_cases hzl : z.length ≤ 4096
        · have hzl' : (z.length : Int) ≤ 4096 := by omega
          have HF : Hid (decide ((TX N i).length ≤ 4096) = true) := hid (by rw [← HZ.out]; simpa using hzl)
          clear hlx am htx
          go_wp2_with fail
          go_ret2
          exact ⟨_, by rw [HF.out]; rfl, hid (fun _ => by rw [HZ.out]), hm⟩
        · have hzl' : ¬ (z.length : Int) ≤ 4096 := by omega
          have HF : Hid (decide ((TX N i).length ≤ 4096) = false) := hid (by rw [← HZ.out]; simpa using hzl)
          clear hlx am htx
          go_wp2_with fail
          go_ret2
          exact ⟨_, by rw [HF.out]; rfl, hid (fun _ => by rw [HZ.out]), hm⟩
  · have ad4 := add_text t1 dw (by omega) (by omega)
    rw [← hh] at ad4
    clear lt1 ldb ldw lt3 hh
    go_enter Tryd.func23, Tryd.ntmps23
    have S0 := (bx_below w n (Below.refl _ _)).six
    obtain ⟨s0, s1, s2, s3, s4, s5⟩ := S0
    go_upto_region 12 with (first
      | (go_at_call 10; with_reducible (refine (D0.out _).mono ?_); rintro e w1 ⟨rfl, b1⟩; obtain ⟨s0, s1, s2, s3, s4, s5⟩ := (bx_below w n b1.out).six; have m1 := hid (Below.next (new_b w _) b1.out))
      | (go_at_call 49; with_reducible (refine (D2.out _).mono ?_); rintro e w3 ⟨rfl, b3⟩; have c3 := hid (Below.next b1.out b3.out); obtain ⟨s0, s1, s2, s3, s4, s5⟩ := (bx_below w n c3.out).six; have m3 := hid (Below.next m1.out b3.out))
      | (go_at_call 50; with_reducible (refine (D3.out _).mono ?_); rintro e w4 ⟨rfl, b4⟩; have m4 := hid (Below.next m3.out b4.out)))
    have HC := hid (HAr.out w4)
    have HM := hid (Below.next m4.out (new_b w4 (.cells #[.int .i64 p0, .int .i64 p1, .int .i64 p2] 90)))
    clear s0 s1 s2 s3 s4 s5
    revert HC HM
    generalize w4.alloc (.cells #[.int .i64 p0, .int .i64 p1, .int .i64 p2] 90) = wz
    generalize w4.heap.size = A
    intro HC HM
    go_wp2_with fail
    go_loopw [8, 11] (fun s ix wr => ∃ (q : Nat) (tx : List UInt8), q ≤ kl ∧ ix = .int .i64 q ∧ s = .string ⟨tx.toArray⟩ ∧ Hid (tx = hd ++ ((ksF n).take q).flatMap (fun a => 32 :: TX N a)) ∧ tx.length ≤ 47 + q * 4097 ∧ Hid (Below w.heap.size w wr) ∧ Hid (Arr wr A (ksF n))) (fun _ ix _ => kl - (intOf ix).toNat)
    case atStart => exact ⟨0, hd, Nat.zero_le _, rfl, rfl, hid (by simp), by omega, HM, HC⟩
    case round =>
      clear HC HM
      obtain ⟨q, tx, hq, rfl, rfl, htx, hlx, hm, hr⟩ := hrel
      by_cases hlt : q < kl
      · have hlt' : (q : Int) < kl := by omega
        obtain ⟨x, hx⟩ : ∃ x, (ksF n)[q]? = some x := ⟨_, List.getElem?_eq_getElem (by rw [← hkl.out]; exact hlt)⟩
        obtain ⟨x0, x1⟩ := HK.out _ (List.mem_of_getElem? hx)
        have HP := hid (HPL.out _ (List.mem_of_getElem? hx))
        obtain ⟨j, rfl⟩ := Int.eq_ofNat_of_zero_le x0
        have hj : j < i := by omega
        have hj' : (j : Int) < i := by omega
        have hc := hr.out.at (by omega) hx
        have HS := hid (parts_step (N := N) hx)
        obtain ⟨ga, gf, rfl, rfl, ca, cf⟩ := (HA.out.below hm.out).at hj
        clear hx x0 x1
        by_cases hf : (TX N j).length ≤ 4096
        · have ef : decide ((TX N j).length ≤ 4096) = true := by simpa using hf
          rw [ef] at cf
          have es : shT N j = TX N j := by unfold shT; rw [if_pos hf]
          rw [es] at ca
          obtain ⟨tj, htj⟩ : ∃ tj, Hid (tj = TX N j) := ⟨_, hid rfl⟩
          have ltj : tj.length ≤ 4096 := by rw [htj.out]; exact hf
          rw [← htj.out] at ca
          obtain ⟨y1, hy1⟩ : ∃ x, Hid (x = tx ++ [32]) := ⟨_, hid rfl⟩
          obtain ⟨y2, hy2⟩ : ∃ x, Hid (x = y1 ++ tj) := ⟨_, hid rfl⟩
          have ly1 : y1.length = tx.length + 1 := by rw [hy1.out]; simp
          have ly2 : y2.length = y1.length + tj.length := by rw [hy2.out]; simp
          have am : q * 4097 ≤ 3 * 4097 := Nat.mul_le_mul_right _ (by omega)
          have as1 := add_text tx [32] (by omega) (by decide)
          have as2 := add_text y1 tj (by omega) (by omega)
          rw [← hy1.out] at as1
          rw [← hy2.out] at as2
          have LL : Hid (y2.length ≤ 47 + (q + 1) * 4097) := hid (by rw [Nat.add_mul]; omega)
          have HY : Hid (y2 = hd ++ ((ksF n).take (q + 1)).flatMap (fun a => 32 :: TX N a)) := hid (by rw [HS.out, hy2.out, hy1.out, htx.out, htj.out]; simp)
          clear hf ef es ltj ly1 ly2 am hlx
          go_wp2_with fail
          go_roundw
          case rel => exact ⟨q + 1, y2, by omega, by go_num, rfl, HY, LL.out, hm, hr⟩
          case measure => simp only [intOf]; omega
        · have ef : decide ((TX N j).length ≤ 4096) = false := by simpa using hf
          rw [ef] at cf
          have HF : Hid (decide ((TX N i).length ≤ 4096) = false) := hid (by have := HP.out; simp; omega)
          clear hf ef ca hlx
          go_wp2_with fail
          go_ret2
          exact ⟨_, by rw [HF.out]; rfl, hid (fun h => by have := HF.out; simp at this; omega), hm⟩
      · have e : q = kl := by omega
        subst e
        have hlt' : ¬ (q : Int) < q := by omega
        have HE : Hid (tx = hd ++ (ksF n).flatMap (fun a => 32 :: TX N a)) := hid (by have := htx.out; rw [List.take_of_length_le (by have := hkl.out; omega)] at this; exact this)
        obtain ⟨z, hz⟩ : ∃ x, Hid (x = tx ++ [41]) := ⟨_, hid rfl⟩
        have am : q * 4097 ≤ 3 * 4097 := Nat.mul_le_mul_right _ hk3
        have as1 := add_text tx [41] (by omega) (by decide)
        rw [← hz.out] at as1
        have HZ : Hid (z = TX N i) := hid (by rw [hz.out, HE.out, HT.out])
        by_cases hzl : z.length ≤ 4096
        · have hzl' : (z.length : Int) ≤ 4096 := by omega
          have HF : Hid (decide ((TX N i).length ≤ 4096) = true) := hid (by rw [← HZ.out]; simpa using hzl)
          clear hlx am htx
          go_wp2_with fail
          go_ret2
          exact ⟨_, by rw [HF.out]; rfl, hid (fun _ => by rw [HZ.out]), hm⟩
        · have hzl' : ¬ (z.length : Int) ≤ 4096 := by omega
          have HF : Hid (decide ((TX N i).length ≤ 4096) = false) := hid (by rw [← HZ.out]; simpa using hzl)
          clear hlx am htx
          go_wp2_with fail
          go_ret2
          exact ⟨_, by rw [HF.out]; rfl, hid (fun _ => by rw [HZ.out]), hm⟩
  · subst hh
    clear lt1 ldb ldw lt3
    go_enter Tryd.func23, Tryd.ntmps23
    have S0 := (bx_below w n (Below.refl _ _)).six
    obtain ⟨s0, s1, s2, s3, s4, s5⟩ := S0
    go_upto_region 12 with (first
      | (go_at_call 10; with_reducible (refine (D0.out _).mono ?_); rintro e w1 ⟨rfl, b1⟩; obtain ⟨s0, s1, s2, s3, s4, s5⟩ := (bx_below w n b1.out).six; have m1 := hid (Below.next (new_b w _) b1.out))
      | (go_at_call 50; with_reducible (refine (D3.out _).mono ?_); rintro e w4 ⟨rfl, b4⟩; have m4 := hid (Below.next m1.out b4.out)))
    have HC := hid (HAr.out w4)
    have HM := hid (Below.next m4.out (new_b w4 (.cells #[.int .i64 p0, .int .i64 p1, .int .i64 p2] 90)))
    clear s0 s1 s2 s3 s4 s5
    revert HC HM
    generalize w4.alloc (.cells #[.int .i64 p0, .int .i64 p1, .int .i64 p2] 90) = wz
    generalize w4.heap.size = A
    intro HC HM
    go_wp2_with fail
    go_loopw [8, 11] (fun s ix wr => ∃ (q : Nat) (tx : List UInt8), q ≤ kl ∧ ix = .int .i64 q ∧ s = .string ⟨tx.toArray⟩ ∧ Hid (tx = hd ++ ((ksF n).take q).flatMap (fun a => 32 :: TX N a)) ∧ tx.length ≤ 47 + q * 4097 ∧ Hid (Below w.heap.size w wr) ∧ Hid (Arr wr A (ksF n))) (fun _ ix _ => kl - (intOf ix).toNat)
    case atStart => exact ⟨0, hd, Nat.zero_le _, rfl, rfl, hid (by simp), by omega, HM, HC⟩
    case round =>
      clear HC HM
      obtain ⟨q, tx, hq, rfl, rfl, htx, hlx, hm, hr⟩ := hrel
      by_cases hlt : q < kl
      · have hlt' : (q : Int) < kl := by omega
        obtain ⟨x, hx⟩ : ∃ x, (ksF n)[q]? = some x := ⟨_, List.getElem?_eq_getElem (by rw [← hkl.out]; exact hlt)⟩
        obtain ⟨x0, x1⟩ := HK.out _ (List.mem_of_getElem? hx)
        have HP := hid (HPL.out _ (List.mem_of_getElem? hx))
        obtain ⟨j, rfl⟩ := Int.eq_ofNat_of_zero_le x0
        have hj : j < i := by omega
        have hj' : (j : Int) < i := by omega
        have hc := hr.out.at (by omega) hx
        have HS := hid (parts_step (N := N) hx)
        obtain ⟨ga, gf, rfl, rfl, ca, cf⟩ := (HA.out.below hm.out).at hj
        clear hx x0 x1
        by_cases hf : (TX N j).length ≤ 4096
        · have ef : decide ((TX N j).length ≤ 4096) = true := by simpa using hf
          rw [ef] at cf
          have es : shT N j = TX N j := by unfold shT; rw [if_pos hf]
          rw [es] at ca
          obtain ⟨tj, htj⟩ : ∃ tj, Hid (tj = TX N j) := ⟨_, hid rfl⟩
          have ltj : tj.length ≤ 4096 := by rw [htj.out]; exact hf
          rw [← htj.out] at ca
          obtain ⟨y1, hy1⟩ : ∃ x, Hid (x = tx ++ [32]) := ⟨_, hid rfl⟩
          obtain ⟨y2, hy2⟩ : ∃ x, Hid (x = y1 ++ tj) := ⟨_, hid rfl⟩
          have ly1 : y1.length = tx.length + 1 := by rw [hy1.out]; simp
          have ly2 : y2.length = y1.length + tj.length := by rw [hy2.out]; simp
          have am : q * 4097 ≤ 3 * 4097 := Nat.mul_le_mul_right _ (by omega)
          have as1 := add_text tx [32] (by omega) (by decide)
          have as2 := add_text y1 tj (by omega) (by omega)
          rw [← hy1.out] at as1
          rw [← hy2.out] at as2
          have LL : Hid (y2.length ≤ 47 + (q + 1) * 4097) := hid (by rw [Nat.add_mul]; omega)
          have HY : Hid (y2 = hd ++ ((ksF n).take (q + 1)).flatMap (fun a => 32 :: TX N a)) := hid (by rw [HS.out, hy2.out, hy1.out, htx.out, htj.out]; simp)
          clear hf ef es ltj ly1 ly2 am hlx
          go_wp2_with fail
          go_roundw
          case rel => exact ⟨q + 1, y2, by omega, by go_num, rfl, HY, LL.out, hm, hr⟩
          case measure => simp only [intOf]; omega
        · have ef : decide ((TX N j).length ≤ 4096) = false := by simpa using hf
          rw [ef] at cf
          have HF : Hid (decide ((TX N i).length ≤ 4096) = false) := hid (by have := HP.out; simp; omega)
          clear hf ef ca hlx
          go_wp2_with fail
          go_ret2
          exact ⟨_, by rw [HF.out]; rfl, hid (fun h => by have := HF.out; simp at this; omega), hm⟩
      · have e : q = kl := by omega
        subst e
        have hlt' : ¬ (q : Int) < q := by omega
        have HE : Hid (tx = hd ++ (ksF n).flatMap (fun a => 32 :: TX N a)) := hid (by have := htx.out; rw [List.take_of_length_le (by have := hkl.out; omega)] at this; exact this)
        obtain ⟨z, hz⟩ : ∃ x, Hid (x = tx ++ [41]) := ⟨_, hid rfl⟩
        have am : q * 4097 ≤ 3 * 4097 := Nat.mul_le_mul_right _ hk3
        have as1 := add_text tx [41] (by omega) (by decide)
        rw [← hz.out] at as1
        have HZ : Hid (z = TX N i) := hid (by rw [hz.out, HE.out, HT.out])
        by_cases hzl : z.length ≤ 4096
        · have hzl' : (z.length : Int) ≤ 4096 := by omega
          have HF : Hid (decide ((TX N i).length ≤ 4096) = true) := hid (by rw [← HZ.out]; simpa using hzl)
          clear hlx am htx
          go_wp2_with fail
          go_ret2
          exact ⟨_, by rw [HF.out]; rfl, hid (fun _ => by rw [HZ.out]), hm⟩
        · have hzl' : ¬ (z.length : Int) ≤ 4096 := by omega
          have HF : Hid (decide ((TX N i).length ≤ 4096) = false) := hid (by rw [← HZ.out]; simpa using hzl)
          clear hlx am htx
          go_wp2_with fail
          go_ret2
          exact ⟨_, by rw [HF.out]; rfl, hid (fun _ => by rw [HZ.out]), hm⟩

end Go.Proofs.YtefielnmlekhaaaDoor
