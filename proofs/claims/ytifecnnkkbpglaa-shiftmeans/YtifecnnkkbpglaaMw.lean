/-
  The walk of ShiftMeans.
-/
import Derived.Test.YtifecnnkkbpglaaBd
namespace Go.Proofs.Ytifecnnkkbpglaa
open Go.RowKit
set_option linter.unusedVariables false

/-- What a move tells. -/
def mO (ca cb : Int) (m : Nat) (o : Int) : Nat → Bool := mvF (o == 9) (cmF o (fun j => Wd.bitB ca j) m) (fun j => Wd.bitB ca j) m (nbN (fun j => Wd.bitB cb j) m)
theorem mean_o (m : Nat) (h1 : 1 ≤ m) (h2 : m ≤ 64) (a b : Int) (a0 : 0 ≤ a) (b0 : 0 ≤ b) (o : Int) (l : 9 ≤ o) (r : o ≤ 11) : nvF (mO a b m o) m = Wd.cutF m (opF o m a b) := by
  have e : o = 9 ∨ o = 10 ∨ o = 11 := by omega
  rcases e with rfl | rfl | rfl
  · exact mean_up m h1 h2 a b a0 b0
  · exact mean_shr m h1 h2 a b a0 b0
  · have := mean_sar m h1 h2 a b a0 b0
    unfold mO cmF opF
    simpa using this
theorem rbin_o (n : Nat) (x y : Int) (hn1 : 1 ≤ n) (hn2 : n ≤ 64) (x0 : 0 ≤ x) (x1 : x < 18446744073709551616) (y0 : 0 ≤ y) (y1 : y < 18446744073709551616) (o : Int) (l : 9 ≤ o) (r : o ≤ 11) (w : World) :
    Calls Try.prog 11 #[.int .i64 o, .int .i64 n, .int .u64 x, .int .u64 y] w fun e w' => e = .returned (.tuple #[.int .u64 (opF o n x y), .int .i64 0]) ∧ w' = w := by
  have e : o = 9 ∨ o = 10 ∨ o = 11 := by omega
  rcases e with rfl | rfl | rfl
  · exact Wd.rbinary_9 n x y w hn1 hn2 x0 x1 y0 y1
  · exact Wd.rbinary_10 n x y w hn1 hn2 x0 x1 y0 y1
  · exact Wd.rbinary_11 n x y w hn1 hn2 x0 x1 y0 y1
theorem mvB_o (o : Int) (l : 9 ≤ o) (r : o ≤ 11) : mvB o = true := by
  have e : o = 9 ∨ o = 10 ∨ o = 11 := by omega
  rcases e with rfl | rfl | rfl <;> rfl

/-! ### an array of three rows -/
theorem TR.set33 {w : World} {ao : Option Addr} {m c tb i : Nat} {xs : List Int} {v : Value} (h : TR w ao m c xs) (ht : Typ w tb 33) : TR (w.setCell ⟨tb, i, none⟩ v) ao m c xs := by
  have g := grown_set w ⟨tb, i, none⟩ v
  have ne : ∀ b, Typ w b 3 → b ≠ tb := fun b hb e => by
    subst e
    obtain ⟨c1, f1, e1⟩ := hb
    obtain ⟨c2, f2, e2⟩ := ht
    rw [e1] at e2
    cases e2
  obtain ⟨r, t⟩ := h
  refine ⟨⟨r.1, r.2.1, r.2.2.1, r.2.2.2.1, r.2.2.2.2.1, fun h0 => ?_⟩, fun h0 => ?_⟩
  · obtain ⟨b, off, e, hc⟩ := r.2.2.2.2.2 h0
    obtain ⟨b2, off2, e2, ht2, hn⟩ := t h0
    rw [e] at e2
    simp only [Option.some.injEq, Addr.mk.injEq, and_true] at e2
    obtain ⟨rfl, rfl⟩ := e2
    refine ⟨b, off, e, fun j hj => ?_⟩
    exact (World.cell?_of_block (g.block b ht2.lt (fun e => ne b ht2 (by simpa using e)))).trans (hc j hj)
  · obtain ⟨b2, off2, e2, ht2, hn⟩ := t h0
    exact ⟨b2, off2, e2, ht2.same (g.block b2 ht2.lt (fun e => ne b2 ht2 (by simpa using e))), hn⟩

theorem Sx.set33 {B : BT} {gb : Nat} {is : List Int} {n0 : Nat} {v0 : Nat → Bool} {k : Nat} {w wr : World} {n : Nat} {cs : List (List Int)} {val : Nat → Bool} (s : Sx B gb is n0 v0 k w wr n cs val) {tb i : Nat} {v : Value} (ht : Typ wr tb 33) (nb : w.heap.size ≤ tb) : Sx B gb is n0 v0 k w (wr.setCell ⟨tb, i, none⟩ v) n cs val := by
  have g := grown_set wr ⟨tb, i, none⟩ v
  refine ⟨s.lo, s.hi, s.g, s.ag, s.h.hop rfl g (fun j T hj h2 => ?_) (fun b hb => ⟨Nat.lt_of_lt_of_le (s.h.tl b hb) g.size, .inl hb⟩), s.f.put nb i v⟩
  simp only [Option.some.injEq] at hj
  subst hj
  obtain ⟨c1, f1, e1⟩ := ht
  obtain ⟨c2, f2, e2⟩ := h2
  rw [e1] at e2
  cases e2
  exact ⟨.inr (by decide), by decide, by decide⟩

/-- The rows that were told. -/
structure Ra (W : World) (tb m : Nat) (ca cb : Int) (n : Nat) (val : Nat → Bool) (k : Nat) (c : Array Value) : Prop where
  blk : W.heap[tb]? = some (.cells c 33 (0, 0))
  size : c.size = 3
  row : ∀ j : Nat, j < k → ∃ rb zs, c[j]? = some (.slice (some ⟨rb, 0, none⟩) m m) ∧ TR W (some ⟨rb, 0, none⟩) m m zs ∧ Lits n val zs m (mO ca cb m (9 + j))
theorem Ra.fg {B : BT} {W W' : World} {tb m : Nat} {ca cb : Int} {n n' : Nat} {val val' : Nat → Bool} {k : Nat} {c : Array Value} (h : Ra W tb m ca cb n val k c) (f : FG B W W') (hn : n ≤ n') (ha : ∀ i, i < n → val' i = val i) : Ra W' tb m ca cb n' val' k c :=
  ⟨(f.block tb 33 (typ_of h.blk) (by decide) (by decide)).trans h.blk, h.size, fun j hj => by
    obtain ⟨rb, zs, h1, h2, h3⟩ := h.row j hj
    exact ⟨rb, zs, h1, h2.fg f, h3.more hn ha⟩⟩
theorem Ra.below {W W' : World} {tb m : Nat} {ca cb : Int} {n : Nat} {val : Nat → Bool} {k : Nat} {c : Array Value} (h : Ra W tb m ca cb n val k c) (b : Below W.heap.size W W') : Ra W' tb m ca cb n val k c := h.fg (FG.below (B := B0) b) (Nat.le_refl _) (fun _ _ => rfl)
theorem Ra.cell {W : World} {tb m : Nat} {ca cb : Int} {n : Nat} {val : Nat → Bool} {k : Nat} {c : Array Value} (h : Ra W tb m ca cb n val k c) {j : Nat} (hj : j < 3) : ∃ z, W.cell? ⟨tb, j, none⟩ = some z := by
  have hl : j < c.size := by rw [h.size]; exact hj
  exact ⟨c[j], by rw [cell_of h.blk]; simp [hl]⟩
theorem Ra.frozen {W : World} {tb m : Nat} {ca cb : Int} {n : Nat} {val : Nat → Bool} {k : Nat} {c : Array Value} (h : Ra W tb m ca cb n val k c) (j : Nat) : W.frozen? ⟨tb, j, none⟩ = false := frozen_of h.blk
theorem Ra.get {W : World} {tb m : Nat} {ca cb : Int} {n : Nat} {val : Nat → Bool} {k : Nat} {c : Array Value} (h : Ra W tb m ca cb n val k c) {j : Nat} (hj : j < k) : ∃ rb zs, W.cell? ⟨tb, j, none⟩ = some (.slice (some ⟨rb, 0, none⟩) m m) ∧ Hid (TR W (some ⟨rb, 0, none⟩) m m zs) ∧ Hid (Lits n val zs m (mO ca cb m (9 + j))) := by
  obtain ⟨rb, zs, h1, h2, h3⟩ := h.row j hj
  exact ⟨rb, zs, by rw [cell_of h.blk]; exact h1, h2, h3⟩
theorem Ra.set {W : World} {tb m : Nat} {ca cb : Int} {n : Nat} {val : Nat → Bool} {k : Nat} {c : Array Value} (h : Ra W tb m ca cb n val k c) (hk : k < 3) {rb : Nat} {zs : List Int} (t : TR W (some ⟨rb, 0, none⟩) m m zs) (l : Lits n val zs m (mO ca cb m (9 + k))) : Ra (W.setCell ⟨tb, k, none⟩ (.slice (some ⟨rb, 0, none⟩) m m)) tb m ca cb n val (k + 1) (c.setIfInBounds k (.slice (some ⟨rb, 0, none⟩) m m)) := by
  refine ⟨set_same h.blk _, by simp [h.size], fun j hj => ?_⟩
  by_cases e : j = k
  · subst e
    exact ⟨rb, zs, by simp [h.size, hk], t.set33 (typ_of h.blk), l⟩
  · obtain ⟨rb2, zs2, h1, h2, h3⟩ := h.row j (by omega)
    refine ⟨rb2, zs2, ?_, h2.set33 (typ_of h.blk), h3⟩
    rw [Array.getElem?_setIfInBounds_ne (by omega)]
    exact h1

/-- What holds while the rows are made. -/
def LS (B : BT) (gb : Nat) (is : List Int) (n0 : Nat) (v0 : Nat → Bool) (w : World) (tb m : Nat) (ca cb : Int) (k : Nat) (W : World) : Prop :=
  ∃ n cs val c, Sx B gb is n0 v0 (11 * m * k) w W n cs val ∧ Ra W tb m ca cb n val k c
theorem LS.go {B : BT} {gb : Nat} {is : List Int} {n0 : Nat} {v0 : Nat → Bool} {w : World} {tb m : Nat} {ca cb : Int} {k : Nat} {W : World} (h : LS B gb is n0 v0 w tb m ca cb k W) : ∃ n cs val c, Hid (Sx B gb is n0 v0 (11 * m * k) w W n cs val) ∧ Hid (Ra W tb m ca cb n val k c) := h
theorem LS.mk {B : BT} {gb : Nat} {is : List Int} {n0 : Nat} {v0 : Nat → Bool} {w : World} {tb m : Nat} {ca cb : Int} {k : Nat} {W : World} {n : Nat} {cs : List (List Int)} {val : Nat → Bool} {c : Array Value} (s : Sx B gb is n0 v0 (11 * m * k) w W n cs val) (r : Ra W tb m ca cb n val k c) : LS B gb is n0 v0 w tb m ca cb k W := ⟨n, cs, val, c, s, r⟩

set_option maxRecDepth 20000 in
set_option maxHeartbeats 16000000 in
theorem means_walk (D0 : Cs) (w : World) (w0 : CsFt D0) :
    Calls Try.prog 3 #[.agg #[.int .i64 D0.W, .int .u64 D0.A, .int .u64 D0.B, .int .u64 D0.I]] w fun e w' => e = .returned (.bool true) ∧ Below w.heap.size w w' := by
  obtain ⟨cw, ca, cb, ci⟩ := D0
  obtain ⟨fw, fa, fb, fi⟩ := w0
  simp only [] at fw fa fb fi
  have bb := hid (new_a w (.cells #[.int .i64 cw, .int .u64 ca, .int .u64 cb, .int .u64 ci] 24))
  by_cases hW : 1 ≤ cw ∧ cw ≤ 40
  · obtain ⟨m, rfl⟩ : ∃ m : Nat, cw = m := ⟨cw.toNat, by omega⟩
    have m1 : 1 ≤ m := by omega
    have m40 : m ≤ 40 := by omega
    have m2 : m ≤ 64 := by omega
    have m0n : 0 < m := by omega
    have BX : Hid ((w.alloc (.cells #[.int .i64 m, .int .u64 ca, .int .u64 cb, .int .u64 ci] 24)).heap[w.heap.size]? = some (.cells #[.int .i64 m, .int .u64 ca, .int .u64 cb, .int .u64 ci] 24 (0, 0))) := hid (new_same _ _)
    clear hW fw
    go_enter Try.func3, Try.ntmps3
    go_upto_region 6 with (first
      | (go_at_call 5; with_reducible (refine (case_yes 40 _ ca cb ci _ (by omega) (by omega)).mono ?_); rintro e w3 ⟨rfl, hb3⟩; have BX := hid ((hb3.out.block _ (blk_lt BX.out)).trans BX.out); have b3 := hid (Below.next bb.out hb3.out))
      | (go_at_call 7; with_reducible (refine (new_any _).mono ?_); rintro e w4 ⟨gb, rfl, G, F⟩; have BX := hid ((F.out.block _ 24 (typ_of BX.out) (by decide) (by decide)).trans BX.out)))
    have KE : Hid (∀ W, FG ⟨w3.heap.size, fun _ => False⟩ w4 W → W.cell? ⟨w.heap.size, 0, none⟩ = some (.int .i64 m) ∧ W.cell? ⟨w.heap.size, 1, none⟩ = some (.int .u64 ca) ∧ W.cell? ⟨w.heap.size, 2, none⟩ = some (.int .u64 cb) ∧ W.cell? ⟨w.heap.size, 3, none⟩ = some (.int .u64 ci)) := hid (fun W f => by
      have h := (f.block _ 24 (typ_of BX.out) (by decide) (by decide)).trans BX.out
      exact ⟨by rw [cell_of h]; rfl, by rw [cell_of h]; rfl, by rw [cell_of h]; rfl, by rw [cell_of h]; rfl⟩)
    obtain ⟨e0, e1, e2, e3⟩ := KE.out _ (FG.refl _)
    go_upto_region 8 with (first
      | (go_at_call 8; with_reducible (refine (row_any _ Good.start G.out (by omega) m m2 ca ci fa.1 fa.2 fi.1 fi.2).mono ?_); rintro e w5 ⟨ao, c1, ho1, l1, d1, rfl, hr⟩; obtain ⟨xs, hs1, n1, cs1, val1, is1, lo1, hi1, g1, ag1, G1, F1, ta, th1, hl1, la, hh1, hcv1⟩ := hr.out.get; obtain ⟨e0, e1, e2, e3⟩ := KE.out _ F1.out; clear hr)
      | (go_at_call 8; with_reducible (refine (row_any _ g1.out G1.out (by omega) m m2 cb _ fb.1 fb.2 (Wd.bits_bd _ _ _).1 (Wd.bits_bd _ _ _).2).mono ?_); rintro e w6 ⟨bo, c2, ho2, l2, d2, rfl, hr⟩; obtain ⟨ys, hs2, n2, cs2, val2, is2, lo2, hi2, g2, ag2, G2, F2, tb, th2, hl2, lb, hh2, hcv2⟩ := hr.out.get; clear hr))
    have S0 := hid (Sx.start g2.out G2.out)
    have TA := hid (ta.out.fg F2.out)
    have TB := hid tb.out
    have LA := hid (la.out.more lo2 ag2.out)
    have LB := hid lb.out
    have TH1 := hid (th1.out.fg F2.out)
    have TH2 := hid th2.out
    have HH : Hid (∀ y ∈ hs1 ++ hs2, rng n2 y ∧ hd val2 y = true) := hid (fun y hy => by
      rcases List.mem_append.1 hy with hy | hy
      · obtain ⟨r1, r2⟩ := hh1.out y hy
        exact ⟨rng_more r1 lo2, by rw [hd_agree ag2.out r1]; exact r2⟩
      · exact hh2.out y hy)
    have HI : Hid (∀ y ∈ is2, ∃ z ∈ hs1 ++ hs2, (z / 2).toNat = (y / 2).toNat) := hid (fun y hy => by
      rcases hcv2.out y hy with hy | ⟨z, hz, e⟩
      · rcases hcv1.out y hy with hy | ⟨z, hz, e⟩
        · simp at hy
        · exact ⟨z, by simp [hz], e⟩
      · exact ⟨z, by simp [hz], e⟩)
    have FW := hid (F1.out.trans F2.out)
    have nb2 : n2 ≤ 100 := by omega
    clear ta tb th1 th2 la lb hh1 hh2 hcv1 hcv2 g1 G1 F1 g2 G2 F2 ag1 ag2 lo1 lo2 hi1 hi2 e0 e1 e2 e3
    go_upto_region 10 with fail
    have L0 : Hid (LS ⟨w3.heap.size, fun _ => False⟩ gb is2 n2 val2 w6 w6.heap.size m ca cb 0 (w6.alloc (.cells #[.slice none 0 0, .slice none 0 0, .slice none 0 0] 33))) := hid (LS.mk (S0.out.below (new_a w6 _)) ⟨new_same w6 _, rfl, fun j hj => absurd hj (Nat.not_lt_zero j)⟩)
    have NB : Hid (w6.heap.size ≤ w6.heap.size) := hid (Nat.le_refl _)
    generalize (w6.alloc (.cells #[.slice none 0 0, .slice none 0 0, .slice none 0 0] 33)) = wa at L0 ⊢
    obtain ⟨tb, htb⟩ : ∃ tb, tb = w6.heap.size := ⟨_, rfl⟩
    rw [← htb] at L0 ⊢
    have NB : Hid (w6.heap.size ≤ tb) := hid (by omega)
    clear htb
    go_loopw [9] (fun iv wr => ∃ k : Nat, k ≤ 3 ∧ ∃ o : Int, iv = .int .i64 o ∧ 9 ≤ o ∧ o ≤ 12 ∧ Hid (o = 9 + (k : Int)) ∧ Hid (LS ⟨w3.heap.size, fun _ => False⟩ gb is2 n2 val2 w6 tb m ca cb k wr)) (fun iv _ => 12 - (intOf iv).toNat)
    case atStart => exact ⟨0, by omega, 9, rfl, by omega, by omega, hid (by omega), L0⟩
    case round =>
      clear L0
      obtain ⟨k, hk, o, rfl, ol, ou, HO, hst⟩ := hrel
      obtain ⟨n3, cs3, val3, arr, s3, r3⟩ := hst.out.go
      have S := s3
      have RR := r3
      clear s3 r3 hst
      have n3b : n3 ≤ 1500 := by
        have := S.out.hi
        have : 11 * m * k ≤ 440 * 3 := Nat.mul_le_mul (by omega) hk
        omega
      by_cases hlt : k < 3
      · have hle : o ≤ 11 := by have := HO.out; omega
        have q1 : o - 9 = (k : Int) := by have := HO.out; omega
        have q2 : IntKind.i64.wrap (k : Int) = (k : Int) := IntWalk.i64_in _ (by omega)
        have q3 : (0 : Int) ≤ k := by omega
        have q4 : (k : Int) < 3 := by omega
        go_wp2_with (go_at_call 9; with_reducible (refine (move_any _ S.out.g S.out.h (by omega) o (mvB_o o ol hle) _ _ m c1 c2 xs ys (TA.out.fg S.out.f) (TB.out.fg S.out.f) _ _ (LA.out.more S.out.lo S.out.ag) (LB.out.more S.out.lo S.out.ag) m40 m0n).mono ?_); rintro e w7 ⟨rb, rfl, hr⟩; obtain ⟨n4, cs4, val4, zs, lo4, S4, ag4, F4, T4, L4⟩ := hr.out.go S.out; have R4 := hid (RR.out.fg F4.out lo4 ag4.out); obtain ⟨zc, cz⟩ := R4.out.cell hlt; have fz := R4.out.frozen k; clear hr)
        have HL : Hid (LS ⟨w3.heap.size, fun _ => False⟩ gb is2 n2 val2 w6 tb m ca cb (k + 1) (w7.setCell ⟨tb, k, none⟩ (.slice (some ⟨rb, 0, none⟩) m m))) := hid (LS.mk ((S4.out.set33 (typ_of R4.out.blk) NB.out).mono (Nat.le_of_eq (Nat.mul_succ _ _).symm)) (R4.out.set hlt T4.out (by have := L4.out; rwa [HO.out] at this)))
        go_wp2
        go_roundw
        case rel => exact ⟨k + 1, by omega, o + 1, by go_num, by omega, by have := HO.out; omega, hid (by have := HO.out; omega), HL⟩
        case measure => simp only [intOf]; omega
      · have hgt : ¬ o ≤ 11 := by have := HO.out; omega
        obtain rfl : k = 3 := by omega
        have RH1 := hid (TH1.out.fg S.out.f)
        have RH2 := hid (TH2.out.fg S.out.f)
        have HL1 : Hid (hs1.length = l1) := hid TH1.out.row.1
        have HHn : Hid (∀ y ∈ hs1 ++ hs2, rng n3 y ∧ hd val3 y = true) := hid (fun y hy => by
          obtain ⟨r1, r2⟩ := HH.out y hy
          exact ⟨rng_more r1 S.out.lo, by rw [hd_agree S.out.ag r1]; exact r2⟩)
        have FE := hid (FW.out.trans S.out.f)
        obtain ⟨lh, hlh⟩ : ∃ lh, lh = (hs1 ++ hs2).length := ⟨_, rfl⟩
        have HLH := hid hlh
        clear hlh
        go_upto_region 15 with (first
          | (at_builtin; refine append_ints rfl (.tmp 62) (.tmp 63) rfl wr.heap.size _ [] hs1 rfl (own_empty (new_same wr _) (Nat.le_refl _)) _ l1 d1 rfl ((RH1.out.below (new_a wr _)).row) (by simp; omega) (new_a wr _).size ?_; intro v8 w8 own8 hb8; have O8 : Hid (Own w8 wr.heap.size v8 hs1) := hid own8.out; have B8 := hid ((new_a wr _).trans hb8.out); clear own8 hb8)
          | (at_builtin; refine append_ints rfl (.tmp 64) (.tmp 65) rfl wr.heap.size _ hs1 hs2 rfl O8.out _ l2 d2 rfl ((RH2.out.below B8.out).row) (by rw [HL1.out]; omega) B8.out.size ?_; intro v9 w9 own9 hb9; obtain ⟨h9, c9, ev9, t9⟩ := own9.out.trow (T := fun _ => False) (fun b hb => hb.elim); rw [← HLH.out] at ev9 t9; subst ev9; have T9 : Hid (TR w9 h9 lh c9 (hs1 ++ hs2)) := hid t9; have B9 := hid (B8.out.trans hb9.out); clear own9 hb9 t9)
          | (go_at_call 10; with_reducible (refine (close_any _ S.out.g (S.out.h.below B9.out) (by omega) h9 lh c9 (hs1 ++ hs2) T9.out HHn.out HI.out).mono ?_); rintro e w11 ⟨kb, ib, rfl, hv, hb⟩; have B10 := hid (Below.next B9.out hb.out)))
        have b11 := new_a w11 (.cells #[.slice (some ⟨kb, 0, none⟩) n3 n3, .slice (some ⟨ib, 0, none⟩) n3 n3] 37)
        obtain ⟨d0, d1⟩ := box_cells w11 (.slice (some ⟨kb, 0, none⟩) n3 n3) (.slice (some ⟨ib, 0, none⟩) n3 n3)
        have HV := hid (hv.out.keep b11)
        have B11 := hid (Below.next B10.out b11)
        generalize (w11.alloc (.cells #[.slice (some ⟨kb, 0, none⟩) n3 n3, .slice (some ⟨ib, 0, none⟩) n3 n3] 37)) = wz at d0 d1 HV B11 ⊢
        generalize w11.heap.size = vb at d0 d1 ⊢
        have EE := KE.out _ (FE.out.trans (FG.below B11.out))
        have EV : Hid (∀ W, Below wz.heap.size wz W → (W.cell? ⟨w.heap.size, 0, none⟩ = some (.int .i64 m) ∧ W.cell? ⟨w.heap.size, 1, none⟩ = some (.int .u64 ca) ∧ W.cell? ⟨w.heap.size, 2, none⟩ = some (.int .u64 cb) ∧ W.cell? ⟨w.heap.size, 3, none⟩ = some (.int .u64 ci)) ∧ W.cell? ⟨vb, 0, none⟩ = some (.slice (some ⟨kb, 0, none⟩) n3 n3) ∧ W.cell? ⟨vb, 1, none⟩ = some (.slice (some ⟨ib, 0, none⟩) n3 n3)) := hid (fun W b => by
          obtain ⟨q0, q1, q2, q3⟩ := EE
          exact ⟨⟨(b.cell (cell_lt q0)).trans q0, (b.cell (cell_lt q1)).trans q1, (b.cell (cell_lt q2)).trans q2, (b.cell (cell_lt q3)).trans q3⟩, (b.cell (cell_lt d0)).trans d0, (b.cell (cell_lt d1)).trans d1⟩)
        have RZ := hid (RR.out.below B11.out)
        have BE := hid (Below.refl wz.heap.size wz)
        have BZ : Hid (Below w.heap.size w wz) := hid (Below.next (b3.out.trans (((F.out.trans FE.out).be rfl (Below.refl _ _)).mono b3.out.size)) B11.out)
        have nb : n3 ≤ 10000 := by omega
        clear EE b11 hb hv B8 B9 B10 T9 O8 RH1 RH2 HHn HO d0 d1 ol ou hgt hk hlt
        go_wp2
        go_loopw [13, 14, 15] (fun iv _ _ wr => ∃ k : Nat, k ≤ 3 ∧ ∃ o : Int, iv = .int .i64 o ∧ 9 ≤ o ∧ o ≤ 12 ∧ Hid (o = 9 + (k : Int)) ∧ Hid (Below wz.heap.size wz wr)) (fun iv _ _ _ => 12 - (intOf iv).toNat)
        case atStart => exact ⟨0, by omega, 9, rfl, by omega, by omega, hid (by omega), BE⟩
        case round =>
          clear BE
          obtain ⟨k, hk, o, rfl, ol, ou, HO, BE⟩ := hrel
          obtain ⟨⟨e0, e1, e2, e3⟩, d0, d1⟩ := EV.out _ BE.out
          by_cases hlt : k < 3
          · have hle : o ≤ 11 := by have := HO.out; omega
            have q1 : o - 9 = (k : Int) := by have := HO.out; omega
            have q2 : IntKind.i64.wrap (k : Int) = (k : Int) := IntWalk.i64_in _ (by omega)
            have q3 : (0 : Int) ≤ k := by omega
            have q4 : (k : Int) < 3 := by omega
            obtain ⟨rb, zs, ck, TK, LK⟩ := RZ.out.get hlt
            have KK : Hid (∀ W, Below wz.heap.size wz W → W.cell? ⟨vb, 0, none⟩ = some (.slice (some ⟨kb, 0, none⟩) n3 n3) ∧ W.cell? ⟨vb, 1, none⟩ = some (.slice (some ⟨ib, 0, none⟩) n3 n3) ∧ W.cell? ⟨tb, k, none⟩ = some (.slice (some ⟨rb, 0, none⟩) m m) ∧ W.cell? ⟨w.heap.size, 0, none⟩ = some (.int .i64 m)) := hid (fun W b => by
              obtain ⟨⟨p0, p1, p2, p3⟩, p4, p5⟩ := EV.out _ b
              exact ⟨p4, p5, (b.cell (cell_lt ck)).trans ck, p0⟩)
            clear ck d0 d1
            have M1 : Hid (nvF (mO ca cb m (9 + (k : Int))) m = Wd.cutF m (opF o m ca cb)) := hid (by rw [← HO.out]; exact mean_o m m1 m2 ca cb fa.1 fb.1 o ol hle)
            go_wp2_with (go_at_call 11; with_reducible (refine (rbin_o m ca cb m1 m2 fa.1 fa.2 fb.1 fb.2 o ol hle _).mono ?_); rintro e wx ⟨rfl, hwx⟩; subst wx)
            go_region_held3 (fun W => W.cell? ⟨vb, 0, none⟩ = some (.slice (some ⟨kb, 0, none⟩) n3 n3) ∧ W.cell? ⟨vb, 1, none⟩ = some (.slice (some ⟨ib, 0, none⟩) n3 n3) ∧ W.cell? ⟨tb, k, none⟩ = some (.slice (some ⟨rb, 0, none⟩) m m) ∧ W.cell? ⟨w.heap.size, 0, none⟩ = some (.int .i64 m)) (first
              | exact KK.out _ BE.out.drew
              | exact KK.out _ BE2.out) (first
              | (go_at_call 12; with_reducible (refine (is_any _ kb ib n3 val3 ((HV.out.keep BE.out).keep (below_drew _)) nb _ m _ _ ((TK.out.below BE.out).below (below_drew _)) _ LK.out m2 _ (op_bd o m ca cb).1 (op_bd o m ca cb).2 M1.out).mono ?_); rintro e wx ⟨rfl, hb⟩; have BE2 := hid (Below.next BE.out.drew hb.out)))
            all_goals go_wp2
            all_goals go_roundw
            case rel => exact ⟨k + 1, by omega, o + 1, by go_num, by omega, by have := HO.out; omega, hid (by have := HO.out; omega), BE2⟩
            case measure => simp only [intOf]; omega
          · have hgt : ¬ o ≤ 11 := by have := HO.out; omega
            go_wp2_with (go_at_call 6; with_reducible (refine (awake_any _).mono ?_); rintro e wx ⟨rfl, hb⟩; have BE := hid (Below.next BE.out hb.out))
            go_ret
            exact ⟨rfl, Below.next BZ.out BE.out⟩
  · have HW := hid hW
    clear hW
    go_enter Try.func3, Try.ntmps3
    go_wp2_with (first
      | (go_at_call 5; with_reducible (refine (case_no 40 _ ca cb ci _ HW.out).mono ?_); rintro e w3 ⟨rfl, hb3⟩; have bb := hid (Below.next bb.out hb3.out))
      | (go_at_call 6; with_reducible (refine (awake_any _).mono ?_); rintro e w4 ⟨rfl, hb⟩; have bb := hid (Below.next bb.out hb.out)))
    go_ret
    exact ⟨rfl, bb.out⟩

end Go.Proofs.Ytifecnnkkbpglaa
