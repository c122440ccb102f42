/-
  The walk of GateMeans.
-/
import Derived.Test.YthdiajdphnjdoaaMe
namespace Go.Proofs.Ythdiajdphnjdoaa
open Go.RowKit
set_option linter.unusedVariables false

/-- A deed's kind, from 0 to 6. -/
theorem kind_of (kd : Int) : ∃ m kk : Int, kd.tmod 7 = m ∧ -6 ≤ m ∧ m ≤ 6 ∧ (m + 7).tmod 7 = kk ∧ (m + 7) % 7 = kk ∧ 0 ≤ kk ∧ kk ≤ 6 := by
  have h1 : -6 ≤ kd.tmod 7 ∧ kd.tmod 7 ≤ 6 := by
    have a := Int.tmod_lt_of_pos kd (b := 7) (by omega)
    have b := Int.lt_tmod_of_pos kd (b := 7) (by omega)
    omega
  refine ⟨kd.tmod 7, (kd.tmod 7 + 7) % 7, rfl, h1.1, h1.2, ?_, rfl, by omega, by omega⟩
  exact Int.tmod_eq_emod_of_nonneg (by omega)

theorem Args.keep {w w' : World} {ao : Option Addr} {m : Nat} {rs : List Ar} (h : Args w ao m rs) (be : Below w.heap.size w w') : Args w' ao m rs := by
  refine ⟨h.1, fun h0 => ?_⟩
  obtain ⟨b, off, e, hc⟩ := h.2 h0
  refine ⟨b, off, e, fun j r hr => ?_⟩
  obtain ⟨c0, c1, c2, c3⟩ := hc j r hr
  exact ⟨(be.cell (cell_lt c0)).trans c0, (be.cell (cell_lt c1)).trans c1, (be.cell (cell_lt c2)).trans c2, (be.cell (cell_lt c3)).trans c3⟩

/-- The truths: whether the input of that number is to be false. -/
def trF (len : Nat) (z : Nat → Bool) (j : Nat) : Bool := decide (j < len) && z j

theorem LS.start (w w3 : World) (gb : Nat) (tr : Nat → Bool) (G : Gt ⟨w.heap.size, fun _ => False⟩ gb w3 1 [[0]]) (F : FG ⟨w.heap.size, fun _ => False⟩ w w3) :
    LS w gb tr w3 (.slice none 0 0) (.slice none 0 0) (.slice none 0 0) [] [] [] 1 [[0]] (fun _ => true) := by
  refine ⟨Good.start, G.hop rfl (World.grownBy.refl _ none) (fun j T hj => by cases hj) (fun j hj => by simp [tOf2, Value.ownBlock] at hj), Own.nil _ _, Own.nil _ _, World.ownsRow_nil _ _ _ _, fun j hj => by simp [Value.ownBlock] at hj, rfl, fun j x r hx => by simp at hx, fun x hx => by simp at hx, fun j x hx => by simp at hx, F.be rfl (Below.refl _ _)⟩

theorem lit_eq {f : FuncId} {args : Array Value} {w : World} {b y : Int} {R : World → Prop} (hy : y = b) (h : Calls Try.prog f args w fun e w' => e = .returned (.int .i64 b) ∧ R w') : Calls Try.prog f args w fun e w' => e = .returned (.int .i64 y) ∧ R w' := by
  rw [hy]; exact h

theorem GEnd.got {B : BT} {gb n : Nat} {cs : List (List Int)} {val : Nat → Bool} {is : List Int} {r : Bool} {w w' : World} {y : Int} (h : GEnd B gb n cs val is r w w' y) :
    ∃ (n' : Nat) (cs' : List (List Int)) (val' : Nat → Bool), Hid (More n cs val is n' cs' val') ∧ Hid (Gt B gb w' n' cs') ∧ Hid (rng n' y) ∧ Hid (hd val' y = r) ∧ Hid (FG B w w') := by
  obtain ⟨n', cs', val', h1, h2, h3, h4, h5⟩ := h
  exact ⟨n', cs', val', h1, h2, h3, h4, h5⟩

theorem y_of {n : Nat} {y : Int} (h : y = 2 * (n : Int)) : rng (n + 1) y := by rw [h]; exact y_rng n

theorem says_in {n : Nat} {val : Nat → Bool} {x : Int} (a b c : Int) (h : rng n x) : Says n val x ⟨0, a, b, c⟩ :=
  ⟨h, (fun e => by simp at e), (fun e => by simp at e)⟩

theorem says_yes {n : Nat} {cs : List (List Int)} {val : Nat → Bool} {is : List Int} (a b c : Int) (g : Good n cs val is) : Says n val 0 ⟨6, a, b, c⟩ :=
  ⟨rng_zero g.pos, (fun _ => hd_zero g), (fun e => by simp at e)⟩

theorem says_gate {n n' : Nat} {cs cs' : List (List Int)} {val val' : Nat → Bool} {is : List Int} {k a b c y : Int} (m : More n cs val is n' cs' val') (hy : rng n' y) (h : hd val' y = sF k (hd val a) (hd val b) (hv val c))
    (ha : rng n a) (hb : rng n b) (hc : rng n c ∨ c < 0) (h6 : k ≠ 6) : Says n' val' y ⟨k, a, b, c⟩ :=
  ⟨hy, (fun e => absurd e h6), (fun _ => ⟨rng_more ha m.lo, rng_more hb m.lo, or_map hc (fun q => rng_more q m.lo) id, by
    show hd val' y = _
    rw [h, hd_agree m.agree ha, hd_agree m.agree hb, hv_agree m.agree hc]⟩)⟩

theorem inp_end {wB wr w2 w3 : World} {gb : Nat} {tr : Nat → Bool} {tv iv av iv' : Value} {ts is : List Int} {rs : List Ar} {n : Nat} {cs : List (List Int)} {val : Nat → Bool} {y : Int} (s : LS wB gb tr wr tv iv av ts is rs n cs val) (hn : n ≤ 1000) (hy : y = 2 * (n : Int))
    (h : Gt ⟨wB.heap.size, tOf2 tv iv⟩ gb w2 (n + 1) cs) (f : FG ⟨wB.heap.size, tOf2 tv iv⟩ wr w2)
    (own : w3.ownsRow wB.heap.size 3 1 iv' (is.length + 1) (is.map (Value.int .i64) ++ [.int .i64 y])) (gr : w2.grownBy w3 iv.ownBlock) (ls : Lies w2 iv iv') :
    LS wB gb tr w3 tv iv' av ts (is ++ [y]) rs (n + 1) cs (upV val n (!tr is.length)) := by
  subst hy; exact s.input hn h f own gr ls

theorem args_ne {wB wr : World} {gb : Nat} {tr : Nat → Bool} {tv iv av : Value} {ts is : List Int} {rs : List Ar} {n : Nat} {cs : List (List Int)} {val : Nat → Bool} (s : LS wB gb tr wr tv iv av ts is rs n cs val) : ∀ j, av.ownBlock = some j → tv.ownBlock ≠ some j := by
  intro j hj e
  have := (own_typ34 s.oa hj).one (s.ot.typ e)
  exact absurd this (by decide)

set_option maxRecDepth 20000 in
set_option maxHeartbeats 16000000 in
theorem means_walk (a0 : Option Addr) (len0 cap0 : Nat) (D0 : Nat → Dd) (a1 : Option Addr) (len1 cap1 : Nat) (z1 : Nat → Bool) (w : World) (w0 : Deeds w a0 len0 D0) (w1 : IsBools w a1 len1 cap1 z1) :
    Calls Try.prog 3 #[.slice a0 len0 cap0, .slice a1 len1 cap1] w fun e w' => e = .returned (.bool true) ∧ Below w.heap.size w w' := by
  by_cases hl : len0 ≤ 80 ∧ len1 ≤ 200
  · have hl0 : ¬ (80 : Int) < len0 := by omega
    have hl1 : ¬ (200 : Int) < len1 := by omega
    have L0 := hid hl.1
    have L1 := hid hl.2
    have HD := hid w0
    have HB := hid w1
    clear hl w0 w1
    go_enter Try.func3, Try.ntmps3
    go_wp2_with (go_at_call 7; with_reducible (refine (new_any _).mono ?_); rintro e w3 ⟨gb, rfl, G, F⟩)
    have HS : Hid (∃ ts is rs n cs val, LS w gb (trF len1 z1) w3 (.slice none 0 0) (.slice none 0 0) (.slice none 0 0) ts is rs n cs val ∧ n ≤ 1 + 0 ∧ ts.length ≤ 0 ∧ is.length ≤ 0) := hid ⟨[], [], [], 1, _, _, LS.start w w3 gb _ G.out F.out, by omega, by simp, by simp⟩
    clear G F
    go_wp2
    go_loopw [6, 7, 8, 9] (fun t i a ix wr => ∃ q : Nat, q ≤ len0 ∧ ix = .int .i64 q ∧ Hid (∃ ts is rs n cs val, LS w gb (trF len1 z1) wr t i a ts is rs n cs val ∧ n ≤ 1 + q ∧ ts.length ≤ q ∧ is.length ≤ q)) (fun _ _ _ ix _ => len0 - (intOf ix).toNat)
    case atStart => exact ⟨0, Nat.zero_le _, rfl, HS⟩
    case round =>
      clear HS
      obtain ⟨q, hq, rfl, hst⟩ := hrel
      obtain ⟨ts, is, rs, n, cs, val, ls, hn, htl, hil⟩ := hst.out
      have LSH := hid ls
      have HN := hid hn
      have HTL := hid htl
      have HIL := hid hil
      obtain ⟨ta, tn, tc, rfl, trow⟩ := ls.ot.shape
      obtain ⟨ia, ni, ic, rfl, irow⟩ := ls.oi.shape
      obtain ⟨aa, ac, rfl, hargs⟩ := args_of ls.oa
      clear hn htl hil hst
      by_cases hlt : q < len0
      · have hlt' : (q : Int) < len0 := by omega
        have q0 : (0 : Int) ≤ q := by omega
        obtain ⟨b, off, rfl, fd, c0, c1, c2, c3⟩ := HD.out.at ls.be hlt
        generalize D0 q = dq at fd c0 c1 c2 c3
        obtain ⟨kd, da, db, dc⟩ := dq
        simp only [] at c0 c1 c2 c3 fd
        obtain ⟨m, kk, k1, k2, k3, k4, k5, k6, k7⟩ := kind_of kd
        have FDA := hid fd.a
        have FDB := hid fd.b
        have FDC := hid fd.c
        have s2 := hid (ls.below (new_a wr (.cells #[.int .i64 kd, .int .i64 da, .int .i64 db, .int .i64 dc] 30)))
        have BX : Hid ((wr.alloc (.cells #[.int .i64 kd, .int .i64 da, .int .i64 db, .int .i64 dc] 30)).heap[wr.heap.size]? = some (.cells #[.int .i64 kd, .int .i64 da, .int .i64 db, .int .i64 dc] 30 (0, 0))) := hid (new_same _ _)
        have TR := hid (trow.out.keep (new_a wr (.cells #[.int .i64 kd, .int .i64 da, .int .i64 db, .int .i64 dc] 30)))
        clear fd ls trow irow hargs
        go_upto_region 13 with fail
        generalize (wr.alloc (.cells #[.int .i64 kd, .int .i64 da, .int .i64 db, .int .i64 dc] 30)) = wz at s2 BX TR ⊢
        generalize wr.heap.size = xb at BX ⊢
        have e1 : wz.cell? ⟨xb, 1, none⟩ = some (.int .i64 da) := by rw [cell_of BX.out]; rfl
        have e2 : wz.cell? ⟨xb, 2, none⟩ = some (.int .i64 db) := by rw [cell_of BX.out]; rfl
        have e3 : wz.cell? ⟨xb, 3, none⟩ = some (.int .i64 dc) := by rw [cell_of BX.out]; rfl
        obtain ⟨la, hla⟩ : ∃ x, x = litF ts da := ⟨_, rfl⟩
        obtain ⟨lb, hlb⟩ : ∃ x, x = litF ts db := ⟨_, rfl⟩
        obtain ⟨lc, hlc⟩ : ∃ x, x = litF ts dc := ⟨_, rfl⟩
        have LA1 := hid hla
        have LB1 := hid hlb
        have LC1 := hid hlc
        have PA := hid (litF_at (n := da) s2.out.rt)
        have PB := hid (litF_at (n := db) s2.out.rt)
        have PC := hid (litF_at (n := dc) s2.out.rt)
        rw [← hla] at PA
        rw [← hlb] at PB
        rw [← hlc] at PC
        have X1 := BW.cell e1
        have X2 := BW.cell e2
        have X3 := BW.cell e3
        have TLN := hid TR.out.1
        clear hla hlb hlc k1 k2 k3 k4 k5 c0 c1 c2 c3 e1 e2 e3
        haveI : Inhabited (BW wz) := ⟨⟨wz, Below.refl _ _⟩⟩
        refine wp_region_below (by kernel_rfl) (by kernel_rfl) ?_
        repeat (go_big_quiet_step (first
          | (go_at_call 8; with_reducible exact bw_same (lit_eq LA1.out (lit_any _ _ _ _ ts (TR.out.keep (BW.be _)) da FDA.out.1 FDA.out.2)))
          | (go_at_call 8; with_reducible exact bw_same (lit_eq LB1.out (lit_any _ _ _ _ ts (TR.out.keep (BW.be _)) db FDB.out.1 FDB.out.2)))
          | (go_at_call 8; with_reducible exact bw_same (lit_eq LC1.out (lit_any _ _ _ _ ts (TR.out.keep (BW.be _)) dc FDC.out.1 FDC.out.2)))
          | fail))
        refine wpQuiet_nil ?_
        intro _ hw
        obtain ⟨p, hw2⟩ := hw
        subst hw2
        have S4 := hid (s2.out.below p.be)
        generalize p.w = w4 at S4 ⊢
        clear X1 X2 X3 s2 BX TR p FDA FDB FDC LA1 LB1 LC1
        by_cases hk0 : kk = 0
        · subst hk0
          obtain ⟨y, hy⟩ : ∃ y, y = 2 * (n : Int) := ⟨_, rfl⟩
          have HY := hid hy
          have HN5 : Hid (n + 1 ≤ 1 + (q + 1)) := hid (by have := HN.out; omega)
          have HIL5 : Hid ((is ++ [y]).length ≤ q + 1) := hid (by have := HIL.out; simp; omega)
          clear hy
          go_wp2_with (first
            | (go_at_call 9; with_reducible (refine (true_any gb _).mono ?_); rintro e w4 ⟨rfl, rfl⟩)
            | (go_at_call 10; with_reducible (refine (input_gt _ S4.out.h (by have := HN.out; have := L0.out; omega) y HY.out).mono ?_); rintro e w5 ⟨rfl, G5, F5⟩; have oi5 := hid (S4.out.oi.fg F5.out); have sz5 := hid (Nat.le_trans S4.out.be.size F5.out.size))
            | (at_builtin; refine wpList_app rfl _ _ 27 3 rfl Try.underlying27 (.int .i64 0) 1 8 rfl (by decide) Try.info3 (by decide) [.int .i64 y] rfl rfl (ints_one [y]) w.heap.size is.length _ _ rfl oi5.out.1 rfl (Nat.le_trans HIL.out (by have := L0.out; omega)) sz5.out ?_; intro iv6 wi own8 g8 l8; have S5 := hid (inp_end S4.out (by have := HN.out; have := L0.out; omega) HY.out G5.out F5.out own8.out g8.out l8.out); have SY5 := hid (says_in (val := upV val n (!(trF len1 z1) is.length)) la lb lc (y_of HY.out)); clear own8 g8 l8 G5 F5 oi5)
            | (at_builtin; refine wpList_app rfl _ _ 27 3 rfl Try.underlying27 (.int .i64 0) 1 8 rfl (by decide) Try.info3 (by decide) [.int .i64 y] rfl rfl (ints_one [y]) w.heap.size ts.length _ _ rfl S5.out.ot.1 rfl (Nat.le_trans HTL.out (by have := L0.out; omega)) S5.out.be.size ?_; intro v6 w6 own6 g6 l6; have oa6 := hid (own_keep2 S5.out.oa g6.out (args_ne S5.out)); have sz6 := hid (Nat.le_trans S5.out.be.size g6.out.size))
            | (at_builtin; refine wpList_app rfl _ _ 28 34 rfl Try.underlying28 (.agg #[.int .i64 0, .int .i64 0, .int .i64 0, .int .i64 0]) 4 32 rfl (by decide) Try.info34 (by decide) (arV ⟨0, la, lb, lc⟩) rfl rfl (arV_one _) w.heap.size rs.length _ _ rfl oa6.out rfl (Nat.le_trans (Nat.le_of_eq S5.out.ln.symm) (Nat.le_trans HTL.out (by have := L0.out; omega))) sz6.out ?_; intro v7 w7 own7 g7 l7))
          have SN := hid (LS.tell (x := y) (r := ⟨0, la, lb, lc⟩) S5.out (by have := HN5.out; have := L0.out; omega) SY5.out own6.out g6.out l6.out own7.out g7.out)
          clear own6 g6 l6 own7 g7 l7 oa6
          go_roundw
          case rel => exact ⟨q + 1, by omega, by go_num, hid ⟨_, _, _, _, _, _, SN.out, by have := HN5.out; omega, by have := HTL.out; simp; omega, by have := HIL5.out; omega⟩⟩
          case measure => simp only [intOf]; omega
        by_cases hk6 : kk = 6
        · subst hk6
          have HN5 : Hid (n ≤ 1 + (q + 1)) := hid (by have := HN.out; omega)
          have HIL5 : Hid (is.length ≤ q + 1) := hid (by have := HIL.out; omega)
          have S5 := S4
          have SY5 := hid (says_yes la lb lc S4.out.g)
          go_wp2_with (first
            | (go_at_call 9; with_reducible (refine (true_any gb _).mono ?_); rintro e w4 ⟨rfl, rfl⟩)
            | (at_builtin; refine wpList_app rfl _ _ 27 3 rfl Try.underlying27 (.int .i64 0) 1 8 rfl (by decide) Try.info3 (by decide) [.int .i64 0] rfl rfl (ints_one [0]) w.heap.size ts.length _ _ rfl S5.out.ot.1 rfl (Nat.le_trans HTL.out (by have := L0.out; omega)) S5.out.be.size ?_; intro v6 w6 own6 g6 l6; have oa6 := hid (own_keep2 S5.out.oa g6.out (args_ne S5.out)); have sz6 := hid (Nat.le_trans S5.out.be.size g6.out.size))
            | (at_builtin; refine wpList_app rfl _ _ 28 34 rfl Try.underlying28 (.agg #[.int .i64 0, .int .i64 0, .int .i64 0, .int .i64 0]) 4 32 rfl (by decide) Try.info34 (by decide) (arV ⟨6, la, lb, lc⟩) rfl rfl (arV_one _) w.heap.size rs.length _ _ rfl oa6.out rfl (Nat.le_trans (Nat.le_of_eq S5.out.ln.symm) (Nat.le_trans HTL.out (by have := L0.out; omega))) sz6.out ?_; intro v7 w7 own7 g7 l7))
          have SN := hid (LS.tell (x := 0) (r := ⟨6, la, lb, lc⟩) S5.out (by have := HN5.out; have := L0.out; omega) SY5.out own6.out g6.out l6.out own7.out g7.out)
          clear own6 g6 l6 own7 g7 l7 oa6
          go_roundw
          case rel => exact ⟨q + 1, by omega, by go_num, hid ⟨_, _, _, _, _, _, SN.out, by have := HN5.out; omega, by have := HTL.out; simp; omega, by have := HIL5.out; omega⟩⟩
          case measure => simp only [intOf]; omega
        have p1 : (0 : Int) < kk := by omega
        have p2 : kk < 6 := by omega
        have p3 : (kk == 0) = false := by simpa using hk0
        by_cases ht0 : tn = 0
        · have t0 : ((tn : Int) == 0) = true := by simpa using ht0
          go_wp2
          go_roundw
          case rel => exact ⟨q + 1, by omega, by go_num, hid ⟨ts, is, rs, n, cs, val, S4.out, by have := HN.out; omega, by have := HTL.out; omega, by have := HIL.out; omega⟩⟩
          case measure => simp only [intOf]; omega
        have t0 : ((tn : Int) == 0) = false := by simpa using ht0
        by_cases ha0 : la < 0
        · go_wp2
          go_roundw
          case rel => exact ⟨q + 1, by omega, by go_num, hid ⟨ts, is, rs, n, cs, val, S4.out, by have := HN.out; omega, by have := HTL.out; omega, by have := HIL.out; omega⟩⟩
          case measure => simp only [intOf]; omega
        by_cases hb0 : lb < 0
        · go_wp2
          go_roundw
          case rel => exact ⟨q + 1, by omega, by go_num, hid ⟨ts, is, rs, n, cs, val, S4.out, by have := HN.out; omega, by have := HTL.out; omega, by have := HIL.out; omega⟩⟩
          case measure => simp only [intOf]; omega
        by_cases hc3 : 3 < kk ∧ lc < 0
        · have c31 : 3 < kk := hc3.1
          have c32 : lc < 0 := hc3.2
          go_wp2
          go_roundw
          case rel => exact ⟨q + 1, by omega, by go_num, hid ⟨ts, is, rs, n, cs, val, S4.out, by have := HN.out; omega, by have := HTL.out; omega, by have := HIL.out; omega⟩⟩
          case measure => simp only [intOf]; omega
        have tne : ¬ ts.length = 0 := by have := TLN.out; omega
        have RA : Hid (rng n la) := hid (PA.out.resolve_right (fun h => by have := h.1; omega))
        have RB : Hid (rng n lb) := hid (PB.out.resolve_right (fun h => by have := h.1; omega))
        have RC : Hid (3 < kk → rng n lc) := hid (fun h3 => PC.out.resolve_right (fun h => by have := h.1; omega))
        have RC2 : Hid (rng n lc ∨ lc < 0) := hid (or_map PC.out id (fun h => by have := h.1; omega))
        have KK1 : Hid (1 ≤ kk ∧ kk ≤ 5) := hid (by omega)
        have hc4 : decide (3 < kk) = false ∨ (decide (3 < kk) = true ∧ decide (lc < 0) = false) := by
          by_cases h3 : 3 < kk
          · exact .inr ⟨by simpa using h3, by simp; omega⟩
          · exact .inl (by simpa using h3)
        have a0' : decide (la < 0) = false := by simpa using ha0
        have b0' : decide (lb < 0) = false := by simpa using hb0
        clear ha0 hb0 hc3 ht0 tne hk0 hk6
        rcases hc4 with h4 | ⟨h4, h5⟩
        all_goals go_wp2_with (first
          | (go_at_call 9; with_reducible (refine (true_any gb _).mono ?_); rintro e w4 ⟨rfl, rfl⟩)
          | (go_at_call 11; with_reducible (refine (ask_any _ S4.out.g S4.out.h (by have := HN.out; have := L0.out; omega) kk la lb lc KK1.out.1 KK1.out.2 RA.out RB.out RC.out).mono ?_); rintro e w5 ⟨y, rfl, hend⟩; obtain ⟨n5, cs5, v5, m5, G5, RY, HY, F5⟩ := hend.out.got; have S5 := hid (S4.out.gate m5.out G5.out F5.out); have SY5 := hid (says_gate m5.out RY.out HY.out RA.out RB.out RC2.out (by have := KK1.out; omega)); have HN5 : Hid (n5 ≤ 1 + (q + 1)) := hid (by have := HN.out; have := m5.out.hi; omega); have HIL5 : Hid (is.length ≤ q + 1) := hid (by have := HIL.out; omega); clear G5 F5 hend)
          | (at_builtin; refine wpList_app rfl _ _ 27 3 rfl Try.underlying27 (.int .i64 0) 1 8 rfl (by decide) Try.info3 (by decide) [.int .i64 y] rfl rfl (ints_one [y]) w.heap.size ts.length _ _ rfl S5.out.ot.1 rfl (Nat.le_trans HTL.out (by have := L0.out; omega)) S5.out.be.size ?_; intro v6 w6 own6 g6 l6; have oa6 := hid (own_keep2 S5.out.oa g6.out (args_ne S5.out)); have sz6 := hid (Nat.le_trans S5.out.be.size g6.out.size))
          | (at_builtin; refine wpList_app rfl _ _ 28 34 rfl Try.underlying28 (.agg #[.int .i64 0, .int .i64 0, .int .i64 0, .int .i64 0]) 4 32 rfl (by decide) Try.info34 (by decide) (arV ⟨kk, la, lb, lc⟩) rfl rfl (arV_one _) w.heap.size rs.length _ _ rfl oa6.out rfl (Nat.le_trans (Nat.le_of_eq S5.out.ln.symm) (Nat.le_trans HTL.out (by have := L0.out; omega))) sz6.out ?_; intro v7 w7 own7 g7 l7))
        all_goals have SN := hid (LS.tell (x := y) (r := ⟨kk, la, lb, lc⟩) S5.out (by have := HN5.out; have := L0.out; omega) SY5.out own6.out g6.out l6.out own7.out g7.out)
        all_goals clear own6 g6 l6 own7 g7 l7 oa6
        all_goals go_roundw
        all_goals first
          | (simp only [intOf]; omega)
          | exact ⟨q + 1, by omega, by go_num, hid ⟨_, _, _, _, _, _, SN.out, by have := HN5.out; omega, by have := HTL.out; simp; omega, by have := HIL5.out; omega⟩⟩
      · obtain ⟨wS, hS⟩ : ∃ W, W = wr := ⟨_, rfl⟩
        subst hS
        have etn : tn = rs.length := by rw [← trow.out.1, ls.ln]
        subst etn
        have hrl := hid (show rs.length ≤ 100000 by rw [← ls.ln]; have := HTL.out; have := L0.out; omega)
        have hilc := hid (show is.length ≤ 100000 by have := HIL.out; have := L0.out; omega)
        have irm := irow.out.max
        have HAR := hid hargs
        have hb0 := hid (Below.refl wS.heap.size wS)
        have ho0 : Hid (Own wS wS.heap.size (.slice none 0 0) (holdL (trF len1 z1) is 0)) := hid (by have := Own.nil wS wS.heap.size; simpa [holdL] using this)
        clear ls hargs
        go_wp2
        go_loopw [16, 17, 18] (fun hv i _ wx => ∃ q2 : Nat, q2 ≤ ni ∧ i = .int .i64 q2 ∧ Hid (Own wx wS.heap.size hv (holdL (trF len1 z1) is q2)) ∧ Hid (Below wS.heap.size wS wx)) (fun _ i _ _ => ni - (intOf i).toNat)
        case atStart => exact ⟨0, Nat.zero_le _, rfl, ho0, hb0⟩
        case round =>
          clear ho0 hb0
          obtain ⟨q2, hq2, rfl, hown, hbl⟩ := hrel
          by_cases hlt2 : q2 < ni
          · have hlt3 : (q2 : Int) < ni := by omega
            have q20 : (0 : Int) ≤ q2 := by omega
            obtain ⟨x, hx⟩ : ∃ x, is[q2]? = some x := ⟨is[q2]'(by rw [irow.out.1]; exact hlt2), by simp⟩
            obtain ⟨b, off, rfl, hc, _⟩ := (irow.out.keep hbl.out).two hlt2 hlt2 hx hx
            have hrx := LSH.out.g.inp x (List.mem_of_getElem? hx)
            have x1 := (rng_fit hrx (show n ≤ 10000 by have := HN.out; have := L0.out; omega)).2
            have HX := hid (hold_next (tr := trF len1 z1) hx)
            have FX := hid (rng_fit (rng_not hrx) (show n ≤ 10000 by have := HN.out; have := L0.out; omega))
            have FY := hid (rng_fit hrx (show n ≤ 10000 by have := HN.out; have := L0.out; omega))
            have hln := hid (show (holdL (trF len1 z1) is q2).length + 1 ≤ 1000000 by have := hold_len (trF len1 z1) is q2; have := hilc.out; omega)
            have TRT : Hid (IsBools wr a1 len1 cap1 z1) := hid (HB.out.keep (Below.next LSH.out.be hbl.out))
            have APP := hbl.out.size
            clear hx hrx
            by_cases htr : q2 < len1
            · have htr' : (q2 : Int) < len1 := by omega
              obtain ⟨tb, toff, rfl, htc⟩ := TRT.out.at htr
              cases hz : z1 q2
              · rw [hz] at htc
                have HY : Hid (hF (trF len1 z1) q2 x = x) := hid (by simp [hF, trF, hz])
                clear hz
                go_wp2_with (at_builtin; refine append_ints rfl (.tmp 141) (.tmp 143) rfl wS.heap.size _ _ [x] rfl (hown.out.alloc _) _ 1 1 rfl (row_one _ _ FY.out.1 FY.out.2) hln.out (by simp; omega) ?_; intro v2 w2 own2 hb3)
                go_roundw
                case rel => exact ⟨q2 + 1, by omega, by go_num, hid (by rw [HX.out, HY.out]; exact own2.out), hid ((hbl.out.alloc hbl.out.size _).trans hb3.out)⟩
                case measure => simp only [intOf]; omega
              · rw [hz] at htc
                obtain ⟨y, hy⟩ : ∃ y, y = notF x := ⟨_, rfl⟩
                have HN3 := hid hy
                have HY : Hid (hF (trF len1 z1) q2 x = y) := hid (by simp [hF, trF, hz, htr, hy])
                have FZ : Hid (-9223372036854775808 ≤ y ∧ y ≤ 9223372036854775807) := hid (by rw [hy]; exact FX.out)
                clear hz hy
                go_wp2_with (first
                  | (go_at_call 12; with_reducible (refine (lit_eq HN3.out (rnot_any _ _ x1)).mono ?_); rintro e wz ⟨rfl, rfl⟩)
                  | (at_builtin; refine append_ints rfl (.tmp 141) (.tmp 143) rfl wS.heap.size _ _ [y] rfl (hown.out.alloc _) _ 1 1 rfl (row_one _ _ FZ.out.1 FZ.out.2) hln.out (by simp; omega) ?_; intro v2 w2 own2 hb3))
                go_roundw
                case rel => exact ⟨q2 + 1, by omega, by go_num, hid (by rw [HX.out, HY.out]; exact own2.out), hid ((hbl.out.alloc hbl.out.size _).trans hb3.out)⟩
                case measure => simp only [intOf]; omega
            · have htr' : ¬ (q2 : Int) < len1 := by omega
              have HY : Hid (hF (trF len1 z1) q2 x = x) := hid (by simp [hF, trF, htr])
              go_wp2_with (at_builtin; refine append_ints rfl (.tmp 141) (.tmp 143) rfl wS.heap.size _ _ [x] rfl (hown.out.alloc _) _ 1 1 rfl (row_one _ _ FY.out.1 FY.out.2) hln.out (by simp; omega) ?_; intro v2 w2 own2 hb3)
              go_roundw
              case rel => exact ⟨q2 + 1, by omega, by go_num, hid (by rw [HX.out, HY.out]; exact own2.out), hid ((hbl.out.alloc hbl.out.size _).trans hb3.out)⟩
              case measure => simp only [intOf]; omega
          · have eq2 : q2 = is.length := by rw [irow.out.1]; omega
            subst eq2
            obtain ⟨ha, hm, hc, rfl, hrow⟩ := hown.out.shape
            obtain ⟨hh, hi⟩ := LSH.out.holds
            have HH := hid hh
            have HI := hid hi
            clear hh hi
            go_wp2_with (first
              | (go_at_call 13; with_reducible (refine (follows_any _ LSH.out.g (LSH.out.h.below hbl.out) (by have := HN.out; have := L0.out; omega) ha hm hc _ hrow.out HH.out HI.out ta _ tc ts (trow.out.keep hbl.out) aa ac rs (HAR.out.keep hbl.out) hrl.out LSH.out.sy).mono ?_); rintro e wz ⟨rfl, hb5⟩)
              | (go_at_call 6; with_reducible (refine (awake_any _).mono ?_); rintro e wy ⟨rfl, hb6⟩))
            go_ret
            exact ⟨rfl, Below.next (Below.next (Below.next LSH.out.be hbl.out) hb5.out) hb6.out⟩
  · have hl' : decide ((80 : Int) < len0) = true ∨ (decide ((80 : Int) < len0) = false ∧ decide ((200 : Int) < len1) = true) := by
      by_cases h : 80 < len0
      · exact .inl (by simp; omega)
      · exact .inr ⟨by simp; omega, by simp; omega⟩
    clear hl w0 w1
    rcases hl' with h1 | ⟨h1, h2⟩
    all_goals go_enter Try.func3, Try.ntmps3
    all_goals go_wp2_with (go_at_call 6; with_reducible (refine (awake_any _).mono ?_); rintro e w4 ⟨rfl, hb⟩)
    all_goals go_ret
    all_goals exact ⟨rfl, hb.out⟩

end Go.Proofs.Ythdiajdphnjdoaa
