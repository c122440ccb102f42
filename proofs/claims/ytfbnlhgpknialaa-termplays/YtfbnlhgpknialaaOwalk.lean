/-
  Terms, each once: the walk.
-/
import Derived.Test.YtfbnlhgpknialaaOnce
import Derived.Test.YtfbnlhgpknialaaFrame
import Derived.Test.YtfbnlhgpknialaaMade
import Derived.Test.YtfbnlhgpknialaaAwake
import Derived.Test.YtfbnlhgpknialaaRmade
namespace Go.Proofs.Ytfbnlhgpknialaa
open Go.RowKit Go.Maps
set_option linter.unusedVariables false

/-- One deed of a list, in a later world. -/
theorem Deeds.at {w wr : World} {a : Option Addr} {len : Nat} {D : Nat → Dd} (h : Deeds w a len D) (b : Below w.heap.size w wr) {q : Nat} (hq : q < len) : ∃ g off, a = some ⟨g, off, none⟩ ∧ g < w.heap.size ∧ DdFt (D q) ∧
    wr.cell? ⟨g, off + q * 6, none⟩ = some (.int .i64 (D q).kd) ∧ wr.cell? ⟨g, off + q * 6 + 1, none⟩ = some (.int .i64 (D q).w) ∧ wr.cell? ⟨g, off + q * 6 + 2, none⟩ = some (.int .i64 (D q).a) ∧
    wr.cell? ⟨g, off + q * 6 + 3, none⟩ = some (.int .i64 (D q).b) ∧ wr.cell? ⟨g, off + q * 6 + 4, none⟩ = some (.int .i64 (D q).c) ∧ wr.cell? ⟨g, off + q * 6 + 5, none⟩ = some (.int .u64 (D q).x) := by
  obtain ⟨g, off, rfl, hc⟩ := h (by omega)
  obtain ⟨hd, c0, c1, c2, c3, c4, c5⟩ := hc q hq
  have hg := cell_lt c0
  exact ⟨g, off, rfl, hg, hd, (b.cell (cell_lt c0)).trans c0, (b.cell (cell_lt c1)).trans c1, (b.cell (cell_lt c2)).trans c2, (b.cell (cell_lt c3)).trans c3, (b.cell (cell_lt c4)).trans c4, (b.cell (cell_lt c5)).trans c5⟩

/-- Six cells that came in. -/
def Six (w : World) (g off : Nat) (d : Dd) : Prop := w.cell? ⟨g, off, none⟩ = some (.int .i64 d.kd) ∧ w.cell? ⟨g, off + 1, none⟩ = some (.int .i64 d.w) ∧ w.cell? ⟨g, off + 2, none⟩ = some (.int .i64 d.a) ∧ w.cell? ⟨g, off + 3, none⟩ = some (.int .i64 d.b) ∧ w.cell? ⟨g, off + 4, none⟩ = some (.int .i64 d.c) ∧ w.cell? ⟨g, off + 5, none⟩ = some (.int .u64 d.x)

/-- made, beside what came in. -/
theorem made_at {k : K} {w wr : World} {N : List Nd} {P : Nat → Prop} (s : Dg k wr N P) (hk : w.heap.size ≤ k.B) (b : Below w.heap.size w wr) (d : Dd) (hd : DdFt d) {M : Nat} (hM : k.M = M) {I E : Int} {N' : List Nd} (hI : resI M N (planD N d) = I) (hE : resE M N (planD N d) = E) (hN : resN M N (planD N d) = N') (g off : Nat) (hg : g < w.heap.size) (h6 : Six wr g off d) :
    Calls Try.prog 13 #[.pointer (some ⟨k.DB, 0, none⟩), .agg #[.int .i64 d.kd, .int .i64 d.w, .int .i64 d.a, .int .i64 d.b, .int .i64 d.c, .int .u64 d.x]] wr fun e w' => ∃ P', e = .returned (.tuple #[.int .i64 I, .int .i64 E]) ∧ Hid (Dg k w' N' P') ∧ Hid (Fr P P' wr w') ∧ Hid (Below w.heap.size w w') ∧ Hid (Six w' g off d) ∧
      w'.cell? ⟨g, off, none⟩ = some (.int .i64 d.kd) ∧ w'.cell? ⟨g, off + 1, none⟩ = some (.int .i64 d.w) ∧ w'.cell? ⟨g, off + 2, none⟩ = some (.int .i64 d.a) ∧ w'.cell? ⟨g, off + 3, none⟩ = some (.int .i64 d.b) ∧ w'.cell? ⟨g, off + 4, none⟩ = some (.int .i64 d.c) ∧ w'.cell? ⟨g, off + 5, none⟩ = some (.int .u64 d.x) := by
  refine (mk_is (made_any s d hd) hM hI hE hN).mono fun e w' h => ?_
  obtain ⟨P', rfl, h1, h2⟩ := h
  have hs := b.size
  have b2 : Below w.heap.size wr w' := h2.out.be (fun j hj => Nat.le_trans hk (s.bd hj).1) hs
  have b3 : Below w.heap.size w w' := b.trans b2
  obtain ⟨c0, c1, c2, c3, c4, c5⟩ := h6
  exact ⟨P', rfl, h1, h2, hid b3, hid ⟨(b2.cell hg).trans c0, (b2.cell hg).trans c1, (b2.cell hg).trans c2, (b2.cell hg).trans c3, (b2.cell hg).trans c4, (b2.cell hg).trans c5⟩, (b2.cell hg).trans c0, (b2.cell hg).trans c1, (b2.cell hg).trans c2, (b2.cell hg).trans c3, (b2.cell hg).trans c4, (b2.cell hg).trans c5⟩

structure LO (w : World) (k : K) (q : Nat) (N : List Nd) (P : Nat → Prop) (wr : World) : Prop where
  dg : Dg k wr N P
  ln : N.length ≤ q
  rs : Rise N
  be : Below w.heap.size w wr

theorem len_at {k : K} {w : World} {N : List Nd} {P : Nat → Prop} (s : Dg k w N P) {x : Int} (hx : (N.length : Int) = x) : Calls Try.prog 14 #[.pointer (some ⟨k.DB, 0, none⟩)] w fun e w' => e = .returned (.int .i64 x) ∧ w' = w := by subst hx; exact len_any s

theorem node_at {k : K} {w : World} {N : List Nd} {P : Nat → Prop} (s : Dg k w N P) (id : Int) {n : Nd} (hn : ndA N id = n) {b : Bool} (hb : isN N id = b) : Calls Try.prog 8 #[.pointer (some ⟨k.DB, 0, none⟩), .int .i64 id] w fun e w' =>
    e = .returned (.tuple #[.agg #[.int .i64 n.op, .int .i64 n.wd, .int .i64 n.a, .int .i64 n.b, .int .i64 n.c, .int .u64 n.v], .bool b]) ∧ Hid (Below w.heap.size w w') := by subst hn hb; exact node_any s id

theorem node_as {k : K} {w : World} {N : List Nd} {P : Nat → Prop} (s : Dg k w N P) (id : Int) {op wd a b c v : Int} (hn : ndA N id = ⟨op, wd, a, b, c, v⟩) {t : Bool} (hb : isN N id = t) : Calls Try.prog 8 #[.pointer (some ⟨k.DB, 0, none⟩), .int .i64 id] w fun e w' =>
    e = .returned (.tuple #[.agg #[.int .i64 op, .int .i64 wd, .int .i64 a, .int .i64 b, .int .i64 c, .int .u64 v], .bool t]) ∧ Hid (Below w.heap.size w w') := node_at s id hn hb

theorem box_keep {wc w5 : World} {bb : Nat} {v0 v1 v2 v3 v4 v5 : Value} (b : Below wc.heap.size wc w5) (hz : bb < wc.heap.size) (h0 : wc.cell? ⟨bb, 0, none⟩ = some v0) (h1 : wc.cell? ⟨bb, 1, none⟩ = some v1) (h2 : wc.cell? ⟨bb, 2, none⟩ = some v2) (h3 : wc.cell? ⟨bb, 3, none⟩ = some v3) (h4 : wc.cell? ⟨bb, 4, none⟩ = some v4) (h5 : wc.cell? ⟨bb, 5, none⟩ = some v5) :
    w5.cell? ⟨bb, 0, none⟩ = some v0 ∧ w5.cell? ⟨bb, 1, none⟩ = some v1 ∧ w5.cell? ⟨bb, 2, none⟩ = some v2 ∧ w5.cell? ⟨bb, 3, none⟩ = some v3 ∧ w5.cell? ⟨bb, 4, none⟩ = some v4 ∧ w5.cell? ⟨bb, 5, none⟩ = some v5 ∧ bb < w5.heap.size :=
  ⟨(b.cell hz).trans h0, (b.cell hz).trans h1, (b.cell hz).trans h2, (b.cell hz).trans h3, (b.cell hz).trans h4, (b.cell hz).trans h5, Nat.lt_of_lt_of_le hz b.size⟩

set_option maxHeartbeats 8000000 in
set_option maxRecDepth 20000 in
theorem once_walk (a : Option Addr) (len cap : Nat) (D : Nat → Dd) (w : World) (hD : Deeds w a len D) : Calls Try.prog 4 #[.slice a len cap] w fun e w' => e = .returned (.bool true) ∧ Below w.heap.size w w' := by
  have HD := hid hD
  clear hD
  by_cases hl : 100 < len
  · have hl' : (100 : Int) < len := by omega
    go_enter Try.func4, Try.ntmps4
    go_wp2_with (go_at_call 6; with_reducible (refine (awake_any _).mono ?_); rintro e w6 ⟨rfl, b6⟩)
    go_ret
    exact ⟨rfl, b6.out⟩
  have hl' : ¬ (100 : Int) < len := by omega
  go_enter Try.func4, Try.ntmps4
  go_wp2_with (go_at_call 12; with_reducible (refine (new_at 1000 _).mono ?_); rintro e w1 ⟨k, rfl, hM, hB, s0, b1⟩)
  have HM : Hid (k.M = 1000) := hid hM.out
  go_loopw [4] (fun i wr => ∃ (q : Nat) (N : List Nd) (P : Nat → Prop), q ≤ len ∧ i = .int .i64 q ∧ Hid (LO w k q N P wr)) (fun i _ => len - (intOf i).toNat)
  case atStart => exact ⟨0, [], _, Nat.zero_le _, rfl, hid ⟨s0.out, by simp, Rise.nil, b1.out⟩⟩
  case round =>
    obtain ⟨q, N, P, hq, rfl, hr⟩ := hrel
    by_cases hlt : q < len
    · have hlt' : (q : Int) < len := by omega
      obtain ⟨g, off, rfl, hg, hd, e0, e1, e2, e3, e4, e5⟩ := HD.out.at hr.out.be hlt
      obtain ⟨d, ed⟩ : ∃ d, D q = d := ⟨_, rfl⟩
      rw [ed] at hd e0 e1 e2 e3 e4 e5
      have H6 : Hid (Six wr g (off + q * 6) d) := hid ⟨e0, e1, e2, e3, e4, e5⟩
      have HF := hid hd
      have HG := hid hg
      obtain ⟨N', hN⟩ : ∃ N', resN 1000 N (planD N d) = N' := ⟨_, rfl⟩
      obtain ⟨I, hI⟩ : ∃ I, resI 1000 N (planD N d) = I := ⟨_, rfl⟩
      obtain ⟨E, hE⟩ : ∃ E, resE 1000 N (planD N d) = E := ⟨_, rfl⟩
      have ag := again hr.out.dg.1 1000 d
      rw [hN, hI, hE] at ag
      have HA := hid ag
      have HR : Hid (Rise N') := hid (by rw [← hN]; exact hr.out.rs.made 1000 d)
      have HL : Hid (N'.length ≤ q + 1) := hid (by have := resN_more 1000 N (planD N d); have := hr.out.ln; rw [hN] at *; omega)
      have HN := hid hN
      have HI := hid hI
      have HE := hid hE
      obtain ⟨L, hL⟩ : ∃ L : Int, (N'.length : Int) = L := ⟨_, rfl⟩
      have HLL := hid hL
      have x1 : (I != I) = false := by simp
      have x2 : (E != E) = false := by simp
      have x3 : (L != L) = false := by simp
      have hBB : Hid (w.heap.size ≤ k.B) := hid (by rw [hB.out]; exact Nat.le_refl _)
      clear hN hI hE ag hd hg hL ed
      go_wp2_with (first
        | (go_at_call 13; with_reducible (refine (made_at s2.out hBB.out b2.out d HF.out HM.out HA.out.1 HA.out.2.1 HA.out.2.2 g (off + q * 6) HG.out G6.out).mono ?_); rintro e w3 ⟨P3, rfl, s3, f3, b3, z3, i0, i1, i2, i3, i4, i5⟩)
        | (go_at_call 13; with_reducible (refine (made_at hr.out.dg hBB.out hr.out.be d HF.out HM.out HI.out HE.out HN.out g (off + q * 6) HG.out H6.out).mono ?_); rintro e w2 ⟨P2, rfl, s2, f2, b2, G6, g0, g1, g2, g3, g4, g5⟩)
        | (go_at_call 14; with_reducible (refine (len_at s3.out HLL.out).mono ?_); rintro e w5 ⟨rfl, rfl⟩)
        | (go_at_call 14; with_reducible (refine (len_at s2.out HLL.out).mono ?_); rintro e w4 ⟨rfl, rfl⟩))
      go_roundw
      case rel => exact ⟨q + 1, N', P3, by omega, by go_num, hid ⟨s3.out, HL.out, HR.out, b3.out⟩⟩
      case measure => simp only [intOf]; omega
    · have HO := hid hr.out
      have h100 : N.length ≤ 100 := by have := HO.out.ln; omega
      clear hr
      obtain ⟨L, hL⟩ : ∃ L : Int, (N.length : Int) = L := ⟨_, rfl⟩
      have HLL := hid hL
      clear hL
      go_wp2
      go_loopw [10] (fun i wx => ∃ m : Nat, m ≤ N.length ∧ i = .int .i64 m ∧ Hid (Dg k wx N P) ∧ Hid (Below w.heap.size w wx)) (fun i _ => N.length - (intOf i).toNat)
      case atStart => exact ⟨0, Nat.zero_le _, rfl, hid HO.out.dg, hid HO.out.be⟩
      case round =>
        obtain ⟨m, hm, rfl, hg, hb⟩ := hrel
        by_cases hml : m < N.length
        · have hml' : (m : Int) < L := by rw [← HLL.out]; omega
          obtain ⟨n, hn⟩ : ∃ n, ndA N m = n := ⟨_, rfl⟩
          have hn2 := ndA_nat hml
          rw [hn] at hn2
          have HA := hid (HO.out.rs.lay m n hn2)
          have HW := hid (HO.out.dg.1.wd n (List.mem_of_getElem? hn2))
          have HI := hid (isN_nat hml)
          have HK : Hid (∀ j : Nat, j < m → ndA N j ≠ n) := hid (fun j hj => by rw [← hn]; exact HO.out.rs.ne hml hj)
          clear hn2
          obtain ⟨op, wd, na, nb, nc, nv⟩ := n
          have HN := hid hn
          clear hn
          go_upto_region 18 with (first
            | (go_at_call 14; with_reducible (refine (len_at hg.out HLL.out).mono ?_); rintro e wx ⟨rfl, rfl⟩)
            | (go_at_call 8; with_reducible (refine (node_as hg.out (m : Int) HN.out HI.out).mono ?_); rintro e w2 ⟨rfl, b2⟩))
          have bx := box_new (Below.refl _ (w2.alloc (.cells #[.int .i64 op, .int .i64 wd, .int .i64 na, .int .i64 nb, .int .i64 nc, .int .u64 nv] 32)))
          have B3 : Hid (Below wx.heap.size wx (w2.alloc (.cells #[.int .i64 op, .int .i64 wd, .int .i64 na, .int .i64 nb, .int .i64 nc, .int .u64 nv] 32))) := hid (Below.next b2.out (by go_grown))
          have Z3 : Hid (w2.heap.size < (w2.alloc (.cells #[.int .i64 op, .int .i64 wd, .int .i64 na, .int .i64 nb, .int .i64 nc, .int .u64 nv] 32)).heap.size) := hid (by simp)
          revert bx B3 Z3
          generalize w2.alloc (.cells #[.int .i64 op, .int .i64 wd, .int .i64 na, .int .i64 nb, .int .i64 nc, .int .u64 nv] 32) = wz
          generalize w2.heap.size = bb
          intro bx B3 Z3
          obtain ⟨y0, y1, y2, y3, y4, y5⟩ := bx
          clear b2
          go_cut [125] from 63 to 139 (fun t wq => t = .bool false ∧ wq = wz)
          case first =>
            obtain ⟨hA1, hA2, hA3⟩ := HA.out
            obtain ⟨hW1, hW2⟩ := HW.out
            simp only [] at hA1 hA2 hA3 hW1 hW2
            have d1 : decide (wd < 1) = false := by simp; omega
            have d2 : decide (64 < wd) = false := by simp; omega
            have key : ∀ x : Int, x < m → decide ((m : Int) ≤ x) = false := fun x h => by simp; omega
            by_cases c1 : 0 < nb
            · by_cases c2 : 0 < nc
              · have f1 : decide (0 < nb) = true := by simpa using c1
                have f2 : decide (0 < nc) = true := by simpa using c2
                have f3 : decide ((m : Int) ≤ nc) = false := key nc (hA3 c2)
                by_cases o1 : op = 21
                · subst o1
                  have f4 : decide ((m : Int) ≤ nb) = false := key nb (hA2 (by decide) c1)
                  clear hA1 hA2 hA3 key c1 c2 hW1 hW2
                  go_wp2_with fail
                  go_meet
                  exact ⟨rfl, rfl⟩
                by_cases o2 : op = 20
                · subst o2
                  have f4 : decide ((m : Int) ≤ nb) = false := key nb (hA2 (by decide) c1)
                  clear hA1 hA2 hA3 key c1 c2 hW1 hW2 o1
                  go_wp2_with fail
                  go_meet
                  exact ⟨rfl, rfl⟩
                have f5 : decide ((m : Int) ≤ na) = false := key na (hA1 o1 o2)
                by_cases o3 : op = 23
                · subst o3
                  clear hA1 hA2 hA3 key c1 c2 hW1 hW2 o1 o2
                  go_wp2_with fail
                  go_meet
                  exact ⟨rfl, rfl⟩
                have f4 : decide ((m : Int) ≤ nb) = false := key nb (hA2 o3 c1)
                have g1 : (op != 21) = true := by simpa using o1
                have g2 : (op != 20) = true := by simpa using o2
                have g3 : (op != 23) = true := by simpa using o3
                clear hA1 hA2 hA3 key c1 c2 hW1 hW2 o1 o2 o3
                go_wp2_with fail
                go_meet
                exact ⟨rfl, rfl⟩
              · have f1 : decide (0 < nb) = true := by simpa using c1
                have f2 : decide (0 < nc) = false := by simpa using c2
                by_cases o1 : op = 21
                · subst o1
                  have f4 : decide ((m : Int) ≤ nb) = false := key nb (hA2 (by decide) c1)
                  clear hA1 hA2 hA3 key c1 c2 hW1 hW2
                  go_wp2_with fail
                  go_meet
                  exact ⟨rfl, rfl⟩
                by_cases o2 : op = 20
                · subst o2
                  have f4 : decide ((m : Int) ≤ nb) = false := key nb (hA2 (by decide) c1)
                  clear hA1 hA2 hA3 key c1 c2 hW1 hW2 o1
                  go_wp2_with fail
                  go_meet
                  exact ⟨rfl, rfl⟩
                have f5 : decide ((m : Int) ≤ na) = false := key na (hA1 o1 o2)
                by_cases o3 : op = 23
                · subst o3
                  clear hA1 hA2 hA3 key c1 c2 hW1 hW2 o1 o2
                  go_wp2_with fail
                  go_meet
                  exact ⟨rfl, rfl⟩
                have f4 : decide ((m : Int) ≤ nb) = false := key nb (hA2 o3 c1)
                have g1 : (op != 21) = true := by simpa using o1
                have g2 : (op != 20) = true := by simpa using o2
                have g3 : (op != 23) = true := by simpa using o3
                clear hA1 hA2 hA3 key c1 c2 hW1 hW2 o1 o2 o3
                go_wp2_with fail
                go_meet
                exact ⟨rfl, rfl⟩
            · by_cases c2 : 0 < nc
              · have f1 : decide (0 < nb) = false := by simpa using c1
                have f2 : decide (0 < nc) = true := by simpa using c2
                have f3 : decide ((m : Int) ≤ nc) = false := key nc (hA3 c2)
                by_cases o1 : op = 21
                · subst o1
                  clear hA1 hA2 hA3 key c1 c2 hW1 hW2
                  go_wp2_with fail
                  go_meet
                  exact ⟨rfl, rfl⟩
                by_cases o2 : op = 20
                · subst o2
                  clear hA1 hA2 hA3 key c1 c2 hW1 hW2 o1
                  go_wp2_with fail
                  go_meet
                  exact ⟨rfl, rfl⟩
                have f5 : decide ((m : Int) ≤ na) = false := key na (hA1 o1 o2)
                by_cases o3 : op = 23
                · subst o3
                  clear hA1 hA2 hA3 key c1 c2 hW1 hW2 o1 o2
                  go_wp2_with fail
                  go_meet
                  exact ⟨rfl, rfl⟩
                have g1 : (op != 21) = true := by simpa using o1
                have g2 : (op != 20) = true := by simpa using o2
                have g3 : (op != 23) = true := by simpa using o3
                clear hA1 hA2 hA3 key c1 c2 hW1 hW2 o1 o2 o3
                go_wp2_with fail
                go_meet
                exact ⟨rfl, rfl⟩
              · have f1 : decide (0 < nb) = false := by simpa using c1
                have f2 : decide (0 < nc) = false := by simpa using c2
                by_cases o1 : op = 21
                · subst o1
                  clear hA1 hA2 hA3 key c1 c2 hW1 hW2
                  go_wp2_with fail
                  go_meet
                  exact ⟨rfl, rfl⟩
                by_cases o2 : op = 20
                · subst o2
                  clear hA1 hA2 hA3 key c1 c2 hW1 hW2 o1
                  go_wp2_with fail
                  go_meet
                  exact ⟨rfl, rfl⟩
                have f5 : decide ((m : Int) ≤ na) = false := key na (hA1 o1 o2)
                by_cases o3 : op = 23
                · subst o3
                  clear hA1 hA2 hA3 key c1 c2 hW1 hW2 o1 o2
                  go_wp2_with fail
                  go_meet
                  exact ⟨rfl, rfl⟩
                have g1 : (op != 21) = true := by simpa using o1
                have g2 : (op != 20) = true := by simpa using o2
                have g3 : (op != 23) = true := by simpa using o3
                clear hA1 hA2 hA3 key c1 c2 hW1 hW2 o1 o2 o3
                go_wp2_with fail
                go_meet
                exact ⟨rfl, rfl⟩
          case rest =>
            obtain ⟨rfl, rfl⟩ := hcut
            go_wp2_with fail
            go_loopw [13] (fun t wy => ∃ j : Nat, j ≤ m ∧ t = .int .i64 j ∧ Hid (Below wc.heap.size wc wy)) (fun t _ => m - (intOf t).toNat)
            case atStart => exact ⟨0, Nat.zero_le _, rfl, hid (Below.refl _ _)⟩
            case round =>
              obtain ⟨j, hj, rfl, hbj⟩ := hrel
              by_cases hjm : j < m
              · have hjm' : (j : Int) < m := by omega
                have HI2 := hid (isN_nat (N := N) (show j < N.length by omega))
                have hev := eqN_ne (HK.out j hjm)
                obtain ⟨n2, hn2⟩ : ∃ n2, ndA N j = n2 := ⟨_, rfl⟩
                rw [hn2] at hev
                obtain ⟨o2, w2', a2, b2', c2', v2⟩ := n2
                have he := eql32 ⟨o2, w2', a2, b2', c2', v2⟩ ⟨op, wd, na, nb, nc, nv⟩
                simp only [hev] at he
                have HN2 := hid hn2
                have S5 := hid ((hg.out.below B3.out).below hbj.out)
                clear hn2 hev
                go_wp2_with (go_at_call 8; with_reducible (refine (node_as S5.out (j : Int) HN2.out HI2.out).mono ?_); rintro e w5 ⟨rfl, b5⟩; have z := box_keep (Below.next hbj.out b5.out) Z3.out y0 y1 y2 y3 y4 y5; obtain ⟨z0, z1, z2, z3, z4, z5, hbb⟩ := z)
                go_roundw
                case rel => exact ⟨j + 1, by omega, by go_num, hid (Below.next (Below.next hbj.out b5.out) (by go_grown))⟩
                case measure => simp only [intOf]; omega
              · have hjm' : ¬ (j : Int) < m := by omega
                go_wp2_with fail
                go_roundw
                case rel => exact ⟨m + 1, by omega, by go_num, hid ((hg.out.below B3.out).below hbj.out), hid (Below.next (Below.next hb.out B3.out) hbj.out)⟩
                case measure => simp only [intOf]; omega
        · have hml' : ¬ (m : Int) < L := by rw [← HLL.out]; omega
          go_wp2_with (first
            | (go_at_call 14; with_reducible (refine (len_at hg.out HLL.out).mono ?_); rintro e wx ⟨rfl, rfl⟩)
            | (go_at_call 6; with_reducible (refine (awake_any _).mono ?_); rintro e w6 ⟨rfl, b6⟩))
          go_ret
          exact ⟨rfl, Below.next hb.out b6.out⟩

end Go.Proofs.Ytfbnlhgpknialaa
