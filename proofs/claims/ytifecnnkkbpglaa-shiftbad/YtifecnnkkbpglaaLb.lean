/-
  The law's own looks: a case that fits; what the document's operators make of its words; whether a row is a word, a literal a truth; all that follows.
-/
import Derived.Test.YtifecnnkkbpglaaRw
import Derived.Deep.CutRange
namespace Go.Proofs.Ytifecnnkkbpglaa
open Go.RowKit
set_option linter.unusedVariables false

/-! ### a case -/
def caseV (W A B I : Int) : Value := .agg #[.int .i64 W, .int .u64 A, .int .u64 B, .int .u64 I]

theorem case_no (k : Int) (W A B I : Int) (w : World) (h : ¬ (1 ≤ W ∧ W ≤ k)) : Calls Try.prog 5 #[.agg #[.int .i64 W, .int .u64 A, .int .u64 B, .int .u64 I], .int .i64 k] w fun e w' => e = .returned (.int .i64 0) ∧ Hid (Below w.heap.size w w') := by
  by_cases h1 : W < 1
  · clear h
    go_enter Try.func5, Try.ntmps5
    go_wp2
    go_ret
    exact ⟨rfl, hid (by go_grown)⟩
  · have h2 : k < W := by omega
    clear h
    go_enter Try.func5, Try.ntmps5
    go_wp2
    go_ret
    exact ⟨rfl, hid (by go_grown)⟩

theorem case_yes (k : Int) (W A B I : Int) (w : World) (h1 : 1 ≤ W) (h2 : W ≤ k) : Calls Try.prog 5 #[.agg #[.int .i64 W, .int .u64 A, .int .u64 B, .int .u64 I], .int .i64 k] w fun e w' => e = .returned (.int .i64 1) ∧ Hid (Below w.heap.size w w') := by
  have h3 : ¬ W < 1 := by omega
  have h4 : ¬ k < W := by omega
  go_enter Try.func5, Try.ntmps5
  go_wp2
  go_ret
  exact ⟨rfl, hid (by go_grown)⟩

/-- What an operator makes of two words. -/
def opF (op m x y : Int) : Int := Wd.cutF m (Wd.rawF op m (Wd.cutF m x) (Wd.cutF m y))

/-! ### what is known -/
theorem knF_full {n : Nat} {x : Int} (h : rng n x) : knF n (fun _ => true) x = true := by simp [knF, okF_rng.2 h]
theorem isF_full {n : Nat} {val : Nat → Bool} {x : Int} (h : rng n x) : isF n (fun _ => true) val x = hd val x := is_hd h (fun _ _ _ => rfl) rfl

theorem holds_full {w : World} {kb ib n : Nat} {val : Nat → Bool} (hv : Vs w kb ib n (fun _ => true) val) (hn : n ≤ 10000) {x : Int} (hx : rng n x) {b : Bool} (hb : hd val x = b) :
    Calls Try.prog 46 #[.agg #[.slice (some ⟨kb, 0, none⟩) n n, .slice (some ⟨ib, 0, none⟩) n n], .int .i64 x] w fun e w' => e = .returned (.tuple #[.bool b, .bool true]) ∧ Hid (Below w.heap.size w w') := by
  refine (holds_any w kb ib n _ _ hv hn x (rng_fit hx hn).2).mono ?_
  rintro e w' ⟨rfl, h⟩
  exact ⟨by rw [isF_full hx, knF_full hx, hb], h⟩

theorem vars_gt {B : BT} {gb n : Nat} {cs : List (List Int)} (w : World) (h : Gt B gb w n cs) : Calls Try.prog 26 #[.pointer (some ⟨gb, 0, none⟩)] w fun e w' => e = .returned (.int .i64 n) ∧ w' = w := by
  obtain ⟨v, c0, c1, f0, f1, ho⟩ := h.cells
  exact vars_any gb n w c0

theorem clauses_gt {B : BT} {gb n : Nat} {cs : List (List Int)} {val : Nat → Bool} {is : List Int} (w : World) (h : Gt B gb w n cs) (g : Good n cs val is) (hn : n ≤ 10000) :
    Calls Try.prog 27 #[.pointer (some ⟨gb, 0, none⟩)] w fun e w' => ∃ ao k, e = .returned (.slice ao k k) ∧ Hid (k = cs.length) ∧ Hid (Grid w ao k k cs) ∧ w' = w :=
  clauses_any w h g.ne (by have := g.len; omega)

theorem or_more (A : Nat → Bool) (q : Nat) (hq : q < 64) (h : A q = true) : bits .or .u64 (nvF A q) (IntKind.u64.wrap (2 ^ q)) = nvF A (q + 1) := by
  obtain ⟨h0, h1⟩ := nv_bd A q
  have e := Wd.or_bit (nvF A q) q true hq h0 h1
  have o : Wd.b01 true = 1 := rfl
  rw [o, Int.one_mul] at e
  rw [nv_succ, h, e, o, Int.one_mul]
theorem nv_skip (A : Nat → Bool) (q : Nat) (h : A q = false) : nvF A q = nvF A (q + 1) := by
  rw [nv_succ, h]; simp [Wd.b01]

set_option maxHeartbeats 8000000 in
theorem word_any (w : World) (kb ib n : Nat) (val : Nat → Bool) (hv : Vs w kb ib n (fun _ => true) val) (hn : n ≤ 10000) (ao : Option Addr) (m c : Nat) (xs : List Int) (rx : TR w ao m c xs) (A : Nat → Bool) (X : Lits n val xs m A) (hm : m ≤ 64) :
    Calls Try.prog 34 #[.agg #[.slice (some ⟨kb, 0, none⟩) n n, .slice (some ⟨ib, 0, none⟩) n n], .slice ao m c] w fun e w' => e = .returned (.tuple #[.int .u64 (nvF A m), .bool true]) ∧ Hid (Below w.heap.size w w') := by
  have b1 : Below w.heap.size w (w.alloc (.cells #[.slice (some ⟨kb, 0, none⟩) n n, .slice (some ⟨ib, 0, none⟩) n n] 37)) := (Below.refl _ _).alloc (Nat.le_refl _) _
  have HBX : Hid ((w.alloc (.cells #[.slice (some ⟨kb, 0, none⟩) n n, .slice (some ⟨ib, 0, none⟩) n n] 37)).heap[w.heap.size]? = some (.cells #[.slice (some ⟨kb, 0, none⟩) n n, .slice (some ⟨ib, 0, none⟩) n n] 37 (0, 0))) := hid (new_same _ _)
  have HB := hid b1
  have HV := hid hv
  have RX := hid rx
  have HX := hid X
  have mx := rx.row.max
  clear b1 hv rx X
  go_enter Try.func34, Try.ntmps34
  go_wp2
  go_loopw [6, 7, 8, 9] (fun a i _ _ wr => ∃ k : Nat, k ≤ m ∧ i = .int .i64 k ∧ a = .int .u64 (nvF A k) ∧ Hid (Below w.heap.size w wr) ∧ Hid (wr.heap[w.heap.size]? = some (.cells #[.slice (some ⟨kb, 0, none⟩) n n, .slice (some ⟨ib, 0, none⟩) n n] 37 (0, 0)))) (fun _ i _ _ _ => m - (intOf i).toNat)
  case atStart => exact ⟨0, Nat.zero_le _, rfl, rfl, HB, HBX⟩
  case round =>
    obtain ⟨k, hk, rfl, rfl, hb, hbx⟩ := hrel
    clear HB HBX
    by_cases hlt : k < m
    · have hlt' : (k : Int) < m := by omega
      have k64 : k < 64 := by omega
      have k64' : (k : Int) < 64 := by omega
      have k0 : (0 : Int) ≤ k := by omega
      have d0 : wr.cell? ⟨w.heap.size, 0, none⟩ = some (.slice (some ⟨kb, 0, none⟩) n n) := by rw [cell_of hbx.out]; rfl
      have d1 : wr.cell? ⟨w.heap.size, 1, none⟩ = some (.slice (some ⟨ib, 0, none⟩) n n) := by rw [cell_of hbx.out]; rfl
      obtain ⟨b1, o1, rfl, cx⟩ := RX.out.cells (by omega)
      obtain ⟨y, hy, ry, vy⟩ := HX.out.at hlt
      have RY := hid ry
      have VY := hid vy
      have hc := cx B0 wr (FG.below hb.out) k y hy
      have HB2 := hid hb.out
      haveI : Inhabited (BW wr) := ⟨⟨wr, Below.refl _ _⟩⟩
      have X0 := BW.cell d0
      have X1 := BW.cell d1
      have Xc := BW.cell hc
      clear hy ry vy cx
      cases hA : A k
      · have HA := hid hA
        clear hA
        go_wp2
        refine wp_region_below (by kernel_rfl) (by kernel_rfl) ?_
        repeat (go_big_quiet_step (first | (go_at_call 46; exact bw_of (holds_full (HV.out.keep (Below.next hb.out (BW.be _))) hn RY.out (VY.out.trans HA.out))) | fail))
        refine wpQuiet_nil ?_
        intro _ hw
        obtain ⟨p, hw2⟩ := hw
        subst hw2
        have BN := hid (Below.next hb.out p.be)
        have BX2 : Hid (p.w.heap[w.heap.size]? = some (.cells #[.slice (some ⟨kb, 0, none⟩) n n, .slice (some ⟨ib, 0, none⟩) n n] 37 (0, 0))) := hid ((p.be.block _ (blk_lt hbx.out)).trans hbx.out)
        clear X0 X1 Xc
        go_wp2
        go_roundw
        case rel => exact ⟨k + 1, by omega, by go_num, by rw [← nv_skip A k HA.out], BN, BX2⟩
        case measure => simp only [intOf]; omega
      · have HA := hid hA
        have HM := hid (or_more A k k64 hA)
        clear hA
        go_wp2
        refine wp_region_below (by kernel_rfl) (by kernel_rfl) ?_
        repeat (go_big_quiet_step (first | (go_at_call 46; exact bw_of (holds_full (HV.out.keep (Below.next hb.out (BW.be _))) hn RY.out (VY.out.trans HA.out))) | fail))
        refine wpQuiet_nil ?_
        intro _ hw
        obtain ⟨p, hw2⟩ := hw
        subst hw2
        have BN := hid (Below.next hb.out p.be)
        have BX2 : Hid (p.w.heap[w.heap.size]? = some (.cells #[.slice (some ⟨kb, 0, none⟩) n n, .slice (some ⟨ib, 0, none⟩) n n] 37 (0, 0))) := hid ((p.be.block _ (blk_lt hbx.out)).trans hbx.out)
        clear X0 X1 Xc
        go_wp2
        go_roundw
        case rel => exact ⟨k + 1, by omega, by go_num, by rw [← HM.out], BN, BX2⟩
        case measure => simp only [intOf]; omega
    · have hqm : k = m := by omega
      subst hqm
      go_wp2
      go_ret2
      exact ⟨rfl, hb⟩

theorem is_any (w : World) (kb ib n : Nat) (val : Nat → Bool) (hv : Vs w kb ib n (fun _ => true) val) (hn : n ≤ 10000) (ao : Option Addr) (m c : Nat) (xs : List Int) (rx : TR w ao m c xs) (A : Nat → Bool) (X : Lits n val xs m A) (hm : m ≤ 64) (x : Int) (x0 : 0 ≤ x) (x1 : x < 18446744073709551616) (hx : nvF A m = Wd.cutF m x) :
    Calls Try.prog 12 #[.agg #[.slice (some ⟨kb, 0, none⟩) n n, .slice (some ⟨ib, 0, none⟩) n n], .slice ao m c, .int .i64 m, .int .u64 x] w fun e w' => e = .returned (.int .i64 1) ∧ Hid (Below w.heap.size w w') := by
  have b1 : Below w.heap.size w (w.alloc (.cells #[.slice (some ⟨kb, 0, none⟩) n n, .slice (some ⟨ib, 0, none⟩) n n] 37)) := (Below.refl _ _).alloc (Nat.le_refl _) _
  have c0 : (w.alloc (.cells #[.slice (some ⟨kb, 0, none⟩) n n, .slice (some ⟨ib, 0, none⟩) n n] 37)).cell? ⟨w.heap.size, 0, none⟩ = some (.slice (some ⟨kb, 0, none⟩) n n) := by rw [cell_of (new_same w _)]; rfl
  have c1 : (w.alloc (.cells #[.slice (some ⟨kb, 0, none⟩) n n, .slice (some ⟨ib, 0, none⟩) n n] 37)).cell? ⟨w.heap.size, 1, none⟩ = some (.slice (some ⟨ib, 0, none⟩) n n) := by rw [cell_of (new_same w _)]; rfl
  have HB := hid b1
  have HV := hid (hv.keep b1)
  have RX := hid (rx.below b1)
  have HX := hid X
  have HE := hid hx
  have mx := rx.row.max
  have q1 : ((m : Int) != (m : Int)) = false := by simp
  have q2 : (nvF A m != nvF A m) = false := by simp
  clear b1 hv rx X hx
  go_enter Try.func12, Try.ntmps12
  go_wp2_with (first
    | (go_at_call 34; with_reducible (refine (word_any _ kb ib n val HV.out hn ao m c xs RX.out A HX.out hm).mono ?_); rintro e w1 ⟨rfl, hb1⟩; have HB := hid (Below.next HB.out hb1.out))
    | (go_at_call 29; with_reducible (refine (Wd.ref_cut_any _ x _ x0 x1).mono ?_); rintro e w2 ⟨rfl, rfl⟩; rw [← HE.out]))
  go_ret
  exact ⟨rfl, HB⟩

/-- The result's own cells are set. -/
theorem close_ret {wz : World} {rb kb ib n : Nat} {K I : Nat → Bool} (hv : Vs wz kb ib n K I) (h0 : 0 < n) (er : wz.heap[rb]? = some (.cells #[.slice none 0 0, .slice none 0 0] 37 (0, 0))) (a b : Value) :
    ((wz.setCell ⟨rb, 0, none⟩ a).setCell ⟨rb, 1, none⟩ b).cell? ⟨rb, 0, none⟩ = some a ∧ ((wz.setCell ⟨rb, 0, none⟩ a).setCell ⟨rb, 1, none⟩ b).cell? ⟨rb, 1, none⟩ = some b ∧ Vs ((wz.setCell ⟨rb, 0, none⟩ a).setCell ⟨rb, 1, none⟩ b) kb ib n K I := by
  have s1 := set_same (o := 0) er a
  have s2 := set_same (o := 1) s1 b
  have z0 : wz.cell? ⟨rb, 0, none⟩ = some (.slice none 0 0) := by rw [cell_of er]; rfl
  have n1 : kb ≠ rb := fun e => by
    have := (hv 0 h0).1
    rw [e, z0] at this; cases this
  have n2 : ib ≠ rb := fun e => by
    have := (hv 0 h0).2
    rw [e, z0] at this; cases this
  refine ⟨by rw [cell_of s2]; simp, by rw [cell_of s2]; simp, fun i hi => ?_⟩
  have q1 : ((wz.setCell ⟨rb, 0, none⟩ a).setCell ⟨rb, 1, none⟩ b).heap[kb]? = wz.heap[kb]? := by rw [Below.heap_setCell _ _ _ _ n1, Below.heap_setCell _ _ _ _ n1]
  have q2 : ((wz.setCell ⟨rb, 0, none⟩ a).setCell ⟨rb, 1, none⟩ b).heap[ib]? = wz.heap[ib]? := by rw [Below.heap_setCell _ _ _ _ n2, Below.heap_setCell _ _ _ _ n2]
  exact ⟨(World.cell?_of_block (w := wz) q1).trans (hv i hi).1, (World.cell?_of_block (w := wz) q2).trans (hv i hi).2⟩

set_option maxHeartbeats 4000000 in
/-- All that follows. -/
theorem close_any {B : BT} {gb n : Nat} {cs : List (List Int)} {val : Nat → Bool} {is : List Int} (w : World) (g : Good n cs val is) (h : Gt B gb w n cs) (hn : n ≤ 10000) (ao : Option Addr) (m c : Nat) (hs : List Int) (rh : TR w ao m c hs)
    (hh : ∀ y ∈ hs, rng n y ∧ hd val y = true) (hi : ∀ y ∈ is, ∃ z ∈ hs, (z / 2).toNat = (y / 2).toNat) :
    Calls Try.prog 10 #[.pointer (some ⟨gb, 0, none⟩), .slice ao m c] w fun e w' => ∃ kb ib, e = .returned (.tuple #[.agg #[.slice (some ⟨kb, 0, none⟩) n n, .slice (some ⟨ib, 0, none⟩) n n], .int .i64 1]) ∧ Hid (Vs w' kb ib n (fun _ => true) val) ∧ Hid (Below w.heap.size w w') := by
  have G := hid h
  have HG := hid g
  have RH := hid rh
  have HH := hid hh
  have HI := hid hi
  clear h g rh hh hi
  have b1 : Below w.heap.size w (w.alloc (.cells #[.slice none 0 0, .slice none 0 0] 37)) := (Below.refl _ _).alloc (Nat.le_refl _) _
  have E1 : Hid ((w.alloc (.cells #[.slice none 0 0, .slice none 0 0] 37)).heap[w.heap.size]? = some (.cells #[.slice none 0 0, .slice none 0 0] 37 (0, 0))) := hid (new_same _ _)
  have G := hid (G.out.below b1)
  have RH := hid (RH.out.below b1)
  have B1 := hid b1
  have h0 := HG.out.pos
  clear b1
  go_enter Try.func10, Try.ntmps10
  go_upto_region 4 with (first
    | (go_at_call 26; with_reducible (refine (vars_gt _ G.out).mono ?_); rintro e w2 ⟨rfl, rfl⟩)
    | (go_at_call 27; with_reducible (refine (clauses_gt _ G.out HG.out hn).mono ?_); rintro e w3 ⟨go_, k, rfl, hk, hg, rfl⟩)
    | (go_at_call 25; with_reducible (refine (run_any _ n hn ao m c hs RH.out.row go_ k k cs hg.out val is HG.out HH.out HI.out).mono ?_); rintro e w4 ⟨kb, ib, rfl, hv, hb⟩; have E4 := hid ((hb.out.block _ (blk_lt E1.out)).trans E1.out); have B4 := hid (Below.next B1.out hb.out)))
  have b5 : Below w4.heap.size w4 (w4.alloc (.cells #[.slice (some ⟨kb, 0, none⟩) n n, .slice (some ⟨ib, 0, none⟩) n n] 37)) := (Below.refl _ _).alloc (Nat.le_refl _) _
  obtain ⟨d0, d1⟩ := box_cells w4 (.slice (some ⟨kb, 0, none⟩) n n) (.slice (some ⟨ib, 0, none⟩) n n)
  have HV := hid (hv.out.keep b5)
  have E5 := hid ((b5.block _ (blk_lt E4.out)).trans E4.out)
  have B5 := hid (Below.next B4.out b5)
  clear b5 hb hv E1 E4 B4 B1
  generalize (w4.alloc (.cells #[.slice (some ⟨kb, 0, none⟩) n n, .slice (some ⟨ib, 0, none⟩) n n] 37)) = wz at d0 d1 HV E5 B5 ⊢
  generalize w4.heap.size = vb at d0 d1 ⊢
  have c0 : wz.cell? ⟨w.heap.size, 0, none⟩ = some (.slice none 0 0) := by rw [cell_of E5.out]; rfl
  have c1 : wz.cell? ⟨w.heap.size, 1, none⟩ = some (.slice none 0 0) := by rw [cell_of E5.out]; rfl
  have f0 : wz.frozen? ⟨w.heap.size, 0, none⟩ = false := frozen_of E5.out
  have f1 : wz.frozen? ⟨w.heap.size, 1, none⟩ = false := frozen_of E5.out
  go_wp2
  obtain ⟨g0, g1, hvs⟩ := close_ret HV.out h0 E5.out (.slice (some ⟨kb, 0, none⟩) n n) (.slice (some ⟨ib, 0, none⟩) n n)
  have hbe : Below w.heap.size w ((wz.setCell ⟨w.heap.size, 0, none⟩ (.slice (some ⟨kb, 0, none⟩) n n)).setCell ⟨w.heap.size, 1, none⟩ (.slice (some ⟨ib, 0, none⟩) n n)) := (B5.out.setCell (Nat.le_refl _) _).setCell (Nat.le_refl _) _
  generalize (wz.setCell ⟨w.heap.size, 0, none⟩ (.slice (some ⟨kb, 0, none⟩) n n)).setCell ⟨w.heap.size, 1, none⟩ (.slice (some ⟨ib, 0, none⟩) n n) = wy at g0 g1 hvs hbe ⊢
  refine bodyPost_ret (v := .tuple #[.agg #[.slice (some ⟨kb, 0, none⟩) n n, .slice (some ⟨ib, 0, none⟩) n n], .int .i64 1]) (by simp [results, Try.results10, go_sem, g0, g1]) rfl ?_
  exact ⟨kb, ib, rfl, hid hvs, hid hbe⟩

end Go.Proofs.Ytifecnnkkbpglaa
