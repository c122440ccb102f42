/-
  run: Run does what the document's does.
-/
import Derived.Test.YtbfaigeopkonbaaWHeld
import Derived.Test.YtbfaigeopkonbaaWRunP
namespace Go.Proofs.Ytbfaigeopkonbaa
open Go.RowKit Go.Maps
set_option linter.unusedVariables false

/-- The box of the document's watch stays. -/
theorem FT.box {k : K} {B : Nat} {p p' : V} {w w' : World} {L : List E} {lev : Nat} (t : Trl k w L lev p) (f : FT k B p p' w w') {r : Nat} {c : Array Value} {T : TypeId} {fz : Nat × Nat} (h : w.heap[r]? = some (.cells c T fz)) (hT : T = 32 ∨ T = 38) : w'.heap[r]? = some (.cells c T fz) := by
  rw [f.block r T ⟨_, _, h⟩ (by rcases hT with rfl | rfl <;> simp [Wt]) (fun m => by
    obtain ⟨T', h1, _, _, h2, h3⟩ := t.mine36 m
    have := h1.one ⟨_, _, h⟩
    rcases hT with rfl | rfl
    · exact h2 this
    · exact h3 this)]
  exact h

def RlEnd (k : K) (kw : WK) (w0 : World) (g : G) (L : List E) (lev : Nat) (p : V) (la ta : Value) (xss : List (List Int)) (ths : List Bool) (w w' : World) : Prop :=
  ∃ g' L' p', Wa k kw w' g' L' lev p' (litsF L') ∧ RW w0 w' la ta xss ths ∧ Match g' xss ths ∧ (Sm0 g g' ∧ tot kw.n g' ≤ tot kw.n g + (kw.n * g.nx + 1)) ∧ FT k kw.B p p' w w'

section
variable {k : K} {kw : WK} {w w0 : World} {g : G} {L : List E} {lev : Nat} {p : V} {H : List Int} {la ta : Value} {xss : List (List Int)} {ths : List Bool}

theorem rsame_b {w : World} {ao bo : Option Addr} {n m c d : Nat} {xs ys : List Int} (h : U.Row w ao n c xs) (g : U.Row w bo m d ys) (e : xs = ys) : Calls Try.prog 32 #[.slice ao n c, .slice bo m d] w fun e w' => e = .returned (.bool true) ∧ Hid (Below w.heap.size w w') := by
  have := U.same_any ao bo n m c d xs ys w h g
  rw [show U.sameF xs ys = true by simp [U.sameF, e]] at this
  exact this

theorem RunV.bad {g g' : G} {L' : List E} {i : Int} (h : RunV g g' L' i false) : ∃ c : Nat, i = c ∧ c < g.nx ∧ g.gn c = false ∧ ∀ y ∈ g.lt c, valueF L' y = -1 := by
  rcases h with ⟨e, _⟩ | ⟨c, _, h⟩
  · cases e
  · exact ⟨c, h⟩
theorem RunV.good {g g' : G} {L' : List E} {i : Int} (h : RunV g g' L' i true) : i = -1 := by
  rcases h with ⟨_, e, _⟩ | ⟨c, e, _⟩
  · exact e
  · cases e

theorem take_lits {L L' : List E} {lev : Nat} (h : Ext L L' lev) {M : Nat} (hM : L.length = M) : (litsF L').take M = litsF L := by
  obtain ⟨N, rfl, _⟩ := h
  rw [litsF_app, ← hM, ← litsF_len L, List.take_left]

set_option maxRecDepth 20000 in
set_option maxHeartbeats 4000000 in
theorem runl_is (W : Wa k kw w g L lev p H) (r : RW w0 w la ta xss ths) (b0 : Below w0.heap.size w0 w) (hB : kw.B = w0.heap.size) (mt : Match g xss ths) (hnx : g.nx ≤ 100) (hkn : kw.n ≤ 100) (hsu : tot kw.n g + kw.n * g.nx ≤ 3000000) :
    Calls Try.prog 14 #[.pointer (some ⟨k.OB, 0, none⟩), .pointer (some ⟨kw.OB, 0, none⟩), .agg #[.int .i64 kw.n, la, ta]] w fun e w' => ∃ bad : Bool, e = .returned (.tuple #[.bool true, .bool bad]) ∧ RlEnd k kw w0 g L lev p la ta xss ths w w' := by
  obtain ⟨a, c, a', c', rfl, rfl, h1, h2, h3, h4⟩ := r.shape
  obtain ⟨M, hM⟩ : ∃ M, L.length = M := ⟨_, rfl⟩
  obtain ⟨ao, hao⟩ : ∃ ao, litA p = ao := ⟨_, rfl⟩
  have hlen := W.j.t.len
  have hnn := W.j.n
  have hMM : M ≤ 100 := by omega
  have hlevM : lev ≤ 100 := by omega
  have HMT := hid mt
  have HM := hid hM
  have HAO := hid hao
  have HHB := hid hB
  have hxs : xss.length ≤ 100 := by rw [mt.nx]; exact hnx
  have hB1 : Hid (Below w.heap.size w (w.alloc (.cells #[.int .i64 kw.n, .slice a xss.length c, .slice a' xss.length c'] 32))) := hid (by go_grown)
  have HK : Hid ((w.alloc (.cells #[.int .i64 kw.n, .slice a xss.length c, .slice a' xss.length c'] 32)).heap[w.heap.size]? = some (.cells #[.int .i64 kw.n, .slice a xss.length c, .slice a' xss.length c'] 32 (0, 0))) := hid (new_same w _)
  have HW := hid (W.below hB1.out)
  have HR := hid (r.below hB1.out)
  have HB0 := hid (Below.trans b0 (hB1.out.mono b0.size))
  have hnx2 : g.nx ≤ 1000000 := by omega
  have told := HW.out.j.t.told
  rw [hM, hao] at told
  have HTOLD := hid told
  clear W r mt hM hao hlen b0 hB told
  go_enter Try.func14, Try.ntmps14
  go_upto_region 4 with (first
    | (go_at_call 24; with_reducible (refine (lits_ad HW.out.j.t HM.out HAO.out).mono ?_); rintro e w1 ⟨rfl, rfl⟩)
    | (go_at_call 15; with_reducible (refine (levels_is HW.out.j.t).mono ?_); rintro e w1 ⟨rfl, rfl⟩)
    | (go_at_call 18; with_reducible (refine (run_one HW.out hnx2 hsu).mono ?_); rintro e w3 ⟨i, ok, g3, L3, p3, rfl, V3, W3, S3, X3, F3⟩))
  have K3 := FT.box HW.out.j.t F3.out HK.out (.inl rfl)
  have R3 := hid (HR.out.ft HW.out.j.t F3.out)
  have T3 := hid (HTOLD.out.ft F3.out).row
  have B3 := hid (F3.out.be HHB.out HB0.out)
  have F03 := hid ((FT.below (k := k) (B := kw.B) (p := p) hB1.out).trans F3.out)
  have k3 := wbox_cells K3
  obtain ⟨⟨d0, d1, d2⟩, d3, d4, d5⟩ := k3
  have HK3 := hid K3
  obtain ⟨M3, hM3⟩ : ∃ M3, L3.length = M3 := ⟨_, rfl⟩
  obtain ⟨ao3, hao3⟩ : ∃ ao3, litA p3 = ao3 := ⟨_, rfl⟩
  have hM3l : M ≤ M3 := by have := X3.out.len; have := HM.out; omega
  have hM3b : M3 ≤ 100 := by have := W3.out.j.t.len; have := W3.out.j.n; omega
  have told3 := W3.out.j.t.told.row
  rw [hM3, hao3] at told3
  have HT3 := hid told3
  have HM3 := hid hM3
  have HAO3 := hid hao3
  have MT3 := hid (HMT.out.sm S3.out.1)
  have hM3' : (M : Int) ≤ M3 := by omega
  clear HTOLD HK K3 told3 hM3 hao3 HR F3
  go_upto_if 50 with (first
    | (go_at_call 31; with_reducible (refine (rrun_any R3.out B3.out hxs T3.out (by omega)).mono ?_); rintro e w4 ⟨ao4, m4, c4, xs4, ok4, rfl, r4, s4, b4⟩; have W4 := hid (W3.out.below b4.out); have e0 := cell_be d0 b4.out; have e1 := cell_be d1 b4.out; have e2 := cell_be d2 b4.out; have HT4 := hid (HT3.out.keep b4.out); have T4 := hid (T3.out.keep b4.out); have R4 := hid (R3.out.below b4.out); have B4 := hid (Below.trans B3.out (b4.out.mono B3.out.size)))
    | (go_at_call 15; with_reducible (refine (levels_is W4.out.j.t).mono ?_); rintro e w5 ⟨rfl, rfl⟩)
    | (go_at_call 24; with_reducible (refine (lits_ad W4.out.j.t HM3.out HAO3.out).mono ?_); rintro e w5 ⟨rfl, rfl⟩)
    | (go_at_call 32; with_reducible (refine (rsame_b (HT4.out.take hM3l) T4.out (take_lits X3.out HM.out)).mono ?_); rintro e w6 ⟨rfl, b6⟩; have W6 := hid (W4.out.below b6.out); have f0 := cell_be e0 b6.out; have f1 := cell_be e1 b6.out; have f2 := cell_be e2 b6.out; have R6 := hid (R4.out.below b6.out); have B6 := hid (Below.trans B4.out (b6.out.mono B4.out.size)))
    | (go_at_call 33; with_reducible (refine (held_is W6.out.j.t R6.out B6.out MT3.out W6.out.rs (by omega)).mono ?_); rintro e w7 ⟨rfl, b7⟩; have W7 := hid (W6.out.below b7.out); have g0 := cell_be f0 b7.out; have g1 := cell_be f1 b7.out; have g2 := cell_be f2 b7.out; have R7 := hid (R6.out.below b7.out); have B7 := hid (Below.trans B6.out (b7.out.mono B6.out.size)); have F7 := hid (((F03.out.trans (FT.below b4.out)).trans (FT.below b6.out)).trans (FT.below b7.out)); have HT7 := hid ((HT4.out.keep b6.out).keep b7.out); have r7 := hid ((r4.out.keep b6.out).keep b7.out)))
  have RD := hid (run_doc V3.out HMT.out S3.out.1 X3.out W3.out.rs W3.out.j.t.nd (fun i hi hg x hx => (W3.out.iv.rg i hi hg x hx).1) s4.out)
  clear d0 d1 d2 d3 d4 d5 e0 e1 e2 f0 f1 f2 W4 W6 R4 R6 B4 B6 HT4 T4
  cases ok
  · obtain ⟨cc, rfl, hcn, hcg, hval⟩ := V3.out.bad
    obtain rfl : ok4 = false := RD.out.1
    have hcn3 : cc < g3.nx := by rw [S3.out.1.nx]; exact hcn
    have hcg3 : g3.gn cc = false := by rw [S3.out.1.gn]; exact hcg
    have hxl : cc < xss.length := by rw [HMT.out.nx]; exact hcn
    have HIS := hid (MT3.out.is hcn3 hcg3)
    obtain ⟨bl, ax, mx, cx, rfl, hl, hrow⟩ := R7.out.row hxl
    rw [HMT.out.lt cc hcn hcg] at hrow
    have hrow2 := hid (hrow.out.keep B7.out)
    have HVAL := hid hval
    have hmx2 := hrow2.out.2.2.1
    have hmx := hrow2.out.2.1
    unfold maxLen at hmx2
    have hxl' : (cc : Int) < xss.length := by omega
    clear hval hrow
    go_wp2_with (go_at_call 34; with_reducible (refine (ris_any R7.out _ HIS.out).mono ?_); rintro e w8 ⟨rfl, b8⟩; have W8 := hid (W7.out.below b8.out))
    go_loopw [14] (fun i wx => ∃ j : Nat, j ≤ mx ∧ i = .int .i64 j ∧ Hid (Below w7.heap.size w7 wx)) (fun i _ => mx - (intOf i).toNat)
    case atStart => exact ⟨0, Nat.zero_le _, rfl, b8⟩
    case round =>
      obtain ⟨j, hj, rfl, hb9⟩ := hrel
      have e0 := cell_be g0 hb9.out
      have e1 := cell_be g1 hb9.out
      have e2 := cell_be g2 hb9.out
      have e3 := cell_be hl hb9.out
      have W9 := hid (W7.out.below hb9.out)
      by_cases hjl : j < mx
      · have hjl' : (j : Int) < mx := by omega
        obtain ⟨bz, oz, z, rfl, hcz, hz, z0, z1⟩ := (hrow2.out.keep hb9.out).at hjl
        have HV := hid (HVAL.out z (List.mem_of_getElem? hz.out))
        clear hz
        go_wp2_with (go_at_call 35; with_reducible (refine (value_is W9.out.j.t z z1 HV.out).mono ?_); rintro e w10 ⟨rfl, b10⟩)
        go_roundw
        case rel => exact ⟨j + 1, by omega, by go_num, hid (Below.next hb9.out b10.out)⟩
        case measure => simp only [intOf]; omega
      · have hjd : decide ((j : Int) < mx) = false := by simp; omega
        go_wp2
        go_ret2
        exact ⟨_, rfl, _, _, _, W9.out, R7.out.below hb9.out, MT3.out, S3.out, F7.out.trans (FT.below hb9.out)⟩
  · obtain rfl : i = -1 := V3.out.good
    obtain ⟨rfl, hset⟩ : ok4 = true ∧ decide (U.rise (litsF L3) = U.rise xs4) = true := ⟨RD.out.1, by rw [RD.out.2 rfl, rise_rise]; simp⟩
    have HSET := hid hset
    have hm4 : Hid (m4 ≤ 100000) := hid (by
      have h5 := r4.out.1
      have h6 := RD.out.2 rfl
      have h7 := U.len_rise (litsF L3)
      rw [← h6, h5, litsF_len, HM3.out] at h7
      omega)
    clear hset
    go_wp2_with (first
      | (go_at_call 24; with_reducible (refine (lits_ad W7.out.j.t HM3.out HAO3.out).mono ?_); rintro e w8 ⟨rfl, rfl⟩)
      | (go_at_call 19; with_reducible (refine (rset_any HT7.out r7.out (by omega) hm4.out HSET.out).mono ?_); rintro e w9 ⟨rfl, b9⟩))
    go_ret2
    exact ⟨_, rfl, _, _, _, W7.out.below b9.out, R7.out.below b9.out, MT3.out, S3.out, F7.out.trans (FT.below b9.out)⟩
end

end Go.Proofs.Ytbfaigeopkonbaa
