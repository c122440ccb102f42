/-
  held: whoever holds for a clause is of it, and all others of it do not hold.
-/
import Derived.Test.YtbfaigeopkonbaaWLawA
import Derived.BigQuiet
namespace Go.Proofs.Ytbfaigeopkonbaa
open Go.RowKit Go.Maps
set_option linter.unusedVariables false

theorem rowN {w1 wx : World} {ao : Option Addr} {M q : Nat} {xs : List Int} (h : U.Row w1 ao M M xs) (b : Below w1.heap.size w1 wx) (hq : q ≤ M) (m : Nat) : U.Row (wx.drewN m) ao q M (xs.take q) := (h.keep (Below.next b (drewN_any _ wx m))).take hq

theorem rhas_b {w : World} {ao : Option Addr} {n cap : Nat} {xs : List Int} {x : Int} (h : U.Row w ao n cap xs) {b : Bool} (hb : U.hasF xs x = b) : Calls Try.prog 51 #[.slice ao n cap, .int .i64 x] w fun e w' => e = .returned (.bool b) ∧ w' = w := by
  subst hb; exact U.rhas_any ao n cap xs x w h

section
variable {k : K} {w : World} {L : List E} {lev : Nat} {p : V}

/-! ### held -/
theorem cell_be {w w' : World} {a : Addr} {v : Value} (h : w.cell? a = some v) (b : Below w.heap.size w w') : w'.cell? a = some v := (b.cell (cell_lt h)).trans h

set_option maxHeartbeats 4000000 in
theorem held_is {w0 : World} {g : G} {la ta : Value} {xss : List (List Int)} {ths : List Bool} {n : Nat} (t : Trl k w L lev p) (r : RW w0 w la ta xss ths) (b0 : Below w0.heap.size w0 w) (mt : Match g xss ths) (rs : Rs g L) (hs : xss.length ≤ 10000) :
    Calls Try.prog 33 #[.pointer (some ⟨k.OB, 0, none⟩), .agg #[.int .i64 n, la, ta]] w fun e w' => e = .returned (.bool true) ∧ Hid (Below w.heap.size w w') := by
  obtain ⟨a, c, a', c', rfl, rfl, h1, h2, h3, h4⟩ := r.shape
  obtain ⟨M, hM⟩ : ∃ M, L.length = M := ⟨_, rfl⟩
  obtain ⟨ao, hao⟩ : ∃ ao, litA p = ao := ⟨_, rfl⟩
  have hlen := t.len
  have hMM : M ≤ 1048576 := by omega
  have HND := hid t.nd
  have HRS := hid rs
  have HMT := hid mt
  have HM := hid hM
  have HAO := hid hao
  have hB1 : Hid (Below w.heap.size w (w.alloc (.cells #[.int .i64 n, .slice a xss.length c, .slice a' xss.length c'] 32))) := hid (by go_grown)
  have HK : Hid ((w.alloc (.cells #[.int .i64 n, .slice a xss.length c, .slice a' xss.length c'] 32)).heap[w.heap.size]? = some (.cells #[.int .i64 n, .slice a xss.length c, .slice a' xss.length c'] 32 (0, 0))) := hid (new_same w _)
  have HT := hid (t.below hB1.out)
  have HR := hid (r.below hB1.out)
  have HB0 := hid (Below.trans b0 (hB1.out.mono b0.size))
  clear t r rs mt hM hao hlen b0
  go_enter Try.func33, Try.ntmps33
  go_wp2_with (go_at_call 24; with_reducible (refine (lits_ad HT.out HM.out HAO.out).mono ?_); rintro e w1 ⟨rfl, rfl⟩)
  revert hB1 HK HT HR HB0
  generalize (w.alloc (.cells #[.int .i64 n, .slice a xss.length c, .slice a' xss.length c'] 32)) = W
  intro hB1 HK HT HR HB0
  go_loopw [6, 7, 8] (fun i _ _ wr => ∃ q : Nat, q ≤ M ∧ i = .int .i64 q ∧ Hid (Below W.heap.size W wr)) (fun i _ _ _ => M - (intOf i).toNat)
  case atStart => exact ⟨0, Nat.zero_le _, rfl, hid (Below.refl _ _)⟩
  case round =>
    obtain ⟨q, hq, rfl, hb⟩ := hrel
    have T2 := hid (HT.out.below hb.out)
    have R2 := hid (HR.out.below hb.out)
    have B2 := hid (Below.next hB1.out hb.out)
    by_cases hlt : q < M
    · have hlt' : (q : Int) < M := by omega
      have row := T2.out.told.row
      rw [HM.out, HAO.out] at row
      obtain ⟨bb, off, y, rfl, hc, hy, y0, y1⟩ := row.at hlt
      obtain ⟨e, he, hye⟩ := lits_at.1 hy.out
      obtain ⟨v, hv⟩ : ∃ v, vr e = v := ⟨_, rfl⟩
      have hdv : y.tdiv 2 = (v : Int) := by
        rw [← hye, ← hv]
        unfold vr
        rw [Int.tdiv_eq_ediv_of_nonneg (by omega)]; omega
      have hvb : (v : Int) ≤ 9223372036854775807 := by rw [← hdv, Int.tdiv_eq_ediv_of_nonneg (by omega)]; omega
      have HRE : Hid (reasonF L (v : Int) = e.r) := hid (by rw [← hv, reason_at HND.out he])
      have HROW := hid row
      by_cases hneg : e.r < 0
      · obtain ⟨r, hr⟩ : ∃ r, e.r = r := ⟨_, rfl⟩
        rw [hr] at HRE hneg
        clear hy he hye hv hr row
        go_wp2_with (go_at_call 25; with_reducible (refine (reason_is T2.out _ HRE.out).mono ?_); rintro e w1 ⟨rfl, rfl⟩)
        go_roundw
        case rel => exact ⟨q + 1, by omega, by go_num, hb⟩
        case measure => simp only [intOf]; omega
      · obtain ⟨cc, hcc, hcn, hcg, hmem, hoth⟩ := HRS.out q e he (by omega)
        rw [hcc] at HRE
        have hxl : cc < xss.length := by rw [HMT.out.nx]; exact hcn
        have HIS := hid (HMT.out.is hcn hcg)
        obtain ⟨bl, ax, mx, cx, rfl, hl, hrow⟩ := R2.out.row hxl
        rw [HMT.out.lt cc hcn hcg] at hrow
        have hrow2 := hid (hrow.out.keep (Below.trans HB0.out (hb.out.mono HB0.out.size)))
        have HHAS : Hid (U.hasF (g.lt cc) y = true) := hid ((U.hasF_mem _ _).2 (by rw [← hye]; exact hmem))
        have HOTH : Hid (∀ z ∈ g.lt cc, z ≠ y → U.hasF ((litsF L).take q) (U.notF z) = true) := hid (fun z hz hne => by
          obtain ⟨rr, r1, r2⟩ := hoth z hz (by rw [hye]; exact hne)
          refine (U.hasF_mem _ _).2 (List.mem_iff_getElem?.2 ⟨rr, ?_⟩)
          rw [List.getElem?_take_of_lt r1]; exact r2)
        have hmx := hrow2.out.2.1
        have hmx2 := hrow2.out.2.2.1
        unfold maxLen at hmx2
        have hxl' : (cc : Int) < xss.length := by omega
        have hcd : decide ((cc : Int) < 0) = false := by simp
        have k1 := wbox_keep HK.out hb.out
        have k3 := wbox_cells k1
        obtain ⟨⟨d0, d1, d2⟩, d3, d4, d5⟩ := k3
        clear hy he hye hv row hneg hcc hmem hoth hrow k1
        go_upto_region 7 with (go_at_call 25; with_reducible (refine (reason_is T2.out _ HRE.out).mono ?_); rintro e w1 ⟨rfl, rfl⟩)
        have BD := hid (below_drew w1)
        go_cut [42] from 11 to 81 (fun v wx => v = .bool false ∧ Hid (Below w1.heap.size w1 wx))
        case first =>
          go_region_with (first
            | (go_at_call 34; with_reducible (refine (ris_any (R2.out.below BD.out) _ HIS.out).mono ?_); rintro e w5 ⟨rfl, b5⟩; have B5 := hid (Below.next BD.out b5.out); have e0 := cell_be d0 B5.out; have e1 := cell_be d1 B5.out; have e2 := cell_be d2 B5.out; have e3 := cell_be hl B5.out; have e4 := cell_be hc B5.out)
            | (go_at_call 51; have T := U.rhas_any _ _ _ _ y _ (hrow2.out.keep B5.out); rw [HHAS.out] at T; with_reducible (refine T.mono ?_); rintro e w6 ⟨rfl, rfl⟩))
          all_goals go_wp2_with fail
          all_goals go_meet
          all_goals exact ⟨rfl, B5⟩
        case rest =>
          obtain ⟨rfl, b7⟩ := hcut
          go_wp2
          go_loopw [8] (fun i wx => ∃ j : Nat, j ≤ mx ∧ i = .int .i64 j ∧ Hid (Below w1.heap.size w1 wx)) (fun i _ => mx - (intOf i).toNat)
          case atStart => exact ⟨0, Nat.zero_le _, rfl, b7⟩
          case round =>
            clear b7
            obtain ⟨j, hj, rfl, hb8⟩ := hrel
            have e0 := cell_be d0 hb8.out
            have e1 := cell_be d1 hb8.out
            have e2 := cell_be d2 hb8.out
            have e3 := cell_be hl hb8.out
            have e4 := cell_be hc hb8.out
            by_cases hjl : j < mx
            · have hjl' : (j : Int) < mx := by omega
              obtain ⟨bz, oz, z, rfl, hcz, hz, z0, z1⟩ := (hrow2.out.keep hb8.out).at hjl
              by_cases hzy : z = y
              · subst hzy
                have hne : (z != z) = false := by simp
                clear hz
                go_wp2
                go_region
                all_goals go_wp2
                all_goals go_roundw
                all_goals first
                  | exact ⟨j + 1, by omega, by go_num, hid (Below.next hb8.out (below_drew _))⟩
                  | (simp only [intOf]; omega)
              · have hne : (z != y) = true := by simpa using hzy
                have hneb : (z == y) = false := by simpa using hzy
                have HH2 := hid (HOTH.out z (List.mem_of_getElem? hz.out) hzy)
                have HRT := hid (rowN HROW.out hb8.out (show q ≤ M by omega))
                clear hz hzy
                go_wp2
                go_quiet ((first
                  | (go_at_call 52; with_reducible (refine (U.rnot_any z _ z1).mono ?_); rintro e w6 ⟨rfl, rfl⟩; exact ⟨rfl, _, rfl⟩)
                  | (go_at_call 51; with_reducible (refine (rhas_b (HRT.out _) HH2.out).mono ?_); rintro e w6 ⟨rfl, rfl⟩; exact ⟨rfl, _, rfl⟩)))
                go_wp2
                go_roundw
                case rel => exact ⟨j + 1, by omega, by go_num, hid (Below.next hb8.out (drewN_any _ _ _))⟩
                case measure => simp only [intOf]; omega
            · have hjd : decide ((j : Int) < mx) = false := by simp; omega
              go_wp2
              go_roundw
              case rel => exact ⟨q + 1, by omega, by go_num, hid (Below.next hb.out hb8.out)⟩
              case measure => simp only [intOf]; omega
    · have hltd : decide ((q : Int) < M) = false := by simp; omega
      go_wp2
      go_ret
      exact ⟨rfl, B2⟩
end

end Go.Proofs.Ytbfaigeopkonbaa
