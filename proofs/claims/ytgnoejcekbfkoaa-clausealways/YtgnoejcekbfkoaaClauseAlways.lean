/-
  ClauseAlways: for every list of numbers and every list of truths: a clause that Normal tells always to hold does; one that it does not is false where all its literals are; no condition.
-/
import Derived.Test.YtgnoejcekbfkoaaRows
import Derived.Test.YtgnoejcekbfkoaaFrame
import Derived.Test.YtgnoejcekbfkoaaTruths
import Derived.WalkKit
import Derived.ProofKit
import Derived.OpenShut
import Derived.ShutString
import Derived.ChangeOld
import Derived.Below
namespace Go.Proofs.Ytgnoejcekbfkoaa.clauseAlways
open Go.ChangeShapes Go.WideShapes Go.ChangeAt Go.RowKit
open Go.ChangeMaps (open_string shut_string)
set_option linter.unusedVariables false

theorem own : ownKnob Try.prog.godebug = none := by kernel_rfl
theorem laidOut : laidOutB Try.prog = true := by kernel_rfl

set_option maxHeartbeats 4000000 in
theorem walk (a0 : Option Addr) (len0 cap0 : Nat) (z0 : List Int) (a1 : Option Addr) (len1 cap1 : Nat) (z1 : Nat → Bool) (w : World) (w0 : IsRow .i64 w a0 len0 cap0 z0) (w1 : IsBools w a1 len1 cap1 z1) :
    Calls Try.prog 7 #[.slice a0 len0 cap0, .slice a1 len1 cap1] w fun e w' => e = .returned (.bool true) ∧ Below w.heap.size w w' := by
  have R0 := w0.row
  have R1 : Hid (IsBools w a1 len1 cap1 z1) := w1
  clear w0 w1
  by_cases h : (60 : Int) < len0
  · go_enter Try.func7, Try.ntmps7
    go_wp2_with (go_at_call 8; with_reducible (refine (awake_any _).mono ?_); rintro e w9 ⟨rfl, b9⟩)
    go_ret
    exact ⟨rfl, b9⟩
  by_cases h' : (1000 : Int) < len1
  · go_enter Try.func7, Try.ntmps7
    go_wp2_with (go_at_call 8; with_reducible (refine (awake_any _).mono ?_); rintro e w9 ⟨rfl, b9⟩)
    go_ret
    exact ⟨rfl, b9⟩
  have hn : len0 ≤ 1000 := by omega
  obtain ⟨xs, hxs⟩ : ∃ xs, xs = z0.take len0 := ⟨_, rfl⟩
  rw [← hxs] at R0
  clear hxs
  cases hbad : badL xs
  · have hh := holds_rise xs len1 z1
    cases hal : alwF xs
    · obtain ⟨j0, hj, hj0, hj1, hj2⟩ := info_parts Try.info4
      have h8 : j0.bytes * 0 ≤ 281474976710656 := by omega
      have h63 : 0 ≤ maxLen := by omega
      have HL : Hid (alwL (rise xs) = false) := by show _ = _; rw [alw_rise, ← (nrm_of_good hbad).2.1]; exact hal
      have HG : Hid (∀ y ∈ rise xs, 0 ≤ y) := good_all hbad
      go_enter Try.func7, Try.ntmps7
      go_wp2_with (first
        | (go_at_call 9; with_reducible (refine (normal_good _ _ _ _ _ R0.out hn hbad).mono ?_); rintro e w1 ⟨x1, k1, c1, rfl, r1, b1⟩)
        | (go_at_call 12; with_reducible (refine (holdsC_any _ _ _ _ _ r1.out _ _ _ z1 (R1.out.keep b1)).mono ?_); rintro e w2 ⟨rfl, b2⟩)
        | (go_at_call 12; with_reducible (refine (holdsC_any _ _ _ _ _ (R0.out.keep (Below.next b1 b2)) _ _ _ z1 (R1.out.keep (Below.next b1 b2))).mono ?_); rintro e w3 ⟨rfl, b3⟩)
        | (at_make; refine wpList_make_full _ rfl (.const (.int .i64 0)) (.const (.int .i64 0)) 31 rfl w3.heap.size 4 j0 (.bool false) 1 Try.underlying31 hj hj0 hj1 .i64 .i64 _ _ 0 rfl rfl rfl rfl h8 h63 (Nat.le_refl _) ?_; intro w4 own4 gr4; have bm := (Below.refl w3.heap.size w3).grown gr4 (Nat.le_refl _) (by simp); have o4 := ownB_made own4; clear own4 gr4))
      have rw3 : Hid (Row w3 x1 k1 c1 (rise xs)) := keepH (keepH r1 b2) b3
      have R03 : Hid (Row w3 a0 len0 cap0 xs) := keepH R0 (Below.next (Below.next b1 b2) b3)
      have bw := Below.next (Below.next b1 b2) b3
      have hk1 := rw3.out.max
      clear R0 R1 r1 b1 b2 b3 hh
      go_loopw [8, 9, 10] (fun no i _ wr => ∃ k : Nat, k ≤ k1 ∧ i = .int .i64 k ∧ (∃ ao n c bs, no = .slice ao n c ∧ Hid (n = List.length bs) ∧ n ≤ 2001 ∧ Hid (OwnB wr w3.heap.size (.slice ao n c) bs) ∧ Hid (Falls ((rise xs).take k) bs)) ∧ Below w3.heap.size w3 wr) (fun _ i _ _ => k1 - (intOf i).toNat)
      case atStart => exact ⟨0, Nat.zero_le _, rfl, ⟨_, _, _, [], rfl, rfl, by omega, o4, fun x hx => by simp at hx⟩, bm⟩
      case round =>
        obtain ⟨k, hk, rfl, ⟨ao, n, c, bs, rfl, hnb, hn2, hown, hfall⟩, hb⟩ := hrel
        clear o4 bm
        by_cases hlt : k < k1
        · obtain ⟨b, off, y, rfl, hc3, hy, y0, y1⟩ := rw3.out.at hlt
          have HC3 : Hid _ := hc3
          have hc := (hb.cell (cell_lt hc3)).trans hc3
          clear hc3
          have hyp : 0 ≤ y := HG.out y (List.mem_of_getElem? hy.out)
          obtain ⟨q, hq⟩ := Int.eq_ofNat_of_zero_le (show 0 ≤ varF y by simp only [varF]; rw [if_neg (by omega)]; omega)
          by_cases hbig : (2000 : Int) < (q : Int)
          · go_wp2_with (first
              | (go_at_call 20; with_reducible (refine (var_any _ _ y1).mono ?_); rintro e w5 ⟨rfl, b5⟩)
              | (go_at_call 8; with_reducible (refine (awake_any _).mono ?_); rintro e w9 ⟨rfl, b9⟩))
            go_ret
            exact ⟨rfl, Below.next bw (Below.next (Below.next hb b5) b9)⟩
          · go_wp2_with (go_at_call 20; with_reducible (refine (var_any _ _ y1).mono ?_); rintro e w5 ⟨rfl, b5⟩)
            have own5 : Hid (OwnB w5 w3.heap.size (.slice ao n c) bs) := hown.out.keep b5
            have hb5 := Below.next hb b5
            clear hown hb b5 hc
            go_loopw [8] (fun no wt => ∃ ao n c bs, no = .slice ao n c ∧ Hid (n = List.length bs) ∧ n ≤ 2001 ∧ Hid (OwnB wt w3.heap.size (.slice ao n c) bs) ∧ Hid (Falls ((rise xs).take k) bs) ∧ Below w3.heap.size w3 wt) (fun no _ => q + 1 - lenOf no)
            case atStart => exact ⟨ao, n, c, bs, rfl, hnb, hn2, own5, hfall, hb5⟩
            case round =>
              obtain ⟨ao2, n2, c2, bs2, rfl, hnb2, hn22, hown2, hfall2, hb2⟩ := hrel
              clear own5 hb5 hfall hnb
              by_cases hle : (n2 : Int) ≤ (q : Int)
              · have hs := hb2.size
                have hbd : bs2.length ≤ 5000 := by rw [← hnb2.out]; omega
                go_wp2_with (at_builtin; refine append_false rfl (.tmp 75) (.tmp 76) rfl w3.heap.size _ bs2 rfl (hown2.out.keep (bL _ _)) _ rfl (by simp) hbd (by simp; omega) ?_; intro ao3 n3 c3 w6 hn3 own3 b6; replace hn3 : Hid _ := hn3)
                go_roundw
                case rel => exact ⟨ao3, n3, c3, bs2 ++ [false], rfl, by show _ = _; rw [hn3.out]; simp, by have := hn3.out; have := hnb2.out; omega, own3, falls_more hfall2.out, (hb2.alloc hs _).trans b6.out⟩
                case measure => have := hn3.out; have := hnb2.out; simp only [lenOf]; omega
              · have hgt : (q : Int) < (n2 : Int) := by omega
                have hc := (hb2.cell (cell_lt HC3.out)).trans HC3.out
                obtain ⟨g, rfl, hBg, hgs, hcell, hfr⟩ := hown2.out.at (show q < bs2.length by rw [← hnb2.out]; omega)
                have HQ : Hid ((varF y).toNat = q) := by show _ = _; rw [hq]; rfl
                have HF : Hid (Falls ((rise xs).take (k + 1)) (bs2.set q (negF y))) := by
                  have := falls_set hfall2.out hy.out HG.out (by rw [HQ.out, ← hnb2.out]; omega) (var_apart (up_rise xs) HG.out HL.out hy.out)
                  rw [HQ.out] at this
                  exact this
                go_wp2_with (go_at_call 21; with_reducible (refine (neg_any _ _ y1).mono ?_); rintro e w7 ⟨rfl, b7⟩; have hcell7 := (b7.cell hgs).trans hcell; have hfr7 := (b7.frozen hgs).trans hfr)
                go_roundw
                case rel => exact ⟨k + 1, by omega, by go_num, ⟨_, _, _, bs2.set q (negF y), rfl, by show _ = _; rw [List.length_set]; exact hnb2.out, hn22, OwnB.store (hown2.out.keep b7) hnb2.out _, HF⟩, (Below.next hb2 b7).setCell hBg _⟩
                case measure => simp only [intOf]; omega
        · have HK : Hid ((rise xs).take k = rise xs) := List.take_of_length_le (by rw [rw3.out.1]; omega)
          obtain ⟨F, hF⟩ : ∃ F : Nat → Bool, F = fun i => bs.getD i false := ⟨_, rfl⟩
          have HZ : holdsF xs n F = false := by
            rw [hnb.out, hF]
            exact falls_end (by rw [← HK.out]; exact hfall.out) HG.out (fun x hx => (mem_rise xs x).2 hx)
          have HB : Hid (IsBools wr ao n c F) := by rw [hF]; exact hown.out.bools hnb.out
          clear hF
          go_wp2_with (first
            | (go_at_call 12; with_reducible (refine (holdsC_any _ _ _ _ _ (R03.out.keep hb) _ _ _ F HB.out).mono ?_); rintro e w5 ⟨rfl, b5⟩)
            | (go_at_call 8; with_reducible (refine (awake_any _).mono ?_); rintro e w9 ⟨rfl, b9⟩))
          go_ret
          exact ⟨rfl, Below.next bw (Below.next (Below.next hb b5) b9)⟩
    · have hs := holds_always hbad hal len1 z1
      go_enter Try.func7, Try.ntmps7
      go_wp2_with (first
        | (go_at_call 9; with_reducible (refine (normal_good _ _ _ _ _ R0.out hn hbad).mono ?_); rintro e w1 ⟨x1, k1, c1, rfl, r1, b1⟩)
        | (go_at_call 12; with_reducible (refine (holdsC_any _ _ _ _ _ r1.out _ _ _ z1 (R1.out.keep b1)).mono ?_); rintro e w2 ⟨rfl, b2⟩)
        | (go_at_call 12; with_reducible (refine (holdsC_any _ _ _ _ _ (R0.out.keep (Below.next b1 b2)) _ _ _ z1 (R1.out.keep (Below.next b1 b2))).mono ?_); rintro e w3 ⟨rfl, b3⟩)
        | (go_at_call 12; with_reducible (refine (holdsC_any _ _ _ _ _ (R0.out.keep (Below.next (Below.next b1 b2) b3)) _ _ _ z1 (R1.out.keep (Below.next (Below.next b1 b2) b3))).mono ?_); rintro e w4 ⟨rfl, b4⟩)
        | (go_at_call 8; with_reducible (refine (awake_any _).mono ?_); rintro e w9 ⟨rfl, b9⟩))
      go_ret
      exact ⟨rfl, Below.next (Below.next (Below.next (Below.next b1 b2) b3) b4) b9⟩
  · go_enter Try.func7, Try.ntmps7
    go_wp2_with (first
      | (go_at_call 9; with_reducible (refine (normal_bad0 _ _ _ _ _ R0.out hn hbad).mono ?_); rintro e w1 ⟨x1, c1, rfl, b1⟩)
      | (go_at_call 8; with_reducible (refine (awake_any _).mono ?_); rintro e w9 ⟨rfl, b9⟩))
    go_ret
    exact ⟨rfl, Below.next b1 b9⟩

/-! ### THE ROW's STEP: WRITTEN OUT: LEAVE IT -/
set_option maxRecDepth 100000 in
theorem lifted (os : Os) (started : os.Started) (H : Type) (enc : TypeId × Value → H) :
    ReturnsInHanded {} Try.checked os 7 .any (Rows.clauseAlwaysSpec.pre6 enc Try.prog Try.f7 Rows.clauseAlwaysRow.domain false) (Rows.clauseAlwaysSpec.post enc Try.prog Try.f7 false true false false) := by
  refine returnsInHanded_of_change (C := Try.checked) own started (by kernel_rfl) Try.func7
    (ChangeSpec.witness6 (enc := enc) (C := Try.checked) false ⟨#[], #[.slice none 0 0, .slice none 0 0], []⟩ 8 (by kernel_rfl) (by kernel_rfl) (by kernel_rfl) (by kernel_rfl)) ?_
  intro W base args ds gs before hval0 hW hcnd _
  have hval : ∀ (j : Nat) t v, Try.f7.params[j]? = some t → args[j]? = some v → Value.okWide Try.prog W .any base t v := hval0
  have hW' := hW
  obtain ⟨p, q, hA0, hV, rfl, hfz, hnd⟩ := hW
  have hA : DataW.TrodAll enc Try.prog W 0 (fun _ => true) true Try.f7.params.toList args.toList ds p := hA0
  rw [Try.params7] at hA hval
  obtain ⟨v0, vs0, d0, ds0, p0, q0, hargs, rfl, rfl, h0, r0⟩ := trodAll_cons hA
  obtain ⟨v1, vs1, d1, ds1, p1, q1, rfl, rfl, rfl, h1, r1⟩ := trodAll_cons r0
  obtain ⟨rfl, rfl, rfl⟩ := trodAll_nil r1
  obtain rfl : args = #[v0, v1] := by cases args; simp_all
  obtain ⟨rfl, rfl⟩ := trodVars_none hV
  obtain ⟨a0, len0, cap0, rfl⟩ := okWide_slice Try.underlying22 (hval 0 22 v0 rfl rfl)
  have k0 := h0
  have lt0 : ∀ x ∈ p0, x.block < W.heap.size := by obtain ⟨m, hm⟩ := k0; exact DataW.trod_lt m _ _ _ hm
  obtain ⟨z0, w0⟩ : ∃ zs, IsRow .i64 W a0 len0 cap0 zs := by
    obtain ⟨fuel, hf⟩ := h0
    rcases open_ints Try.underlying22 Try.underlying3 (by kernel_rfl) hf with ⟨hcs, _⟩ | ⟨x, l, c, zs, hcs, _, hl, hm, hz, _, hcell, hwz⟩
    · simp [Value.cells] at hcs
      obtain ⟨rfl, rfl, rfl⟩ := hcs
      exact ⟨[], .inl ⟨rfl, rfl, rfl, rfl⟩⟩
    · simp [Value.cells] at hcs
      obtain ⟨rfl, rfl, rfl⟩ := hcs
      exact ⟨zs, .inr ⟨_, rfl, hl, hm, by simpa using hz, hcell, hwz⟩⟩
  obtain ⟨a1, len1, cap1, rfl⟩ := okWide_slice Try.underlying31 (hval 1 31 v1 rfl rfl)
  have k1 := h1
  have lt1 : ∀ x ∈ p1, x.block < W.heap.size := by obtain ⟨m, hm⟩ := k1; exact DataW.trod_lt m _ _ _ hm
  obtain ⟨z1, w1⟩ : ∃ zs, IsBools W a1 len1 cap1 zs := by
    obtain ⟨fuel, hf⟩ := h1
    rcases Go.Deep.open_bools Try.underlying31 Try.underlying4 (by kernel_rfl) hf with ⟨hcs, _⟩ | ⟨x, l, c, B, hcs, _, hl, hm, _, hcell⟩
    · simp [Value.cells] at hcs
      obtain ⟨rfl, rfl, rfl⟩ := hcs
      exact ⟨fun _ => false, .inl ⟨rfl, rfl, rfl⟩⟩
    · simp [Value.cells] at hcs
      obtain ⟨rfl, rfl, rfl⟩ := hcs
      exact ⟨B, .inr ⟨_, rfl, hl, hm, fun i hi => hcell i (by omega)⟩⟩
  clear hA0 hval0
  refine (walk a0 len0 cap0 z0 a1 len1 cap1 z1 W w0 w1).mono fun e W' ⟨he, bel⟩ => ?_
  subst he
  exact ⟨_, rfl, _, _, _, [], _, [], hW', trodAll_mk1 (shut_bool Try.underlying4 _), (trodAll_cons_mk (Below.trod laidOut (by kernel_rfl) (of_decide_eq_true (by kernel_rfl)) k0 bel lt0) (trodAll_cons_mk (Below.trod laidOut (by kernel_rfl) (of_decide_eq_true (by kernel_rfl)) k1 bel lt1) trodAll_mk0)), rfl, bel.frame _, fun h => by cases h⟩

theorem over : Rows.clauseAlwaysRow.holds Try.pinned (OpenSpec.ofChange Rows.clauseAlwaysSpec) :=
  OpenClaim.holds_of_wide 7 Try.f7 rfl rfl rfl rfl rfl rfl rfl ⟨rfl, rfl, rfl, rfl, rfl⟩ rfl rfl rfl rfl rfl (by kernel_rfl) Try.func7 (by kernel_rfl)
    (of_decide_eq_true (by kernel_rfl)) (by unfold Func.isWrapper; first | (rw [if_pos (by decide +kernel)]; kernel_rfl) | (rw [if_neg (by decide +kernel)]; exact ⟨rfl, rfl⟩))
    (fun os started H enc _ => lifted os started H enc)

/-- ████ THE STATEMENT ████ -/
theorem proved : Rows.ClauseAlwaysSaid := over
#print axioms proved
end Go.Proofs.Ytgnoejcekbfkoaa.clauseAlways
