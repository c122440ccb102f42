/-
  SemFits: the walk.
-/
import Derived.Test.YtbekgejbgmdbdaaFw
namespace Go.Proofs.Ytbekgejbgmdbdaa
open Go.RowKit Go.Maps
set_option linter.unusedVariables false
set_option maxRecDepth 20000

theorem fit_word {N : List Nd} (r : Wl N) (g : Gd N) (E : List Int) {i : Nat} (hi : i < N.length) : cutF (wdF N i) (vF N E i) = vF N E i := by
  have h := vF_fit r g E i hi
  have hw := wdF_in g (isN_nat hi)
  obtain ⟨n, hn, h1, h2⟩ := width_nat hw.1 hw.2
  rw [hn] at h ⊢
  exact Wd.cut_id n _ h1 h2 h.1 (by simpa using h.2)

set_option maxHeartbeats 8000000 in
theorem fits_walk (a0 : Option Addr) (len0 cap0 : Nat) (D : Nat → Dd) (a1 : Option Addr) (len1 cap1 : Nat) (E1 : List Int) (a2 : Option Addr) (len2 cap2 : Nat) (E2 : List Int) (w : World) (hD : Deeds w a0 len0 D) (h1 : Us w a1 len1 E1) (h2 : Us w a2 len2 E2) :
    Calls Try.prog 4 #[.slice a0 len0 cap0, .slice a1 len1 cap1, .slice a2 len2 cap2] w fun e w' => e = .returned (.bool true) ∧ Below w.heap.size w w' := by
  have HD := hid hD
  have HE1 := hid h1
  have HE2 := hid h2
  clear hD h1 h2
  by_cases hl : 100 < len0 ∨ 300 < len1 ∨ 300 < len2
  · by_cases l0 : 100 < len0
    · have l0' : (100 : Int) < len0 := by omega
      clear hl
      go_enter Try.func4, Try.ntmps4
      go_wp2_with (go_at_call 5; with_reducible (refine (awake_any _).mono ?_); rintro e w6 ⟨rfl, b6⟩)
      go_ret
      exact ⟨rfl, b6.out⟩
    · have l0' : ¬ (100 : Int) < len0 := by omega
      by_cases l1 : 300 < len1
      · have l1' : (300 : Int) < len1 := by omega
        clear hl
        go_enter Try.func4, Try.ntmps4
        go_wp2_with (go_at_call 5; with_reducible (refine (awake_any _).mono ?_); rintro e w6 ⟨rfl, b6⟩)
        go_ret
        exact ⟨rfl, b6.out⟩
      · have l1' : ¬ (300 : Int) < len1 := by omega
        have l2' : (300 : Int) < len2 := by omega
        clear hl
        go_enter Try.func4, Try.ntmps4
        go_wp2_with (go_at_call 5; with_reducible (refine (awake_any _).mono ?_); rintro e w6 ⟨rfl, b6⟩)
        go_ret
        exact ⟨rfl, b6.out⟩
  have l0' : ¬ (100 : Int) < len0 := by omega
  have l1' : ¬ (300 : Int) < len1 := by omega
  have l2' : ¬ (300 : Int) < len2 := by omega
  have HL0 : Hid (len0 ≤ 150) := hid (by omega)
  clear hl
  go_enter Try.func4, Try.ntmps4
  go_wp2_with (go_at_call 6; with_reducible (refine (build_any 1000 a0 len0 cap0 D _ HD.out HL0.out).mono ?_); rintro e w1 ⟨k, N, P, ao, c, rfl, s1, r1, b1, wl1, hn1⟩)
  have HS := hid (ls_start s1.out r1.out b1.out)
  have HL : Hid (N.length ≤ 150) := hid (Nat.le_trans hn1 HL0.out)
  have GD := hid s1.out.1
  have HW := wl1
  clear s1 r1 b1 wl1 hn1
  revert HS
  generalize w1.alloc (.cells #[.slice ao N.length c, .int .i64 k.M] 28) = wz
  generalize w1.heap.size = XB
  intro HS
  go_loopw [9] (fun i wr => ∃ m : Nat, m ≤ N.length ∧ i = .int .i64 m ∧ Hid (LS w k XB N P ao c wr)) (fun i _ => N.length - (intOf i).toNat)
  case atStart => exact ⟨0, Nat.zero_le _, rfl, HS⟩
  case round =>
    clear HS
    obtain ⟨m, hm, rfl, hr⟩ := hrel
    obtain ⟨k0, k1⟩ := hr.out.two
    have hL := HL.out
    by_cases hlt : m < N.length
    · have hlt' : (m : Int) < N.length := by omega
      have HLT := hid hlt
      obtain ⟨v1, hv1⟩ : ∃ v1, vF N E1 m = v1 := ⟨_, rfl⟩
      obtain ⟨v2, hv2⟩ : ∃ v2, vF N E2 m = v2 := ⟨_, rfl⟩
      obtain ⟨wd, hwd⟩ : ∃ wd, wdF N m = wd := ⟨_, rfl⟩
      obtain ⟨vs, hvs⟩ := var_some HW.out GD.out hlt
      have HV1 := hid hv1
      have HV2 := hid hv2
      have HWD := hid hwd
      have HVS := hid hvs
      have HWD1 : Hid (Wd64 v1) := hid (by rw [← hv1]; exact vF_wd HW.out GD.out E1 m hlt)
      have HC1 : Hid (cutF wd v1 = v1) := hid (by rw [← hv1, ← hwd]; exact fit_word HW.out GD.out E1 hlt)
      have x1 : (v1 != v1) = false := by simp
      clear hv1 hv2 hwd hvs hlt hL
      go_wp2_with (first
        | (go_at_call 8; with_reducible (refine (value_yes hr.out.dg HW.out HL.out (HE1.out.below hr.out.be) m HLT.out HV1.out).mono ?_); rintro e w2 ⟨rfl, b2⟩; have L2 := hid (hr.out.below b2.out); have kk := L2.out.two; obtain ⟨k20, k21⟩ := kk)
        | (go_at_call 16; with_reducible (refine (rwidth_is L2.out.rd (m : Int) HWD.out).mono ?_); rintro e w3 ⟨rfl, b3⟩; have L3 := hid (L2.out.below b3.out))
        | (go_at_call 15; with_reducible (refine (rcut_is wd _ HWD1.out HC1.out).mono ?_); rintro e w4 ⟨rfl, rfl⟩)
        | (go_at_call 10; with_reducible (refine (vars_any L3.out.dg HW.out HL.out m HLT.out HVS.out).mono ?_); rintro e w5 ⟨ao5, c5, rfl, r5, b5⟩; have L5 := hid (L3.out.below b5.out)))
      have F1 := hid (HE1.out.below L5.out.be)
      have F2 := hid (HE2.out.below L5.out.be)
      have HVN := hid (vs_nat HW.out GD.out HLT.out HVS.out)
      have hvm := r5.out.max
      clear k0 k1 k20 k21
      go_loop [13, 14] (fun sm i => ∃ q : Nat, q ≤ vs.length ∧ i = .int .i64 q ∧ sm = .bool (eqE E1 E2 (vs.take q))) (fun _ i => vs.length - (intOf i).toNat)
      case atStart => exact ⟨0, Nat.zero_le _, rfl, rfl⟩
      case round =>
        obtain ⟨q, hq, rfl, rfl⟩ := hrel
        by_cases hq2 : q < vs.length
        · have hq2' : (q : Int) < vs.length := by omega
          obtain ⟨b, off, y, rfl, hcy, hy, y0, y1⟩ := r5.out.at hq2
          obtain ⟨yn, rfl⟩ := Int.eq_ofNat_of_zero_le (HVN.out y (List.mem_of_getElem? hy.out))
          obtain ⟨sb, hsb⟩ : ∃ sb, eqE E1 E2 (vs.take q) = sb := ⟨_, rfl⟩
          obtain ⟨p1, hp1⟩ : ∃ p1, enF E1 (yn : Int) = p1 := ⟨_, rfl⟩
          obtain ⟨p2, hp2⟩ : ∃ p2, enF E2 (yn : Int) = p2 := ⟨_, rfl⟩
          have HST : Hid (eqE E1 E2 (vs.take (q + 1)) = (sb && (p1 == p2))) := hid (by rw [eqE_step hy.out, hsb, hp1, hp2])
          rw [hsb]
          have key : ∀ {a : Option Addr} {len : Nat} {E : List Int} {p : Int}, Us w5 a len E → enF E (yn : Int) = p → (yn < len ∧ ∃ b o, a = some ⟨b, o, none⟩ ∧ w5.cell? ⟨b, o + yn, none⟩ = some (.int .u64 p)) ∨ (¬ yn < len ∧ p = 0) := by
            intro a len E p hU hp
            by_cases h : yn < len
            · obtain ⟨b, o, e1, e2⟩ := hU.at h
              exact .inl ⟨h, b, o, e1, by rw [e2, hp]⟩
            · exact .inr ⟨h, by rw [← hp]; exact enF_out hU h⟩
          have K1 := key F1.out hp1
          have K2 := key F2.out hp2
          clear key hp1 hp2 hsb hy y0 y1
          rcases K1 with ⟨j1, e1, o1, rfl, z1⟩ | ⟨j1, rfl⟩
          · have j1' : (yn : Int) < len1 := by omega
            rcases K2 with ⟨j2, e2, o2, rfl, z2⟩ | ⟨j2, rfl⟩
            · have j2' : (yn : Int) < len2 := by omega
              clear j1 j2
              cases sb
              · go_wp2_with fail
                go_round
                case rel => exact ⟨q + 1, by omega, by go_num, by rw [HST.out]; rfl⟩
                case measure => simp only [intOf]; omega
              · cases hpe : (p1 == p2)
                · have HS2 : Hid (eqE E1 E2 (vs.take (q + 1)) = false) := hid (by rw [HST.out, hpe]; rfl)
                  go_wp2_with fail
                  go_round
                  case rel => exact ⟨q + 1, by omega, by go_num, by rw [HS2.out]⟩
                  case measure => simp only [intOf]; omega
                · have HS2 : Hid (eqE E1 E2 (vs.take (q + 1)) = true) := hid (by rw [HST.out, hpe]; rfl)
                  go_wp2_with fail
                  go_round
                  case rel => exact ⟨q + 1, by omega, by go_num, by rw [HS2.out]⟩
                  case measure => simp only [intOf]; omega
            · have j2' : ¬ (yn : Int) < len2 := by omega
              clear j1 j2
              cases sb
              · go_wp2_with fail
                go_round
                case rel => exact ⟨q + 1, by omega, by go_num, by rw [HST.out]; rfl⟩
                case measure => simp only [intOf]; omega
              · cases hpe : (p1 == 0)
                · have HS2 : Hid (eqE E1 E2 (vs.take (q + 1)) = false) := hid (by rw [HST.out, hpe]; rfl)
                  go_wp2_with fail
                  go_round
                  case rel => exact ⟨q + 1, by omega, by go_num, by rw [HS2.out]⟩
                  case measure => simp only [intOf]; omega
                · have HS2 : Hid (eqE E1 E2 (vs.take (q + 1)) = true) := hid (by rw [HST.out, hpe]; rfl)
                  go_wp2_with fail
                  go_round
                  case rel => exact ⟨q + 1, by omega, by go_num, by rw [HS2.out]⟩
                  case measure => simp only [intOf]; omega
          · have j1' : ¬ (yn : Int) < len1 := by omega
            rcases K2 with ⟨j2, e2, o2, rfl, z2⟩ | ⟨j2, rfl⟩
            · have j2' : (yn : Int) < len2 := by omega
              clear j1 j2
              cases sb
              · go_wp2_with fail
                go_round
                case rel => exact ⟨q + 1, by omega, by go_num, by rw [HST.out]; rfl⟩
                case measure => simp only [intOf]; omega
              · cases hpe : (0 == p2)
                · have HS2 : Hid (eqE E1 E2 (vs.take (q + 1)) = false) := hid (by rw [HST.out, hpe]; rfl)
                  go_wp2_with fail
                  go_round
                  case rel => exact ⟨q + 1, by omega, by go_num, by rw [HS2.out]⟩
                  case measure => simp only [intOf]; omega
                · have HS2 : Hid (eqE E1 E2 (vs.take (q + 1)) = true) := hid (by rw [HST.out, hpe]; rfl)
                  go_wp2_with fail
                  go_round
                  case rel => exact ⟨q + 1, by omega, by go_num, by rw [HS2.out]⟩
                  case measure => simp only [intOf]; omega
            · have j2' : ¬ (yn : Int) < len2 := by omega
              clear j1 j2
              cases sb
              · go_wp2_with fail
                go_round
                case rel => exact ⟨q + 1, by omega, by go_num, by rw [HST.out]; rfl⟩
                case measure => simp only [intOf]; omega
              · have HS2 : Hid (eqE E1 E2 (vs.take (q + 1)) = true) := hid (by rw [HST.out]; rfl)
                go_wp2_with fail
                go_round
                case rel => exact ⟨q + 1, by omega, by go_num, by rw [HS2.out]⟩
                case measure => simp only [intOf]; omega
        · have hq2' : ¬ (q : Int) < vs.length := by omega
          obtain rfl : q = vs.length := by omega
          have hm9 : m ≤ 150 := by have := HLT.out; have := HL.out; omega
          rw [List.take_length]
          obtain ⟨sb, hsb⟩ : ∃ sb, eqE E1 E2 vs = sb := ⟨_, rfl⟩
          rw [hsb]
          cases sb
          · clear hsb
            go_wp2_with (go_at_call 8; with_reducible (refine (value_yes L5.out.dg HW.out HL.out F2.out m HLT.out HV2.out).mono ?_); rintro e w7 ⟨rfl, b7⟩)
            go_roundw
            case rel => exact ⟨m + 1, HLT.out, by go_num, hid (L5.out.below b7.out)⟩
            case measure => have := HLT.out; simp only [intOf]; omega
          · have hvv : v1 = v2 := by rw [← HV1.out, ← HV2.out]; exact same_word HW.out GD.out HLT.out HVS.out hsb
            subst hvv
            clear hsb
            go_wp2_with (go_at_call 8; with_reducible (refine (value_yes L5.out.dg HW.out HL.out F2.out m HLT.out HV2.out).mono ?_); rintro e w7 ⟨rfl, b7⟩)
            go_roundw
            case rel => exact ⟨m + 1, HLT.out, by go_num, hid (L5.out.below b7.out)⟩
            case measure => have := HLT.out; simp only [intOf]; omega
    · have hlt' : ¬ (m : Int) < N.length := by omega
      go_wp2_with (go_at_call 5; with_reducible (refine (awake_any _).mono ?_); rintro e w6 ⟨rfl, b6⟩)
      go_ret
      exact ⟨rfl, Below.next hr.out.be b6.out⟩

end Go.Proofs.Ytbekgejbgmdbdaa
