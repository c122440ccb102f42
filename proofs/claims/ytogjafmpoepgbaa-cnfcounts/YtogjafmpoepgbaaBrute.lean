/-
  Count and First, of the program and of the document.
-/
import Derived.Test.YtogjafmpoepgbaaTruths
namespace Go.Proofs.Ytogjafmpoepgbaa
open Go.RowKit
set_option linter.unusedVariables false

theorem pow_num {vars n : Nat} (hv : vars ≤ 16) (hn : n = 2 ^ vars) : n ≤ 65536 ∧ IntKind.i64.wrap ((2 : Int) ^ vars) = (n : Int) := by
  have n2 : n ≤ 65536 := by rw [hn]; exact Nat.pow_le_pow_right (n := 2) (by omega) hv
  refine ⟨n2, ?_⟩
  have e : ((2 : Int) ^ vars) = ((2 ^ vars : Nat) : Int) := by simp
  rw [e, ← hn]
  exact IntWalk.i64_in _ (by omega)

theorem ok_fst (vars : Nat) (xss : List (List Int)) (i : Nat) : decide (fstN xss vars (fun v => i.testBit v) < 0) = okF vars xss i := fstN_neg xss vars _

set_option maxHeartbeats 4000000 in
theorem rall_any (vars n : Nat) (hv : vars ≤ 16) (hn : n = 2 ^ vars) (ao : Option Addr) (L cap : Nat) (xss : List (List Int)) (w : World) (h : Grid w ao L cap xss) :
    Calls Try.prog 25 #[.int .i64 (vars : Int), .slice ao L cap] w fun e w' => e = .returned (.tuple #[.int .i64 (cntF (okF vars xss) n : Nat), .int .i64 (firF (okF vars xss) n)]) ∧ Below w.heap.size w w' := by
  have HR : Hid (Grid w ao L cap xss) := h
  obtain ⟨n2, hsh⟩ := pow_num hv hn
  clear h hn
  go_enter Try.func25, Try.ntmps25
  go_wp2
  go_loopw [6, 7, 8] (fun s6 s7 s8 wr => ∃ (k c : Nat) (f : Int), k ≤ n ∧ s6 = .int .i64 c ∧ s7 = .int .i64 f ∧ s8 = .int .i64 k ∧ c ≤ k ∧ Hid (c = cntF (okF vars xss) k ∧ f = firF (okF vars xss) k) ∧ Below w.heap.size w wr) (fun _ _ s _ => n - (intOf s).toNat)
  case atStart => exact ⟨0, 0, -1, Nat.zero_le _, rfl, rfl, rfl, Nat.le_refl _, ⟨rfl, rfl⟩, Below.refl _ _⟩
  case round =>
    obtain ⟨k, c, f, hk, rfl, rfl, rfl, hck, HCF, hb⟩ := hrel
    by_cases hlt : k < n
    · have k2 : k < 65536 := by omega
      have HG : Hid (Grid wr ao L cap xss) := HR.out.keep hb
      have hlt' : (k : Int) < n := by omega
      cases ho : okF vars xss k
      · have hf : ¬ fstN xss vars (fun v => k.testBit v) < 0 := by have := ok_fst vars xss k; rw [ho] at this; simpa using this
        have HX : Hid (c = cntF (okF vars xss) (k + 1) ∧ f = firF (okF vars xss) (k + 1)) := ⟨by rw [cnt_no ho]; exact HCF.out.1, by rw [fir_no ho]; exact HCF.out.2⟩
        go_wp2_with (first
          | (go_at_call 28; with_reducible (refine (rtruths_any vars k hv k2 _).mono ?_); rintro e w1 ⟨bo, d, rfl, hB, hb1⟩)
          | (go_at_call 11; with_reducible (refine (rholdsG_any _ _ _ xss _ (HG.out.keep hb1) _ _ _ _ hB.out).mono ?_); rintro e w2 ⟨rfl, rfl⟩))
        go_roundw
        case rel => exact ⟨k + 1, c, f, by omega, rfl, rfl, by go_num, by omega, HX, Below.next hb hb1⟩
        case measure => simp [intOf]; omega
      · have hf : fstN xss vars (fun v => k.testBit v) < 0 := by have := ok_fst vars xss k; rw [ho] at this; simpa using this
        by_cases hz : f < 0
        · have HX : Hid (c + 1 = cntF (okF vars xss) (k + 1) ∧ (k : Int) = firF (okF vars xss) (k + 1)) := ⟨by rw [cnt_yes ho, HCF.out.1], by rw [fir_new ho (by rw [← HCF.out.2]; exact hz)]⟩
          go_wp2_with (first
            | (go_at_call 28; with_reducible (refine (rtruths_any vars k hv k2 _).mono ?_); rintro e w1 ⟨bo, d, rfl, hB, hb1⟩)
            | (go_at_call 11; with_reducible (refine (rholdsG_any _ _ _ xss _ (HG.out.keep hb1) _ _ _ _ hB.out).mono ?_); rintro e w2 ⟨rfl, rfl⟩))
          go_roundw
          case rel => exact ⟨k + 1, c + 1, k, by omega, by go_num, rfl, by go_num, by omega, HX, Below.next hb hb1⟩
          case measure => simp [intOf]; omega
        · have HX : Hid (c + 1 = cntF (okF vars xss) (k + 1) ∧ f = firF (okF vars xss) (k + 1)) := ⟨by rw [cnt_yes ho, HCF.out.1], by rw [fir_old (by rw [← HCF.out.2]; exact hz)]; exact HCF.out.2⟩
          go_wp2_with (first
            | (go_at_call 28; with_reducible (refine (rtruths_any vars k hv k2 _).mono ?_); rintro e w1 ⟨bo, d, rfl, hB, hb1⟩)
            | (go_at_call 11; with_reducible (refine (rholdsG_any _ _ _ xss _ (HG.out.keep hb1) _ _ _ _ hB.out).mono ?_); rintro e w2 ⟨rfl, rfl⟩))
          go_roundw
          case rel => exact ⟨k + 1, c + 1, f, by omega, by go_num, rfl, by go_num, by omega, HX, Below.next hb hb1⟩
          case measure => simp [intOf]; omega
    · have hkk : k = n := by omega
      subst hkk
      go_wp2
      go_ret2
      exact ⟨by rw [← HCF.out.1, ← HCF.out.2]; rfl, hb⟩

/-! ### What Count and First answer -/
def cntI (vars : Int) (xss : List (List Int)) : Int := if mayF vars xss = 0 then (cntF (okF vars.toNat xss) (2 ^ vars.toNat) : Nat) else 0
def firI (vars : Int) (xss : List (List Int)) : Int := if mayF vars xss = 0 then firF (okF vars.toNat xss) (2 ^ vars.toNat) else -1
def lenI (vars : Int) (xss : List (List Int)) : Nat := if firI vars xss < 0 then 0 else vars.toNat
def isI (vars : Int) (xss : List (List Int)) : Bool := decide (¬ firI vars xss < 0)
def bitI (vars : Int) (xss : List (List Int)) (v : Nat) : Bool := (firI vars xss).toNat.testBit v

theorem may_ok {vars : Int} {xss : List (List Int)} (h : mayF vars xss = 0) : ∃ v : Nat, vars = v ∧ v ≤ 16 ∧ badG v xss = false := by
  by_cases hc : chkF vars xss = 0
  · have h16 : ¬ 16 < vars := by
      intro h16
      rw [may_many hc h16] at h; simp at h
    by_cases h0 : vars < 0 ∨ 1048576 < vars
    · rw [chk_low xss h0] at hc; simp at hc
    · have h1 : ¬ 1048576 < xss.length := by
        intro h1
        rw [chk_many (by omega) (by omega) h1] at hc; simp at hc
      have h2 : badG vars xss = false := by
        cases e : badG vars xss
        · rfl
        · rw [chk_bad (by omega) (by omega) h1 e] at hc; simp at hc
      refine ⟨vars.toNat, by omega, by omega, ?_⟩
      rw [show ((vars.toNat : Nat) : Int) = vars by omega]
      exact h2
  · rw [may_not hc] at h; exact absurd h hc

theorem cnt_good {v : Nat} {xss : List (List Int)} (h : mayF v xss = 0) : cntI v xss = (cntF (okF v xss) (2 ^ v) : Nat) := by simp [cntI, h]
theorem cnt_bad {vars : Int} {xss : List (List Int)} (h : ¬ mayF vars xss = 0) : cntI vars xss = 0 := by simp [cntI, h]
theorem fir_good {v : Nat} {xss : List (List Int)} (h : mayF v xss = 0) : firI v xss = firF (okF v xss) (2 ^ v) := by simp [firI, h]
theorem fir_bad {vars : Int} {xss : List (List Int)} (h : ¬ mayF vars xss = 0) : firI vars xss = -1 := by simp [firI, h]

theorem rcount_any (vars : Int) (ao : Option Addr) (L cap : Nat) (xss : List (List Int)) (w : World) (h : Grid w ao L cap xss) :
    Calls Try.prog 13 #[.int .i64 vars, .slice ao L cap] w fun e w' => e = .returned (.tuple #[.int .i64 (cntI vars xss), .int .i64 (mayF vars xss)]) ∧ Below w.heap.size w w' := by
  have HR : Hid (Grid w ao L cap xss) := h
  clear h
  by_cases hm : mayF vars xss = 0
  · obtain ⟨v, rfl, hv, hg⟩ := may_ok hm
    have HV : Hid (cntI v xss = (cntF (okF v xss) (2 ^ v) : Nat)) := cnt_good hm
    go_enter Try.func13, Try.ntmps13
    go_wp2_with (first
      | (go_at_call 24; with_reducible (refine (rmay_any _ _ _ _ xss _ HR.out).mono ?_); rintro e w1 ⟨rfl, rfl⟩)
      | (go_at_call 25; with_reducible (refine (rall_any v (2 ^ v) hv rfl _ _ _ xss _ HR.out).mono ?_); rintro e w2 ⟨rfl, hb2⟩))
    go_ret2
    exact ⟨by rw [HV.out, hm]; rfl, hb2⟩
  · have HV : Hid (cntI vars xss = 0) := cnt_bad hm
    have hm' : (mayF vars xss == 0) = false := by simpa using hm
    go_enter Try.func13, Try.ntmps13
    go_wp2_with (go_at_call 24; with_reducible (refine (rmay_any _ _ _ _ xss _ HR.out).mono ?_); rintro e w1 ⟨rfl, rfl⟩)
    go_ret2
    exact ⟨by rw [HV.out]; rfl, Below.refl _ _⟩

set_option maxHeartbeats 4000000 in
theorem count_any (vars : Int) (ao : Option Addr) (L cap : Nat) (xss : List (List Int)) (w : World) (h : Grid w ao L cap xss) (hL : L ≤ 1000) :
    Calls Try.prog 12 #[.int .i64 vars, .slice ao L cap] w fun e w' => e = .returned (.tuple #[.int .i64 (cntI vars xss), .int .i64 (mayF vars xss)]) ∧ Below w.heap.size w w' := by
  have HR : Hid (Grid w ao L cap xss) := h
  clear h
  by_cases hm : mayF vars xss = 0
  · obtain ⟨v, rfl, hv, hg⟩ := may_ok hm
    have HG : Hid (badG v xss = false) := hg
    obtain ⟨n, hn⟩ : ∃ n, n = 2 ^ v := ⟨_, rfl⟩
    have HV : Hid (cntI v xss = (cntF (okF v xss) n : Nat)) := by show _ = _; rw [hn]; exact cnt_good hm
    have n2 := (pow_num hv hn).1
    have HN : Hid (n = 2 ^ v) := hn
    clear hg hn
    go_enter Try.func12, Try.ntmps12
    go_wp2_with (first
      | (go_at_call 22; with_reducible (refine (brute_any _ _ _ _ xss _ HR.out).mono ?_); rintro e w1 ⟨rfl, hb1⟩)
      | (go_at_call 23; with_reducible (refine (failing_any v n hv HN.out _ _ _ xss _ (HR.out.keep hb1) hL HG.out).mono ?_); rintro e w2 ⟨g, rfl, hM, hb2⟩))
    go_loop [7, 20] (fun s7 s => ∃ k c : Nat, k ≤ n ∧ s7 = .int .i64 c ∧ s = .int .i64 k ∧ c ≤ k ∧ Hid (c = cntF (okF v xss) k)) (fun _ s => n - (intOf s).toNat)
    case atStart => exact ⟨0, 0, Nat.zero_le _, rfl, rfl, Nat.le_refl _, rfl⟩
    case round =>
      obtain ⟨k, c, hk, rfl, rfl, hck, HC⟩ := hrel
      by_cases hlt : k < n
      · obtain ⟨b, hc, hbb, hfr⟩ := hM.out.at hlt
        cases b
        · have ho : okF v xss k = true := by
            have := mt (ok_iff v xss k).2 (fun h => by have := hbb.out.2 h; simp at this)
            simpa using this
          have HX : Hid (c + 1 = cntF (okF v xss) (k + 1)) := by show _ = _; rw [cnt_yes ho, HC.out]
          go_wp2
          go_round
          case rel => exact ⟨k + 1, c + 1, by omega, by go_num, by go_num, by omega, HX⟩
          case measure => simp [intOf]; omega
        · have ho : okF v xss k = false := (ok_iff v xss k).1 (hbb.out.1 rfl)
          have HX : Hid (c = cntF (okF v xss) (k + 1)) := by show _ = _; rw [cnt_no ho]; exact HC.out
          go_wp2
          go_round
          case rel => exact ⟨k + 1, c, by omega, rfl, by go_num, by omega, HX⟩
          case measure => simp [intOf]; omega
      · have hkk : k = n := by omega
        subst hkk
        go_wp2
        go_ret2
        exact ⟨by rw [HV.out, ← HC.out]; rfl, Below.next hb1 hb2⟩
  · have HV : Hid (cntI vars xss = 0) := cnt_bad hm
    have hm' : (mayF vars xss == 0) = false := by simpa using hm
    go_enter Try.func12, Try.ntmps12
    go_wp2_with (go_at_call 22; with_reducible (refine (brute_any _ _ _ _ xss _ HR.out).mono ?_); rintro e w1 ⟨rfl, hb1⟩)
    go_ret2
    exact ⟨by rw [HV.out]; rfl, hb1⟩

/-! ### First -/
theorem len_none {vars : Int} {xss : List (List Int)} (h : firI vars xss < 0) : lenI vars xss = 0 ∧ isI vars xss = false := by simp [lenI, isI, h]
theorem len_some {v i : Nat} {xss : List (List Int)} (h : firI v xss = (i : Int)) : lenI v xss = v ∧ isI v xss = true ∧ bitI v xss = fun b => i.testBit b := by
  have h2 : ¬ firI v xss < 0 := by omega
  refine ⟨by simp [lenI, h2], by simp only [isI, h2]; rfl, ?_⟩
  funext b
  simp [bitI, h]

set_option maxHeartbeats 4000000 in
theorem first_any (vars : Int) (ao : Option Addr) (L cap : Nat) (xss : List (List Int)) (w : World) (h : Grid w ao L cap xss) (hL : L ≤ 1000) :
    Calls Try.prog 14 #[.int .i64 vars, .slice ao L cap] w fun e w' => ∃ bo c, e = .returned (.tuple #[.slice bo (lenI vars xss) c, .bool (isI vars xss), .int .i64 (mayF vars xss)]) ∧ Hid (IsBools w' bo (lenI vars xss) c (bitI vars xss)) ∧ Below w.heap.size w w' := by
  have HR : Hid (Grid w ao L cap xss) := h
  clear h
  by_cases hm : mayF vars xss = 0
  · obtain ⟨v, rfl, hv, hg⟩ := may_ok hm
    have HG : Hid (badG v xss = false) := hg
    obtain ⟨n, hn⟩ : ∃ n, n = 2 ^ v := ⟨_, rfl⟩
    have HF : Hid (firI v xss = firF (okF v xss) n) := by show _ = _; rw [hn]; exact fir_good hm
    have n2 := (pow_num hv hn).1
    have HN : Hid (n = 2 ^ v) := hn
    clear hg hn
    rcases fir_lt (okF v xss) n with ⟨hz, hz1⟩ | ⟨i, hi, hz, hpi⟩
    · have HL : Hid (lenI v xss = 0 ∧ isI v xss = false) := len_none (by rw [HF.out]; exact hz)
      clear hz1
      go_enter Try.func14, Try.ntmps14
      go_wp2_with (first
        | (go_at_call 22; with_reducible (refine (brute_any _ _ _ _ xss _ HR.out).mono ?_); rintro e w1 ⟨rfl, hb1⟩)
        | (go_at_call 23; with_reducible (refine (failing_any v n hv HN.out _ _ _ xss _ (HR.out.keep hb1) hL HG.out).mono ?_); rintro e w2 ⟨g, rfl, hM, hb2⟩)
        | (go_at_call 26; with_reducible (refine (index_any v n g n2 xss _ hM.out).mono ?_); rintro e w3 ⟨rfl, rfl⟩))
      go_ret3
      exact ⟨none, 0, by rw [HL.out.1, HL.out.2, hm]; rfl, by rw [HL.out.1]; exact .inl ⟨rfl, rfl, rfl⟩, Below.next hb1 hb2⟩
    · have HL : Hid (lenI v xss = v ∧ isI v xss = true ∧ bitI v xss = fun b => i.testBit b) := len_some (by rw [HF.out]; exact hz)
      have i2 : i < 65536 := by omega
      go_enter Try.func14, Try.ntmps14
      go_wp2_with (first
        | (go_at_call 22; with_reducible (refine (brute_any _ _ _ _ xss _ HR.out).mono ?_); rintro e w1 ⟨rfl, hb1⟩)
        | (go_at_call 23; with_reducible (refine (failing_any v n hv HN.out _ _ _ xss _ (HR.out.keep hb1) hL HG.out).mono ?_); rintro e w2 ⟨g, rfl, hM, hb2⟩)
        | (go_at_call 26; with_reducible (refine (index_any v n g n2 xss _ hM.out).mono ?_); rintro e w3 ⟨rfl, rfl⟩)
        | (go_at_call 27; with_reducible (refine (truths_any v i hv i2 _).mono ?_); rintro e w4 ⟨g4, rfl, hB4, hb4⟩))
      go_ret3
      exact ⟨_, v, by rw [HL.out.1, HL.out.2.1, hm]; rfl, by rw [HL.out.1, HL.out.2.2]; exact hB4, Below.next (Below.next hb1 hb2) hb4⟩
  · have HL : Hid (lenI vars xss = 0 ∧ isI vars xss = false) := len_none (by rw [fir_bad hm]; omega)
    have hm' : (mayF vars xss == 0) = false := by simpa using hm
    go_enter Try.func14, Try.ntmps14
    go_wp2_with (go_at_call 22; with_reducible (refine (brute_any _ _ _ _ xss _ HR.out).mono ?_); rintro e w1 ⟨rfl, hb1⟩)
    go_ret3
    exact ⟨none, 0, by rw [HL.out.1, HL.out.2]; rfl, by rw [HL.out.1]; exact .inl ⟨rfl, rfl, rfl⟩, hb1⟩

set_option maxHeartbeats 4000000 in
theorem rfirst_any (vars : Int) (ao : Option Addr) (L cap : Nat) (xss : List (List Int)) (w : World) (h : Grid w ao L cap xss) :
    Calls Try.prog 15 #[.int .i64 vars, .slice ao L cap] w fun e w' => ∃ bo c, e = .returned (.tuple #[.slice bo (lenI vars xss) c, .bool (isI vars xss), .int .i64 (mayF vars xss)]) ∧ Hid (IsBools w' bo (lenI vars xss) c (bitI vars xss)) ∧ Below w.heap.size w w' := by
  have HR : Hid (Grid w ao L cap xss) := h
  clear h
  by_cases hm : mayF vars xss = 0
  · obtain ⟨v, rfl, hv, hg⟩ := may_ok hm
    obtain ⟨n, hn⟩ : ∃ n, n = 2 ^ v := ⟨_, rfl⟩
    have HF : Hid (firI v xss = firF (okF v xss) n) := by show _ = _; rw [hn]; exact fir_good hm
    have n2 := (pow_num hv hn).1
    have HN : Hid (n = 2 ^ v) := hn
    clear hg hn
    rcases fir_lt (okF v xss) n with ⟨hz, hz1⟩ | ⟨i, hi, hz, hpi⟩
    · have HL : Hid (lenI v xss = 0 ∧ isI v xss = false) := len_none (by rw [HF.out]; exact hz)
      clear hz1
      go_enter Try.func15, Try.ntmps15
      go_wp2_with (first
        | (go_at_call 24; with_reducible (refine (rmay_any _ _ _ _ xss _ HR.out).mono ?_); rintro e w1 ⟨rfl, rfl⟩)
        | (go_at_call 25; with_reducible (refine (rall_any v n hv HN.out _ _ _ xss _ HR.out).mono ?_); rintro e w2 ⟨rfl, hb2⟩))
      go_ret3
      exact ⟨none, 0, by rw [HL.out.1, HL.out.2, hm]; rfl, by rw [HL.out.1]; exact .inl ⟨rfl, rfl, rfl⟩, hb2⟩
    · have HL : Hid (lenI v xss = v ∧ isI v xss = true ∧ bitI v xss = fun b => i.testBit b) := len_some (by rw [HF.out]; exact hz)
      have i2 : i < 65536 := by omega
      go_enter Try.func15, Try.ntmps15
      go_wp2_with (first
        | (go_at_call 24; with_reducible (refine (rmay_any _ _ _ _ xss _ HR.out).mono ?_); rintro e w1 ⟨rfl, rfl⟩)
        | (go_at_call 25; with_reducible (refine (rall_any v n hv HN.out _ _ _ xss _ HR.out).mono ?_); rintro e w2 ⟨rfl, hb2⟩)
        | (go_at_call 28; with_reducible (refine (rtruths_any v i hv i2 _).mono ?_); rintro e w4 ⟨bo, c, rfl, hB4, hb4⟩))
      go_ret3
      exact ⟨bo, c, by rw [HL.out.1, HL.out.2.1, hm]; rfl, by rw [HL.out.1, HL.out.2.2]; exact hB4, Below.next hb2 hb4⟩
  · have HL : Hid (lenI vars xss = 0 ∧ isI vars xss = false) := len_none (by rw [fir_bad hm]; omega)
    have hm' : (mayF vars xss == 0) = false := by simpa using hm
    go_enter Try.func15, Try.ntmps15
    go_wp2_with (go_at_call 24; with_reducible (refine (rmay_any _ _ _ _ xss _ HR.out).mono ?_); rintro e w1 ⟨rfl, rfl⟩)
    go_ret3
    exact ⟨none, 0, by rw [HL.out.1, HL.out.2]; rfl, by rw [HL.out.1]; exact .inl ⟨rfl, rfl, rfl⟩, Below.refl _ _⟩

end Go.Proofs.Ytogjafmpoepgbaa
