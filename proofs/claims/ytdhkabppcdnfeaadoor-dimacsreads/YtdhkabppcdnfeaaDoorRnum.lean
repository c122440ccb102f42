/-
  The document's number, walked.
-/
import Derived.Test.YtdhkabppcdnfeaaDoorGuess
import Derived.Test.YtdhkabppcdnfeaaDoorTake
namespace Go.Proofs.YtdhkabppcdnfeaaDoor
open Go.RowKit
open Go.Lib (decDigits itoa hasPrefix trimPrefix)
set_option linter.unusedVariables false

theorem d8_stop {L : List UInt8} {j : Nat} (hd : ∀ b ∈ L.take j, isDig b = true) (h8 : j ≤ 8) (h : j = 8 ∨ ∀ b, L[j]? = some b → isDig b = false) : (L.take 8).takeWhile isDig = L.take j := by
  have e : (L.take 8).take j = L.take j := by rw [List.take_take]; congr 1; omega
  rw [← e]
  refine tw_stop (by rw [e]; exact hd) fun b hb => ?_
  by_cases hj : j < 8
  · rw [List.getElem?_take_of_lt hj] at hb
    rcases h with h | h
    · omega
    · exact h b hb
  · rw [List.getElem?_eq_none (by simp; omega)] at hb; cases hb

theorem num_pos {s : List UInt8} {a j m : Nat} (hs : sg (s.drop a) = 0) (hd : ((s.drop a).take 8).takeWhile isDig = (s.drop a).take j) (hj : j ≤ (s.drop a).length) (hm : m = val ((s.drop a).take j)) : rval (s.drop a) = m ∧ rlen (s.drop a) = j ∧ rok (s.drop a) = decide (0 < j) := by
  have e : dg8 (s.drop a) = (s.drop a).take j := by unfold dg8; rw [hs, List.drop_zero]; exact hd
  have l : ((s.drop a).take j).length = j := by rw [List.length_take]; omega
  refine ⟨?_, ?_, ?_⟩
  · unfold rval; rw [hs, e, ← hm]; simp
  · unfold rlen; rw [hs, e, l]; omega
  · unfold rok; rw [e, l]

theorem num_neg {s : List UInt8} {a j m : Nat} (hs : sg (s.drop a) = 1) (hd : ((s.drop (a + 1)).take 8).takeWhile isDig = (s.drop (a + 1)).take j) (hj : j ≤ (s.drop (a + 1)).length) (hm : m = val ((s.drop (a + 1)).take j)) : rval (s.drop a) = -(m : Int) ∧ rlen (s.drop a) = 1 + j ∧ rok (s.drop a) = decide (0 < j) := by
  have e0 : (s.drop a).drop 1 = s.drop (a + 1) := by rw [List.drop_drop]
  have e : dg8 (s.drop a) = (s.drop (a + 1)).take j := by unfold dg8; rw [hs, e0]; exact hd
  have l : ((s.drop (a + 1)).take j).length = j := by rw [List.length_take]; omega
  refine ⟨?_, ?_, ?_⟩
  · unfold rval; rw [hs, e, ← hm]; simp
  · unfold rlen; rw [hs, e, l]
  · unfold rok; rw [e, l]

theorem pow_step {m j d : Nat} (h : m < 10 ^ j) (hd : d < 10) : 10 * m + d < 10 ^ (j + 1) := by rw [Nat.pow_succ]; omega
theorem pow_low {m j : Nat} (h : m < 10 ^ j) (hj : j ≤ 7) : m < 10000000 := by
  have : 10 ^ j ≤ 10 ^ 7 := Nat.pow_le_pow_right (by omega) hj
  have e : (10 : Nat) ^ 7 = 10000000 := by decide
  omega

theorem pow_all {m j : Nat} (h : m < 10 ^ j) (hj : j ≤ 8) : m < 100000000 := by
  have : 10 ^ j ≤ 10 ^ 8 := Nat.pow_le_pow_right (by omega) hj
  have e : (10 : Nat) ^ 8 = 100000000 := by decide
  omega

/-- What number answers. -/
def NumR (s : List UInt8) (a : Nat) (e : Ending) : Prop := e = .returned (.tuple #[.int .i64 (rval (s.drop a)), .int .i64 ((a + rlen (s.drop a) : Nat) : Int), .bool (rok (s.drop a))])

set_option maxHeartbeats 4000000 in
theorem rnum_off (s : List UInt8) (a : Nat) (w : World) (hs : s.length ≤ 1000000) (ha : a ≤ 1000000) (h : ¬ a < s.length) :
    Calls Tryd.prog 35 #[.string ⟨s.toArray⟩, .int .i64 a] w fun e w' => Hid (NumR s a e) ∧ w' = w := by
  have HS : Hid (sg (s.drop a) = 0) := by show _ = _; rw [List.drop_of_length_le (by omega)]; rfl
  have h' : ¬ (a : Int) < s.length := by omega
  obtain ⟨f, hf⟩ : ∃ f : Nat, Hid (f = a) := ⟨_, rfl⟩
  have hfb : f ≤ 1000001 := by rw [hf.out]; omega
  go_enter Tryd.func35, Tryd.ntmps35
  go_wp2
  have e1 : (a : Int) = (f : Int) := by rw [hf.out]
  rw [e1]
  clear e1
  go_loop [1, 8] (fun i n => ∃ p m j : Nat, p ≤ 2000000 ∧ i = .int .i64 p ∧ n = .int .i64 m ∧ Hid (p = f + j) ∧ j ≤ 8 ∧ Hid (m < 10 ^ j) ∧ Hid (m = val ((s.drop f).take j)) ∧ Hid (j ≤ (s.drop f).length) ∧ Hid (∀ b ∈ (s.drop f).take j, isDig b = true)) (fun i _ => s.length - (intOf i).toNat)
  case atStart => exact ⟨f, 0, 0, by omega, rfl, rfl, hid (by omega), by omega, hid (by decide), hid (by simp [val]), hid (by omega), hid (by simp)⟩
  case round =>
    obtain ⟨p, m, j, hp, rfl, rfl, hpj, h8, hm, hv, hj, hd⟩ := hrel
    have hmb := pow_all hm.out h8
    have hjp : (p : Int) - (f : Int) = (j : Int) := by rw [hpj.out]; omega
    by_cases hlt : p < s.length
    · obtain ⟨c, b, hcc, hbc, h256, hby⟩ := byte_at hlt
      have HC : Hid ((s.drop f)[j]? = some c) := by show _ = _; rw [List.getElem?_drop, ← hpj.out]; exact hcc
      have HB := hid hbc
      clear hcc hbc
      by_cases g1 : 48 ≤ b
      · have g1' : (48 : Int) ≤ b := by omega
        by_cases g2 : b ≤ 57
        · have g2' : (b : Int) ≤ 57 := by omega
          by_cases g3 : j < 8
          · have g3' : (j : Int) < 8 := by omega
            have hml := pow_low hm.out (by omega)
            have HM := hid (pow_step (d := b - 48) hm.out (by omega))
            have HV : Hid (10 * m + (b - 48) = val ((s.drop f).take (j + 1))) := by
              show _ = _
              rw [List.take_add_one, HC.out]
              simp only [Option.toList]
              rw [val_snoc, ← hv.out, dv, ← HB.out]
            have HD : Hid (∀ x ∈ (s.drop f).take (j + 1), isDig x = true) := by
              show ∀ x ∈ _, _
              intro x hx
              rw [List.take_add_one, HC.out] at hx
              rcases List.mem_append.1 hx with hx | hx
              · exact hd.out x hx
              · simp at hx; subst hx; rw [isDig, ← HB.out]; simp [g1, g2]
            have HJ : Hid (j + 1 ≤ (s.drop f).length) := by
              have := (List.getElem?_eq_some_iff.1 HC.out).1; exact this
            have HP : Hid (p + 1 = f + (j + 1)) := by show _ = _; rw [hpj.out]; omega
            go_wp2
            go_round
            case rel => exact ⟨p + 1, 10 * m + (b - 48), j + 1, by omega, by go_num, by go_num, HP, by omega, HM, HV, HJ, HD⟩
            case measure => simp [intOf]; omega
          · have g3' : ¬ (j : Int) < 8 := by omega
            have HT := hid (d8_stop hd.out h8 (.inl (by omega)))
            have HE := hid (num_pos (m := m) HS.out (by rw [← hf.out]; exact HT.out) (by rw [← hf.out]; exact hj.out) (by rw [← hf.out]; exact hv.out))
            by_cases j0 : 0 < j
            · have j0' : (f : Int) < p := by rw [hpj.out]; omega
              go_wp2
              go_ret3
              refine ⟨?_, rfl⟩
              show _ = _
              rw [HE.out.1, HE.out.2.1, HE.out.2.2, ← hf.out, ← hpj.out]
              simp [j0]
            · have j0' : ¬ (f : Int) < p := by rw [hpj.out]; omega
              go_wp2
              go_ret3
              refine ⟨?_, rfl⟩
              show _ = _
              rw [HE.out.1, HE.out.2.1, HE.out.2.2, ← hf.out, ← hpj.out]
              simp [j0]
        · have g2' : ¬ (b : Int) ≤ 57 := by omega
          have HT := hid (d8_stop hd.out h8 (.inr (fun x hx => by rw [HC.out] at hx; cases hx; rw [isDig, ← HB.out]; simp [g2])))
          have HE := hid (num_pos (m := m) HS.out (by rw [← hf.out]; exact HT.out) (by rw [← hf.out]; exact hj.out) (by rw [← hf.out]; exact hv.out))
          by_cases j0 : 0 < j
          · have j0' : (f : Int) < p := by rw [hpj.out]; omega
            go_wp2
            go_ret3
            refine ⟨?_, rfl⟩
            show _ = _
            rw [HE.out.1, HE.out.2.1, HE.out.2.2, ← hf.out, ← hpj.out]
            simp [j0]
          · have j0' : ¬ (f : Int) < p := by rw [hpj.out]; omega
            go_wp2
            go_ret3
            refine ⟨?_, rfl⟩
            show _ = _
            rw [HE.out.1, HE.out.2.1, HE.out.2.2, ← hf.out, ← hpj.out]
            simp [j0]
      · have g1' : ¬ (48 : Int) ≤ b := by omega
        have HT := hid (d8_stop hd.out h8 (.inr (fun x hx => by rw [HC.out] at hx; cases hx; rw [isDig, ← HB.out]; simp [g1])))
        have HE := hid (num_pos (m := m) HS.out (by rw [← hf.out]; exact HT.out) (by rw [← hf.out]; exact hj.out) (by rw [← hf.out]; exact hv.out))
        by_cases j0 : 0 < j
        · have j0' : (f : Int) < p := by rw [hpj.out]; omega
          go_wp2
          go_ret3
          refine ⟨?_, rfl⟩
          show _ = _
          rw [HE.out.1, HE.out.2.1, HE.out.2.2, ← hf.out, ← hpj.out]
          simp [j0]
        · have j0' : ¬ (f : Int) < p := by rw [hpj.out]; omega
          go_wp2
          go_ret3
          refine ⟨?_, rfl⟩
          show _ = _
          rw [HE.out.1, HE.out.2.1, HE.out.2.2, ← hf.out, ← hpj.out]
          simp [j0]
    · have HT := hid (d8_stop hd.out h8 (.inr (fun x hx => by rw [List.getElem?_drop, ← hpj.out] at hx; have := (List.getElem?_eq_some_iff.1 hx).1; omega)))
      have HE := hid (num_pos (m := m) HS.out (by rw [← hf.out]; exact HT.out) (by rw [← hf.out]; exact hj.out) (by rw [← hf.out]; exact hv.out))
      by_cases j0 : 0 < j
      · have j0' : (f : Int) < p := by rw [hpj.out]; omega
        go_wp2
        go_ret3
        refine ⟨?_, rfl⟩
        show _ = _
        rw [HE.out.1, HE.out.2.1, HE.out.2.2, ← hf.out, ← hpj.out]
        simp [j0]
      · have j0' : ¬ (f : Int) < p := by rw [hpj.out]; omega
        go_wp2
        go_ret3
        refine ⟨?_, rfl⟩
        show _ = _
        rw [HE.out.1, HE.out.2.1, HE.out.2.2, ← hf.out, ← hpj.out]
        simp [j0]

set_option maxHeartbeats 4000000 in
theorem rnum_plain (s : List UInt8) (a : Nat) (w : World) (hs : s.length ≤ 1000000) (ha : a ≤ 1000000) (b0 : Nat) (h : a < s.length) (hb0 : ∀ h, (({ data := s.toArray } : ByteArray)[a]'h).toNat = b0) (hne : b0 ≠ 45) :
    Calls Tryd.prog 35 #[.string ⟨s.toArray⟩, .int .i64 a] w fun e w' => Hid (NumR s a e) ∧ w' = w := by
  have HS : Hid (sg (s.drop a) = 0) := by
    show _ = _
    unfold sg
    rw [if_neg]
    rw [List.head?_drop, List.getElem?_eq_getElem h]
    intro e
    simp only [Option.some.injEq] at e
    have := hb0 h
    refine hne ?_
    rw [← this]
    show s[a].toNat = 45
    rw [e]; rfl
  have h' : (a : Int) < s.length := by omega
  have hne' : ((b0 : Int) == 45) = false := by simp; omega
  obtain ⟨f, hf⟩ : ∃ f : Nat, Hid (f = a) := ⟨_, rfl⟩
  have hfb : f ≤ 1000001 := by rw [hf.out]; omega
  go_enter Tryd.func35, Tryd.ntmps35
  go_wp2
  have e1 : (a : Int) = (f : Int) := by rw [hf.out]
  rw [e1]
  clear e1
  go_loop [1, 8] (fun i n => ∃ p m j : Nat, p ≤ 2000000 ∧ i = .int .i64 p ∧ n = .int .i64 m ∧ Hid (p = f + j) ∧ j ≤ 8 ∧ Hid (m < 10 ^ j) ∧ Hid (m = val ((s.drop f).take j)) ∧ Hid (j ≤ (s.drop f).length) ∧ Hid (∀ b ∈ (s.drop f).take j, isDig b = true)) (fun i _ => s.length - (intOf i).toNat)
  case atStart => exact ⟨f, 0, 0, by omega, rfl, rfl, hid (by omega), by omega, hid (by decide), hid (by simp [val]), hid (by omega), hid (by simp)⟩
  case round =>
    obtain ⟨p, m, j, hp, rfl, rfl, hpj, h8, hm, hv, hj, hd⟩ := hrel
    have hmb := pow_all hm.out h8
    have hjp : (p : Int) - (f : Int) = (j : Int) := by rw [hpj.out]; omega
    by_cases hlt : p < s.length
    · obtain ⟨c, b, hcc, hbc, h256, hby⟩ := byte_at hlt
      have HC : Hid ((s.drop f)[j]? = some c) := by show _ = _; rw [List.getElem?_drop, ← hpj.out]; exact hcc
      have HB := hid hbc
      clear hcc hbc
      by_cases g1 : 48 ≤ b
      · have g1' : (48 : Int) ≤ b := by omega
        by_cases g2 : b ≤ 57
        · have g2' : (b : Int) ≤ 57 := by omega
          by_cases g3 : j < 8
          · have g3' : (j : Int) < 8 := by omega
            have hml := pow_low hm.out (by omega)
            have HM := hid (pow_step (d := b - 48) hm.out (by omega))
            have HV : Hid (10 * m + (b - 48) = val ((s.drop f).take (j + 1))) := by
              show _ = _
              rw [List.take_add_one, HC.out]
              simp only [Option.toList]
              rw [val_snoc, ← hv.out, dv, ← HB.out]
            have HD : Hid (∀ x ∈ (s.drop f).take (j + 1), isDig x = true) := by
              show ∀ x ∈ _, _
              intro x hx
              rw [List.take_add_one, HC.out] at hx
              rcases List.mem_append.1 hx with hx | hx
              · exact hd.out x hx
              · simp at hx; subst hx; rw [isDig, ← HB.out]; simp [g1, g2]
            have HJ : Hid (j + 1 ≤ (s.drop f).length) := by
              have := (List.getElem?_eq_some_iff.1 HC.out).1; exact this
            have HP : Hid (p + 1 = f + (j + 1)) := by show _ = _; rw [hpj.out]; omega
            go_wp2
            go_round
            case rel => exact ⟨p + 1, 10 * m + (b - 48), j + 1, by omega, by go_num, by go_num, HP, by omega, HM, HV, HJ, HD⟩
            case measure => simp [intOf]; omega
          · have g3' : ¬ (j : Int) < 8 := by omega
            have HT := hid (d8_stop hd.out h8 (.inl (by omega)))
            have HE := hid (num_pos (m := m) HS.out (by rw [← hf.out]; exact HT.out) (by rw [← hf.out]; exact hj.out) (by rw [← hf.out]; exact hv.out))
            by_cases j0 : 0 < j
            · have j0' : (f : Int) < p := by rw [hpj.out]; omega
              go_wp2
              go_ret3
              refine ⟨?_, rfl⟩
              show _ = _
              rw [HE.out.1, HE.out.2.1, HE.out.2.2, ← hf.out, ← hpj.out]
              simp [j0]
            · have j0' : ¬ (f : Int) < p := by rw [hpj.out]; omega
              go_wp2
              go_ret3
              refine ⟨?_, rfl⟩
              show _ = _
              rw [HE.out.1, HE.out.2.1, HE.out.2.2, ← hf.out, ← hpj.out]
              simp [j0]
        · have g2' : ¬ (b : Int) ≤ 57 := by omega
          have HT := hid (d8_stop hd.out h8 (.inr (fun x hx => by rw [HC.out] at hx; cases hx; rw [isDig, ← HB.out]; simp [g2])))
          have HE := hid (num_pos (m := m) HS.out (by rw [← hf.out]; exact HT.out) (by rw [← hf.out]; exact hj.out) (by rw [← hf.out]; exact hv.out))
          by_cases j0 : 0 < j
          · have j0' : (f : Int) < p := by rw [hpj.out]; omega
            go_wp2
            go_ret3
            refine ⟨?_, rfl⟩
            show _ = _
            rw [HE.out.1, HE.out.2.1, HE.out.2.2, ← hf.out, ← hpj.out]
            simp [j0]
          · have j0' : ¬ (f : Int) < p := by rw [hpj.out]; omega
            go_wp2
            go_ret3
            refine ⟨?_, rfl⟩
            show _ = _
            rw [HE.out.1, HE.out.2.1, HE.out.2.2, ← hf.out, ← hpj.out]
            simp [j0]
      · have g1' : ¬ (48 : Int) ≤ b := by omega
        have HT := hid (d8_stop hd.out h8 (.inr (fun x hx => by rw [HC.out] at hx; cases hx; rw [isDig, ← HB.out]; simp [g1])))
        have HE := hid (num_pos (m := m) HS.out (by rw [← hf.out]; exact HT.out) (by rw [← hf.out]; exact hj.out) (by rw [← hf.out]; exact hv.out))
        by_cases j0 : 0 < j
        · have j0' : (f : Int) < p := by rw [hpj.out]; omega
          go_wp2
          go_ret3
          refine ⟨?_, rfl⟩
          show _ = _
          rw [HE.out.1, HE.out.2.1, HE.out.2.2, ← hf.out, ← hpj.out]
          simp [j0]
        · have j0' : ¬ (f : Int) < p := by rw [hpj.out]; omega
          go_wp2
          go_ret3
          refine ⟨?_, rfl⟩
          show _ = _
          rw [HE.out.1, HE.out.2.1, HE.out.2.2, ← hf.out, ← hpj.out]
          simp [j0]
    · have HT := hid (d8_stop hd.out h8 (.inr (fun x hx => by rw [List.getElem?_drop, ← hpj.out] at hx; have := (List.getElem?_eq_some_iff.1 hx).1; omega)))
      have HE := hid (num_pos (m := m) HS.out (by rw [← hf.out]; exact HT.out) (by rw [← hf.out]; exact hj.out) (by rw [← hf.out]; exact hv.out))
      by_cases j0 : 0 < j
      · have j0' : (f : Int) < p := by rw [hpj.out]; omega
        go_wp2
        go_ret3
        refine ⟨?_, rfl⟩
        show _ = _
        rw [HE.out.1, HE.out.2.1, HE.out.2.2, ← hf.out, ← hpj.out]
        simp [j0]
      · have j0' : ¬ (f : Int) < p := by rw [hpj.out]; omega
        go_wp2
        go_ret3
        refine ⟨?_, rfl⟩
        show _ = _
        rw [HE.out.1, HE.out.2.1, HE.out.2.2, ← hf.out, ← hpj.out]
        simp [j0]

set_option maxHeartbeats 4000000 in
theorem rnum_sign (s : List UInt8) (a : Nat) (w : World) (hs : s.length ≤ 1000000) (ha : a ≤ 1000000) (h : a < s.length) (hb0 : ∀ h, (({ data := s.toArray } : ByteArray)[a]'h).toNat = 45) :
    Calls Tryd.prog 35 #[.string ⟨s.toArray⟩, .int .i64 a] w fun e w' => Hid (NumR s a e) ∧ w' = w := by
  have HS : Hid (sg (s.drop a) = 1) := by
    show _ = _
    unfold sg
    rw [if_pos]
    rw [List.head?_drop, List.getElem?_eq_getElem h]
    congr 1
    apply UInt8.toNat_inj.1
    exact hb0 h
  have h' : (a : Int) < s.length := by omega
  obtain ⟨f, hf⟩ : ∃ f : Nat, Hid (f = a + 1) := ⟨_, rfl⟩
  have hfb : f ≤ 1000001 := by rw [hf.out]; omega
  go_enter Tryd.func35, Tryd.ntmps35
  go_wp2
  have e1 : ((a : Int) + 1) = (f : Int) := by rw [hf.out]; omega
  rw [e1]
  clear e1
  go_loop [1, 8] (fun i n => ∃ p m j : Nat, p ≤ 2000000 ∧ i = .int .i64 p ∧ n = .int .i64 m ∧ Hid (p = f + j) ∧ j ≤ 8 ∧ Hid (m < 10 ^ j) ∧ Hid (m = val ((s.drop f).take j)) ∧ Hid (j ≤ (s.drop f).length) ∧ Hid (∀ b ∈ (s.drop f).take j, isDig b = true)) (fun i _ => s.length - (intOf i).toNat)
  case atStart => exact ⟨f, 0, 0, by omega, rfl, rfl, hid (by omega), by omega, hid (by decide), hid (by simp [val]), hid (by omega), hid (by simp)⟩
  case round =>
    obtain ⟨p, m, j, hp, rfl, rfl, hpj, h8, hm, hv, hj, hd⟩ := hrel
    have hmb := pow_all hm.out h8
    have hjp : (p : Int) - (f : Int) = (j : Int) := by rw [hpj.out]; omega
    by_cases hlt : p < s.length
    · obtain ⟨c, b, hcc, hbc, h256, hby⟩ := byte_at hlt
      have HC : Hid ((s.drop f)[j]? = some c) := by show _ = _; rw [List.getElem?_drop, ← hpj.out]; exact hcc
      have HB := hid hbc
      clear hcc hbc
      by_cases g1 : 48 ≤ b
      · have g1' : (48 : Int) ≤ b := by omega
        by_cases g2 : b ≤ 57
        · have g2' : (b : Int) ≤ 57 := by omega
          by_cases g3 : j < 8
          · have g3' : (j : Int) < 8 := by omega
            have hml := pow_low hm.out (by omega)
            have HM := hid (pow_step (d := b - 48) hm.out (by omega))
            have HV : Hid (10 * m + (b - 48) = val ((s.drop f).take (j + 1))) := by
              show _ = _
              rw [List.take_add_one, HC.out]
              simp only [Option.toList]
              rw [val_snoc, ← hv.out, dv, ← HB.out]
            have HD : Hid (∀ x ∈ (s.drop f).take (j + 1), isDig x = true) := by
              show ∀ x ∈ _, _
              intro x hx
              rw [List.take_add_one, HC.out] at hx
              rcases List.mem_append.1 hx with hx | hx
              · exact hd.out x hx
              · simp at hx; subst hx; rw [isDig, ← HB.out]; simp [g1, g2]
            have HJ : Hid (j + 1 ≤ (s.drop f).length) := by
              have := (List.getElem?_eq_some_iff.1 HC.out).1; exact this
            have HP : Hid (p + 1 = f + (j + 1)) := by show _ = _; rw [hpj.out]; omega
            go_wp2
            go_round
            case rel => exact ⟨p + 1, 10 * m + (b - 48), j + 1, by omega, by go_num, by go_num, HP, by omega, HM, HV, HJ, HD⟩
            case measure => simp [intOf]; omega
          · have g3' : ¬ (j : Int) < 8 := by omega
            have HT := hid (d8_stop hd.out h8 (.inl (by omega)))
            have HE := hid (num_neg (m := m) HS.out (by rw [← hf.out]; exact HT.out) (by rw [← hf.out]; exact hj.out) (by rw [← hf.out]; exact hv.out))
            have HP2 : Hid (a + (1 + j) = p) := by show _ = _; rw [hpj.out, hf.out]; omega
            by_cases j0 : 0 < j
            · have j0' : (f : Int) < p := by rw [hpj.out]; omega
              go_wp2
              go_ret3
              refine ⟨?_, rfl⟩
              show _ = _
              rw [HE.out.1, HE.out.2.1, HE.out.2.2, HP2.out]
              simp [j0]
            · have j0' : ¬ (f : Int) < p := by rw [hpj.out]; omega
              go_wp2
              go_ret3
              refine ⟨?_, rfl⟩
              show _ = _
              rw [HE.out.1, HE.out.2.1, HE.out.2.2, HP2.out]
              simp [j0]
        · have g2' : ¬ (b : Int) ≤ 57 := by omega
          have HT := hid (d8_stop hd.out h8 (.inr (fun x hx => by rw [HC.out] at hx; cases hx; rw [isDig, ← HB.out]; simp [g2])))
          have HE := hid (num_neg (m := m) HS.out (by rw [← hf.out]; exact HT.out) (by rw [← hf.out]; exact hj.out) (by rw [← hf.out]; exact hv.out))
          have HP2 : Hid (a + (1 + j) = p) := by show _ = _; rw [hpj.out, hf.out]; omega
          by_cases j0 : 0 < j
          · have j0' : (f : Int) < p := by rw [hpj.out]; omega
            go_wp2
            go_ret3
            refine ⟨?_, rfl⟩
            show _ = _
            rw [HE.out.1, HE.out.2.1, HE.out.2.2, HP2.out]
            simp [j0]
          · have j0' : ¬ (f : Int) < p := by rw [hpj.out]; omega
            go_wp2
            go_ret3
            refine ⟨?_, rfl⟩
            show _ = _
            rw [HE.out.1, HE.out.2.1, HE.out.2.2, HP2.out]
            simp [j0]
      · have g1' : ¬ (48 : Int) ≤ b := by omega
        have HT := hid (d8_stop hd.out h8 (.inr (fun x hx => by rw [HC.out] at hx; cases hx; rw [isDig, ← HB.out]; simp [g1])))
        have HE := hid (num_neg (m := m) HS.out (by rw [← hf.out]; exact HT.out) (by rw [← hf.out]; exact hj.out) (by rw [← hf.out]; exact hv.out))
        have HP2 : Hid (a + (1 + j) = p) := by show _ = _; rw [hpj.out, hf.out]; omega
        by_cases j0 : 0 < j
        · have j0' : (f : Int) < p := by rw [hpj.out]; omega
          go_wp2
          go_ret3
          refine ⟨?_, rfl⟩
          show _ = _
          rw [HE.out.1, HE.out.2.1, HE.out.2.2, HP2.out]
          simp [j0]
        · have j0' : ¬ (f : Int) < p := by rw [hpj.out]; omega
          go_wp2
          go_ret3
          refine ⟨?_, rfl⟩
          show _ = _
          rw [HE.out.1, HE.out.2.1, HE.out.2.2, HP2.out]
          simp [j0]
    · have HT := hid (d8_stop hd.out h8 (.inr (fun x hx => by rw [List.getElem?_drop, ← hpj.out] at hx; have := (List.getElem?_eq_some_iff.1 hx).1; omega)))
      have HE := hid (num_neg (m := m) HS.out (by rw [← hf.out]; exact HT.out) (by rw [← hf.out]; exact hj.out) (by rw [← hf.out]; exact hv.out))
      have HP2 : Hid (a + (1 + j) = p) := by show _ = _; rw [hpj.out, hf.out]; omega
      by_cases j0 : 0 < j
      · have j0' : (f : Int) < p := by rw [hpj.out]; omega
        go_wp2
        go_ret3
        refine ⟨?_, rfl⟩
        show _ = _
        rw [HE.out.1, HE.out.2.1, HE.out.2.2, HP2.out]
        simp [j0]
      · have j0' : ¬ (f : Int) < p := by rw [hpj.out]; omega
        go_wp2
        go_ret3
        refine ⟨?_, rfl⟩
        show _ = _
        rw [HE.out.1, HE.out.2.1, HE.out.2.2, HP2.out]
        simp [j0]

end Go.Proofs.YtdhkabppcdnfeaaDoor
