/-
  How many of the others are kept, and that none of these that is gone is better than one that is kept: the walk.
-/
import Derived.Test.YtodhganfjeojoaaRkeep
import Derived.Test.YtodhganfjeojoaaAwake
namespace Go.Proofs.Ytodhganfjeojoaa
open Go.RowKit Go.Sort
set_option linter.unusedVariables false

section
variable {w wr : World} {n g : Nat} {D : Nat → Dd} {ao : Option Addr}

theorem better_as (x y : Dd) (w : World) {b : Bool} (hb : btr x y = b) : Calls Try.prog 6 #[.agg #[.int .i64 x.s, .int .i64 x.g, .int .i64 x.a], .agg #[.int .i64 y.s, .int .i64 y.g, .int .i64 y.a]] w fun e w' => e = .returned (.bool b) ∧ Hid (Gr w w') := by
  rw [← hb]
  exact better_is x y w

theorem keep_sure {i : Nat} (h : sure (D i) = true) : keepF n D i = true := by unfold keepF; rw [h]; rfl

theorem bls_gr {w' : World} {B : Nat → Bool} (h : Bls wr g n B) (q : Gr wr w') : Bls w' g n B := h.below q.below

theorem bls_drewN {B : Nat → Bool} (h : Bls wr g n B) (m : Nat) : Bls (wr.drewN m) g n B := h

set_option maxRecDepth 20000 in
set_option maxHeartbeats 8000000 in
theorem half_walk (ao : Option Addr) (n cap : Nat) (D : Nat → Dd) (w : World) (h : Deeds w ao n D) :
    Calls Try.prog 4 #[.slice ao n cap] w fun e w' => e = .returned (.bool true) ∧ Below w.heap.size w w' := by
  have HD := hid h
  clear h
  by_cases hn : n ≤ 100
  · have hn' : ¬ (100 : Int) < (n : Int) := by omega
    go_enter Try.func4, Try.ntmps4
    go_wp2_with (go_at_call 9; with_reducible (refine (keep_is HD.out hn).mono ?_); rintro e w2 ⟨g, rfl, hB, b2⟩)
    go_loopw [4, 5, 6] (fun s4 s5 s6 wr => ∃ i r q : Nat, i ≤ n ∧ s6 = .int .i64 i ∧ s5 = .int .i64 r ∧ s4 = .int .i64 q ∧ r ≤ i ∧ q ≤ i ∧ Hid ((oth i D).length = r) ∧ Hid (kpt n i D = q) ∧ Hid (Below w.heap.size w wr) ∧ Hid (Bls wr g n (keepF n D))) (fun _ _ s6 _ => n - (intOf s6).toNat)
    case atStart => exact ⟨0, 0, 0, Nat.zero_le _, rfl, rfl, rfl, Nat.le_refl _, Nat.le_refl _, hid rfl, hid rfl, b2, hB⟩
    case round =>
      clear hB b2
      obtain ⟨i, r, q, hi, rfl, rfl, rfl, hr, hq, hlen, hkp, hb, hB⟩ := hrel
      by_cases hil : i < n
      · obtain ⟨b, off, rfl, c0, c1, c2⟩ := (HD.out.below hb.out).at hil
        have hki := hB.out i hil
        obtain ⟨di, ei⟩ : ∃ d, D i = d := ⟨_, rfl⟩
        obtain ⟨ki, eki⟩ : ∃ b, keepF n D i = b := ⟨_, rfl⟩
        rw [ei] at c0 c1 c2
        rw [eki] at hki
        by_cases hs : sure (D i) = true
        · have e2 := keep_sure (n := n) hs
          rw [eki] at e2
          subst e2
          have HL : Hid ((oth (i + 1) D).length = r) := hid (by rw [oth_sure hs]; exact hlen.out)
          have HK : Hid (kpt n (i + 1) D = q) := hid (by rw [kpt_sure hs]; exact hkp.out)
          have hor : di.g ≤ 2 ∨ di.s ≤ 2 := by rw [ei] at hs; unfold sure at hs; exact of_decide_eq_true hs
          clear hs eki ei
          by_cases hg : di.g ≤ 2
          · clear hor
            go_wp2_with fail
            go_roundw
            case rel => exact ⟨i + 1, r, q, by omega, by go_num, rfl, rfl, by omega, by omega, HL, HK, hb, hB⟩
            case measure => simp [intOf]; omega
          · have hg' : decide (di.g ≤ 2) = false := by simpa using hg
            have hs2 : di.s ≤ 2 := by omega
            clear hor
            go_wp2_with fail
            go_roundw
            case rel => exact ⟨i + 1, r, q, by omega, by go_num, rfl, rfl, by omega, by omega, HL, HK, hb, hB⟩
            case measure => simp [intOf]; omega
        · have hsf : sure (D i) = false := by simpa using hs
          have hng : ¬ di.g ≤ 2 := fun c => hs (by rw [ei]; unfold sure; exact decide_eq_true (.inl c))
          have hns : ¬ di.s ≤ 2 := fun c => hs (by rw [ei]; unfold sure; exact decide_eq_true (.inr c))
          have hg' : decide (di.g ≤ 2) = false := by simpa using hng
          have hs' : decide (di.s ≤ 2) = false := by simpa using hns
          have HS := hid hsf
          have EI := hid ei
          have EK := hid eki
          have HL : Hid ((oth (i + 1) D).length = r + 1) := hid (by rw [oth_more hsf, List.length_append, hlen.out]; rfl)
          clear hs hsf ei hlen
          cases ki with
          | true =>
            have HK : Hid (kpt n (i + 1) D = q + 1) := hid (by rw [kpt_yes HS.out eki, hkp.out])
            clear eki hkp
            go_wp2_with fail
            go_loopw [7] (fun s wr => ∃ m : Nat, m ≤ n ∧ s = .int .i64 m ∧ Hid (Below w.heap.size w wr) ∧ Hid (Bls wr g n (keepF n D))) (fun s _ => n - (intOf s).toNat)
            case atStart => exact ⟨0, Nat.zero_le _, rfl, hb, hB⟩
            case round =>
              clear hki c0 c1 c2 hg' hs' hng hns
              obtain ⟨m, hm, rfl, ht, hT⟩ := hrel
              by_cases hml : m < n
              · have hki := hT.out i hil
                have hkm := hT.out m hml
                rw [EK.out] at hki
                obtain ⟨km, ekm⟩ : ∃ b, keepF n D m = b := ⟨_, rfl⟩
                rw [ekm] at hkm
                have EM := hid ekm
                have hil1 : (i : Int) < (n : Int) := by omega
                have hml1 : (m : Int) < (n : Int) := by omega
                clear ekm
                cases km with
                | true =>
                  go_wp2_with fail
                  go_quiet (fail)
                  go_wp2_with fail
                  go_roundw
                  all_goals first | exact ⟨m + 1, by omega, by go_num, hid (ht.out.trans (drewN_any _ _ _)), hid (bls_drewN hT.out _)⟩ | (simp [intOf]; omega)
                | false =>
                  go_wp2_with fail
                  go_quiet (fail)
                  go_wp2_with fail
                  go_roundw
                  all_goals first | exact ⟨m + 1, by omega, by go_num, hid (ht.out.trans (drewN_any _ _ _)), hid (bls_drewN hT.out _)⟩ | (simp [intOf]; omega)
              · obtain rfl : m = n := by omega
                go_wp2_with fail
                go_roundw
                all_goals first | exact ⟨i + 1, r + 1, q + 1, by omega, by go_num, by go_num, by first | rfl | go_num, by omega, by omega, HL, HK, ht, hT⟩ | (simp [intOf]; omega)
          | false =>
            have HK : Hid (kpt n (i + 1) D = q) := hid (by rw [kpt_no HS.out eki, hkp.out])
            clear eki hkp
            go_wp2_with fail
            go_loopw [7] (fun s wr => ∃ m : Nat, m ≤ n ∧ s = .int .i64 m ∧ Hid (Below w.heap.size w wr) ∧ Hid (Bls wr g n (keepF n D))) (fun s _ => n - (intOf s).toNat)
            case atStart => exact ⟨0, Nat.zero_le _, rfl, hb, hB⟩
            case round =>
              clear hki c0 c1 c2 hg' hs' hng hns
              obtain ⟨m, hm, rfl, ht, hT⟩ := hrel
              by_cases hml : m < n
              · have hki := hT.out i hil
                have hkm := hT.out m hml
                rw [EK.out] at hki
                obtain ⟨km, ekm⟩ : ∃ b, keepF n D m = b := ⟨_, rfl⟩
                rw [ekm] at hkm
                have EM := hid ekm
                have hil1 : (i : Int) < (n : Int) := by omega
                have hml1 : (m : Int) < (n : Int) := by omega
                cases km with
                | false =>
                  clear ekm
                  go_wp2_with fail
                  go_quiet (fail)
                  go_wp2_with fail
                  go_roundw
                  all_goals first | exact ⟨m + 1, by omega, by go_num, hid (ht.out.trans (drewN_any _ _ _)), hid (bls_drewN hT.out _)⟩ | (simp [intOf]; omega)
                | true =>
                  clear ekm
                  obtain ⟨b', off', e', KC⟩ := two_here (HD.out.below ht.out) hml hil
                  cases e'
                  obtain ⟨dm, em⟩ : ∃ d, D m = d := ⟨_, rfl⟩
                  have EE := hid em
                  rw [em, EI.out] at KC
                  clear em
                  by_cases hgm : dm.g ≤ 2
                  · obtain ⟨y0, y1, y2, _⟩ := KC.out _ (Gr.refl _)
                    have hgd : decide (2 < dm.g) = false := by simp; omega
                    go_wp2_with fail
                    go_quiet (fail)
                    go_wp2_with fail
                    go_roundw
                    all_goals first | exact ⟨m + 1, by omega, by go_num, hid (ht.out.trans (drewN_any _ _ _)), hid (bls_drewN hT.out _)⟩ | (simp [intOf]; omega)
                  · have hgd : (2 : Int) < dm.g := by omega
                    by_cases hsm : dm.s ≤ 2
                    · obtain ⟨y0, y1, y2, _⟩ := KC.out _ (Gr.refl _)
                      have hsd : decide (2 < dm.s) = false := by simp; omega
                      go_wp2_with fail
                      go_quiet (fail)
                      go_wp2_with fail
                      go_roundw
                      all_goals first | exact ⟨m + 1, by omega, by go_num, hid (ht.out.trans (drewN_any _ _ _)), hid (bls_drewN hT.out _)⟩ | (simp [intOf]; omega)
                    · have hsd : (2 : Int) < dm.s := by omega
                      have HS2 : sure (D m) = false := by rw [EE.out]; unfold sure; rw [decide_eq_false_iff_not]; omega
                      have hbt : btr (D i) (D m) = false := keep_best hil hml HS.out HS2 EK.out EM.out
                      rw [EI.out, EE.out] at hbt
                      have HBT := hid hbt
                      have KQ := hid (six_grown KC.out)
                      have y0 := KQ.out.1
                      have y1 := KQ.out.2.1
                      have y2 := KQ.out.2.2.1
                      have z0 := KQ.out.2.2.2.1
                      have z1 := KQ.out.2.2.2.2.1
                      have z2 := KQ.out.2.2.2.2.2
                      have ki2 : ∀ (n : Nat) (os : Array Obj), (grow (wr.drewN n) os).cell? ⟨g, i, none⟩ = some (.bool false) := fun n os => cell_grown (cell_lt hki) hki n os
                      have km2 : ∀ (n : Nat) (os : Array Obj), (grow (wr.drewN n) os).cell? ⟨g, m, none⟩ = some (.bool true) := fun n os => cell_grown (cell_lt hkm) hkm n os
                      clear hgm hsm hki hkm HS2 hbt KC
                      go_wp2_with fail
                      refine wp_region_quiet_grown (by kernel_rfl) (by kernel_rfl) ?_
                      repeat (go_big_quiet_step (first
                        | (go_at_call 6; exact Calls.grown_of (better_as di dm _ HBT.out))
                        | fail))
                      refine wpQuiet_nil ?_
                      intro _ hw
                      obtain ⟨⟨nq, osq⟩, hw2⟩ := hw
                      subst hw2
                      go_wp2_with fail
                      go_roundw
                      all_goals first | exact ⟨m + 1, by omega, by go_num, hid (Below.next ht.out (Gr.below ⟨nq, osq, rfl⟩)), hid (bls_gr hT.out ⟨nq, osq, rfl⟩)⟩ | (simp [intOf]; omega)
              · obtain rfl : m = n := by omega
                go_wp2_with fail
                go_roundw
                all_goals first | exact ⟨i + 1, r + 1, q, by omega, by go_num, by go_num, by first | rfl | go_num, by omega, by omega, HL, HK, ht, hT⟩ | (simp [intOf]; omega)
      · obtain rfl : i = n := by omega
        obtain ⟨H, hH⟩ : ∃ H, (r + 1) / 2 = H := ⟨_, rfl⟩
        have hqH : q = H := by
          have := kpt_half (n := i) (D := D)
          rw [hkp.out] at this
          unfold half at this
          rw [hlen.out, hH] at this
          exact this
        subst hqH
        have hq2 : ((r : Int) + 1).tdiv 2 = (q : Int) := by rw [Int.tdiv_eq_ediv_of_nonneg (by omega)]; omega
        clear hlen hkp hH
        go_wp2_with (go_at_call 5; with_reducible (refine (awake_is _).mono ?_); rintro e w5 ⟨rfl, b5⟩)
        go_ret
        exact ⟨rfl, Below.next hb.out b5.out⟩
  · have hn' : (100 : Int) < (n : Int) := by omega
    go_enter Try.func4, Try.ntmps4
    go_wp2_with (go_at_call 5; with_reducible (refine (awake_is _).mono ?_); rintro e w5 ⟨rfl, b5⟩)
    go_ret
    exact ⟨rfl, b5.out⟩
end

end Go.Proofs.Ytodhganfjeojoaa
