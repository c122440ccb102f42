/-
  The document's Keep.
-/
import Derived.Test.YtodhganfjeojoaaKeep
import Derived.Shelf.SlSortCmp.QuietGrown
namespace Go.Proofs.Ytodhganfjeojoaa
open Go.RowKit Go.Sort
set_option linter.unusedVariables false

/-- Where the document's Keep stands: the answers. -/
structure Rk (w : World) (n : Nat) (wr : World) (S : Nat → Prop) : Prop where
  bel : Below w.heap.size w wr
  mrk : Marks wr w.heap.size n S

section
variable {w wr w' : World} {ao : Option Addr} {n cap k : Nat} {D : Nat → Dd} {S S' : Nat → Prop}

theorem Rk.start : Rk w n (w.alloc (.cells (madeCells #[.bool false] n) 4)) (fun j => j < 0 ∧ keepF n D j = true) :=
  ⟨(Below.refl _ _).alloc (Nat.le_refl _) _, (Marks.made w n).iff (fun i hi => ⟨False.elim, fun h => by omega⟩)⟩

theorem Rk.gr (h : Rk w n wr S) (g : Gr wr w') : Rk w n w' S := ⟨Below.next h.bel g.below, h.mrk.keep g.below⟩

theorem Rk.put (h : Rk w n wr (fun j => j < k ∧ keepF n D j = true)) {b : Bool} (hb : keepF n D k = b) : Rk w n (wr.setCell ⟨w.heap.size, k, none⟩ (.bool b)) (fun j => j < k + 1 ∧ keepF n D j = true) := by
  refine ⟨h.bel.setCell (Nat.le_refl _) _, (h.mrk.put b).iff fun i hi => ?_⟩
  by_cases e : i = k
  · subst e
    rw [if_pos rfl, hb]
    simp
  · rw [if_neg e]
    constructor
    · rintro ⟨h1, h2⟩; exact ⟨by omega, h2⟩
    · rintro ⟨h1, h2⟩; exact ⟨by omega, h2⟩

theorem Rk.done (h : Rk w n wr (fun j => j < n ∧ keepF n D j = true)) : Bls wr w.heap.size n (keepF n D) :=
  h.mrk.bools fun i hi => ⟨fun q => q.2, fun q => ⟨hi, q⟩⟩

/-- Two clauses of a list, in whatever world comes behind. -/
theorem two_here (h : Deeds w ao n D) {i j : Nat} (hi : i < n) (hj : j < n) : ∃ b off, ao = some ⟨b, off, none⟩ ∧ Hid (∀ w2, Gr w w2 → w2.cell? ⟨b, off + i * 3, none⟩ = some (.int .i64 (D i).s) ∧ w2.cell? ⟨b, off + i * 3 + 1, none⟩ = some (.int .i64 (D i).g) ∧ w2.cell? ⟨b, off + i * 3 + 2, none⟩ = some (.int .i64 (D i).a) ∧ w2.cell? ⟨b, off + j * 3, none⟩ = some (.int .i64 (D j).s) ∧ w2.cell? ⟨b, off + j * 3 + 1, none⟩ = some (.int .i64 (D j).g) ∧ w2.cell? ⟨b, off + j * 3 + 2, none⟩ = some (.int .i64 (D j).a)) := by
  obtain ⟨b, off, e, x0, x1, x2⟩ := h.at hi
  obtain ⟨b', off', e', y0, y1, y2⟩ := h.at hj
  rw [e] at e'
  cases e'
  exact ⟨b, off, e, hid (fun w2 g => ⟨gr_cell g x0, gr_cell g x1, gr_cell g x2, gr_cell g y0, gr_cell g y1, gr_cell g y2⟩)⟩

theorem six_grown {a1 a2 a3 a4 a5 a6 : Addr} {v1 v2 v3 v4 v5 v6 : Value} (h : ∀ w2, Gr w w2 → w2.cell? a1 = some v1 ∧ w2.cell? a2 = some v2 ∧ w2.cell? a3 = some v3 ∧ w2.cell? a4 = some v4 ∧ w2.cell? a5 = some v5 ∧ w2.cell? a6 = some v6) :
    (∀ (n : Nat) (os : Array Obj), (grow (w.drewN n) os).cell? a1 = some v1) ∧ (∀ (n : Nat) (os : Array Obj), (grow (w.drewN n) os).cell? a2 = some v2) ∧ (∀ (n : Nat) (os : Array Obj), (grow (w.drewN n) os).cell? a3 = some v3) ∧ (∀ (n : Nat) (os : Array Obj), (grow (w.drewN n) os).cell? a4 = some v4) ∧ (∀ (n : Nat) (os : Array Obj), (grow (w.drewN n) os).cell? a5 = some v5) ∧ ∀ (n : Nat) (os : Array Obj), (grow (w.drewN n) os).cell? a6 = some v6 :=
  ⟨fun n os => (h _ ⟨n, os, rfl⟩).1, fun n os => (h _ ⟨n, os, rfl⟩).2.1, fun n os => (h _ ⟨n, os, rfl⟩).2.2.1, fun n os => (h _ ⟨n, os, rfl⟩).2.2.2.1, fun n os => (h _ ⟨n, os, rfl⟩).2.2.2.2.1, fun n os => (h _ ⟨n, os, rfl⟩).2.2.2.2.2⟩

theorem ahd_yes {i j : Nat} (h : btr (D i) (D j) = true) : ahd D i j = true := by unfold ahd; rw [h]; rfl
theorem ahd_not {i j : Nat} (h : btr (D i) (D j) = false) (h2 : ¬ i < j) : ahd D i j = false := by unfold ahd; rw [h]; simp [h2]
theorem ahd_back {i j : Nat} (h : btr (D i) (D j) = false) (h2 : i < j) {b : Bool} (hb : btr (D j) (D i) = b) : ahd D i j = !b := by unfold ahd; rw [h, hb]; simp [h2]

set_option maxHeartbeats 8000000 in
theorem rkeep_is (h : Deeds w ao n D) (hn : n ≤ 100) :
    Calls Try.prog 10 #[.slice ao n cap] w fun e w' => ∃ g, e = .returned (.slice (some ⟨g, 0, none⟩) n n) ∧ Hid (Bls w' g n (keepF n D)) ∧ Hid (Below w.heap.size w w') := by
  have HD := hid h
  clear h
  have hmk := run_make_row' (P := Try.prog) 28 4 (.bool false) 1 Try.underlying28 Try.info4 rfl .i64 .i64 n (by omega) (by omega)
  go_enter Try.func10, Try.ntmps10
  go_wp2
  clear hmk
  go_loopw [4, 5] (fun c i wr => ∃ k r : Nat, k ≤ n ∧ i = .int .i64 k ∧ c = .int .i64 r ∧ r ≤ k ∧ Hid ((oth k D).length = r) ∧ Hid (Rk w n wr (fun j => j < 0 ∧ keepF n D j = true))) (fun _ i _ => n - (intOf i).toNat)
  case atStart => exact ⟨0, 0, Nat.zero_le _, rfl, rfl, Nat.le_refl _, hid rfl, hid Rk.start⟩
  case round =>
    obtain ⟨k, r, hk, rfl, rfl, hr, hlen, hR⟩ := hrel
    by_cases hlt : k < n
    · obtain ⟨b, off, rfl, c0, c1, c2⟩ := (HD.out.below hR.out.bel).at hlt
      cases hs : sure (D k) with
      | true =>
        have HS := hid hs
        have HN : Hid ((oth (k + 1) D).length = r) := hid (by rw [oth_sure hs]; exact hlen.out)
        clear hs
        go_wp2_with (go_at_call 16; with_reducible (refine (sure_is _ _ HS.out).mono ?_); rintro e w2 ⟨rfl, b2⟩)
        go_roundw
        case rel => exact ⟨k + 1, r, by omega, by go_num, rfl, by omega, HN, hid (hR.out.gr b2.out)⟩
        case measure => simp [intOf]; omega
      | false =>
        have HS := hid hs
        have HN : Hid ((oth (k + 1) D).length = r + 1) := hid (by rw [oth_more hs, List.length_append, hlen.out]; rfl)
        clear hs
        go_wp2_with (go_at_call 16; with_reducible (refine (sure_is _ _ HS.out).mono ?_); rintro e w2 ⟨rfl, b2⟩)
        go_roundw
        case rel => exact ⟨k + 1, r + 1, by omega, by go_num, by go_num, by omega, HN, hid (hR.out.gr b2.out)⟩
        case measure => simp [intOf]; omega
    · obtain rfl : k = n := by omega
      obtain ⟨H, hH⟩ : ∃ H, (r + 1) / 2 = H := ⟨_, rfl⟩
      have HH : Hid (half k D = H) := hid (by unfold half; rw [hlen.out, hH])
      have hq : ((r : Int) + 1).tdiv 2 = (H : Int) := by rw [Int.tdiv_eq_ediv_of_nonneg (by omega)]; omega
      clear hlen
      go_wp2
      go_loopw [6] (fun s wr => ∃ i : Nat, i ≤ k ∧ s = .int .i64 i ∧ Hid (Rk w k wr (fun j => j < i ∧ keepF k D j = true))) (fun s _ => k - (intOf s).toNat)
      case atStart => exact ⟨0, Nat.zero_le _, rfl, hR⟩
      case round =>
        clear hR
        obtain ⟨i, hi, rfl, hR⟩ := hrel
        by_cases hil : i < k
        · obtain ⟨b, off, rfl, c0, c1, c2⟩ := (HD.out.below hR.out.bel).at hil
          cases hs : sure (D i) with
          | true =>
            have HS := hid hs
            have HK : Hid (keepF k D i = true) := hid (by unfold keepF; rw [hs]; rfl)
            clear hs
            go_wp2_with (go_at_call 16; with_reducible (refine (sure_is _ _ HS.out).mono ?_); rintro e w2 ⟨rfl, b2⟩; obtain ⟨mb, hc, _, hfr⟩ := (hR.out.gr b2.out).mrk.at hil)
            go_roundw
            case rel => exact ⟨i + 1, by omega, by go_num, hid ((hR.out.gr b2.out).put HK.out)⟩
            case measure => simp [intOf]; omega
          | false =>
            have HS := hid hs
            have HK : Hid (∀ p : Nat, rnk k D i = p → keepF k D i = decide (p < H)) := hid (fun p hp => by unfold keepF; rw [hs, hp, HH.out]; rfl)
            clear hs
            go_wp2_with (go_at_call 16; with_reducible (refine (sure_is _ _ HS.out).mono ?_); rintro e w2 ⟨rfl, b2⟩)
            have HR2 := hid (hR.out.gr b2.out)
            clear hR b2 c0 c1 c2
            go_loopw [7, 8] (fun a s wr => ∃ q p : Nat, q ≤ k ∧ s = .int .i64 q ∧ a = .int .i64 p ∧ p ≤ q ∧ Hid (rnk q D i = p) ∧ Hid (Rk w k wr (fun j => j < i ∧ keepF k D j = true))) (fun _ s _ => k - (intOf s).toNat)
            case atStart => exact ⟨0, 0, Nat.zero_le _, rfl, rfl, Nat.le_refl _, hid rfl, HR2⟩
            case round =>
              obtain ⟨q, p, hqk, rfl, rfl, hpq, hrn, hT⟩ := hrel
              by_cases hql : q < k
              · obtain ⟨b', off', e', KC⟩ := two_here (HD.out.below hT.out.bel) hql hil
                cases e'
                obtain ⟨dq, eq⟩ : ∃ d, D q = d := ⟨_, rfl⟩
                obtain ⟨di, ei⟩ : ∃ d, D i = d := ⟨_, rfl⟩
                rw [eq, ei] at KC
                have KQ := hid (six_grown KC.out)
                cases hsq : sure dq with
                | true =>
                  have HSq := hid hsq
                  have HN : Hid (rnk (q + 1) D i = p) := hid (by rw [rnk_sure (by rw [eq]; exact hsq)]; exact hrn.out)
                  clear hsq eq ei
                  have y0 := KQ.out.1
                  have y1 := KQ.out.2.1
                  have y2 := KQ.out.2.2.1
                  have z0 := KQ.out.2.2.2.1
                  have z1 := KQ.out.2.2.2.2.1
                  have z2 := KQ.out.2.2.2.2.2
                  go_wp2_with fail
                  refine wp_region_quiet_grown (by kernel_rfl) (by kernel_rfl) ?_
                  repeat (go_big_quiet_step (first
                    | (go_at_call 16; exact Calls.grown_of (sure_is dq _ HSq.out))
                    | fail))
                  refine wpQuiet_nil ?_
                  intro _ hw
                  obtain ⟨⟨nq, osq⟩, hw2⟩ := hw
                  subst hw2
                  go_wp2_with fail
                  go_roundw
                  all_goals first | exact ⟨q + 1, p, by omega, by go_num, rfl, by omega, HN, hid (hT.out.gr ⟨nq, osq, rfl⟩)⟩ | (simp [intOf]; omega)
                | false =>
                  have HSq := hid hsq
                  have SQ : Hid (sure (D q) = false) := hid (by rw [eq]; exact hsq)
                  cases h1 : btr dq di with
                  | true =>
                    have HB1 := hid h1
                    have e1 : btr (D q) (D i) = true := by rw [eq, ei]; exact h1
                    have HN : Hid (rnk (q + 1) D i = p + 1) := hid (by rw [rnk_yes SQ.out (ahd_yes e1), hrn.out])
                    clear hsq h1 eq ei e1
                    have y0 := KQ.out.1
                    have y1 := KQ.out.2.1
                    have y2 := KQ.out.2.2.1
                    have z0 := KQ.out.2.2.2.1
                    have z1 := KQ.out.2.2.2.2.1
                    have z2 := KQ.out.2.2.2.2.2
                    go_wp2_with fail
                    refine wp_region_quiet_grown (by kernel_rfl) (by kernel_rfl) ?_
                    repeat (go_big_quiet_step (first
                      | (go_at_call 16; exact Calls.grown_of (sure_is dq _ HSq.out))
                      | (go_at_call 7; exact Calls.grown_of (rbetter_is dq di _ HB1.out))
                      | fail))
                    refine wpQuiet_nil ?_
                    intro _ hw
                    obtain ⟨⟨nq, osq⟩, hw2⟩ := hw
                    subst hw2
                    go_wp2_with fail
                    go_roundw
                    all_goals first | exact ⟨q + 1, p + 1, by omega, by go_num, by go_num, by omega, HN, hid (hT.out.gr ⟨nq, osq, rfl⟩)⟩ | (simp [intOf]; omega)
                  | false =>
                    have HB1 := hid h1
                    have e1 : btr (D q) (D i) = false := by rw [eq, ei]; exact h1
                    by_cases hqi : q < i
                    · have hqi' : (q : Int) < (i : Int) := by omega
                      cases h2 : btr di dq with
                      | true =>
                        have HB2 := hid h2
                        have e2 : btr (D i) (D q) = true := by rw [eq, ei]; exact h2
                        have HN : Hid (rnk (q + 1) D i = p) := hid (by rw [rnk_no SQ.out (ahd_back e1 hqi e2), hrn.out])
                        clear hsq h1 h2 eq ei e1 e2
                        go_wp2_with fail
                        go_region_held3 (fun W => W.cell? ⟨b, off + q * 3, none⟩ = some (.int .i64 dq.s) ∧ W.cell? ⟨b, off + q * 3 + 1, none⟩ = some (.int .i64 dq.g) ∧ W.cell? ⟨b, off + q * 3 + 2, none⟩ = some (.int .i64 dq.a) ∧ W.cell? ⟨b, off + i * 3, none⟩ = some (.int .i64 di.s) ∧ W.cell? ⟨b, off + i * 3 + 1, none⟩ = some (.int .i64 di.g) ∧ W.cell? ⟨b, off + i * 3 + 2, none⟩ = some (.int .i64 di.a)) (first | exact KC.out _ (Gr.drew _) | exact KC.out _ G2.out | exact KC.out _ G3.out | exact KC.out _ G4.out) (first
                          | (go_at_call 16; with_reducible (refine (sure_is dq _ HSq.out).mono ?_); rintro e w2 ⟨rfl, b2⟩; have G2 := hid ((Gr.drew _).trans b2.out))
                          | (go_at_call 7; with_reducible (refine (rbetter_is dq di _ HB1.out).mono ?_); rintro e w3 ⟨rfl, b3⟩; have G3 := hid (G2.out.trans b3.out))
                          | (go_at_call 7; with_reducible (refine (rbetter_is di dq _ HB2.out).mono ?_); rintro e w4 ⟨rfl, b4⟩; have G4 := hid (G3.out.trans b4.out)))
                        all_goals go_wp2_with fail
                        all_goals go_roundw
                        all_goals first | exact ⟨q + 1, p, by omega, by go_num, rfl, by omega, HN, hid (hT.out.gr G4.out)⟩ | (simp [intOf]; omega)
                      | false =>
                        have HB2 := hid h2
                        have e2 : btr (D i) (D q) = false := by rw [eq, ei]; exact h2
                        have HN : Hid (rnk (q + 1) D i = p + 1) := hid (by rw [rnk_yes SQ.out (ahd_back e1 hqi e2), hrn.out])
                        clear hsq h1 h2 eq ei e1 e2
                        go_wp2_with fail
                        go_region_held3 (fun W => W.cell? ⟨b, off + q * 3, none⟩ = some (.int .i64 dq.s) ∧ W.cell? ⟨b, off + q * 3 + 1, none⟩ = some (.int .i64 dq.g) ∧ W.cell? ⟨b, off + q * 3 + 2, none⟩ = some (.int .i64 dq.a) ∧ W.cell? ⟨b, off + i * 3, none⟩ = some (.int .i64 di.s) ∧ W.cell? ⟨b, off + i * 3 + 1, none⟩ = some (.int .i64 di.g) ∧ W.cell? ⟨b, off + i * 3 + 2, none⟩ = some (.int .i64 di.a)) (first | exact KC.out _ (Gr.drew _) | exact KC.out _ G2.out | exact KC.out _ G3.out | exact KC.out _ G4.out) (first
                          | (go_at_call 16; with_reducible (refine (sure_is dq _ HSq.out).mono ?_); rintro e w2 ⟨rfl, b2⟩; have G2 := hid ((Gr.drew _).trans b2.out))
                          | (go_at_call 7; with_reducible (refine (rbetter_is dq di _ HB1.out).mono ?_); rintro e w3 ⟨rfl, b3⟩; have G3 := hid (G2.out.trans b3.out))
                          | (go_at_call 7; with_reducible (refine (rbetter_is di dq _ HB2.out).mono ?_); rintro e w4 ⟨rfl, b4⟩; have G4 := hid (G3.out.trans b4.out)))
                        all_goals go_wp2_with fail
                        all_goals go_roundw
                        all_goals first | exact ⟨q + 1, p + 1, by omega, by go_num, by go_num, by omega, HN, hid (hT.out.gr G4.out)⟩ | (simp [intOf]; omega)
                    · have HN : Hid (rnk (q + 1) D i = p) := hid (by rw [rnk_no SQ.out (ahd_not e1 hqi), hrn.out])
                      have hqi' : decide ((q : Int) < (i : Int)) = false := by rw [decide_eq_false_iff_not]; omega
                      clear hsq h1 eq ei e1
                      have y0 := KQ.out.1
                      have y1 := KQ.out.2.1
                      have y2 := KQ.out.2.2.1
                      have z0 := KQ.out.2.2.2.1
                      have z1 := KQ.out.2.2.2.2.1
                      have z2 := KQ.out.2.2.2.2.2
                      go_wp2_with fail
                      refine wp_region_quiet_grown (by kernel_rfl) (by kernel_rfl) ?_
                      repeat (go_big_quiet_step (first
                        | (go_at_call 16; exact Calls.grown_of (sure_is dq _ HSq.out))
                        | (go_at_call 7; exact Calls.grown_of (rbetter_is dq di _ HB1.out))
                        | fail))
                      refine wpQuiet_nil ?_
                      intro _ hw
                      obtain ⟨⟨nq, osq⟩, hw2⟩ := hw
                      subst hw2
                      go_wp2_with fail
                      go_roundw
                      all_goals first | exact ⟨q + 1, p, by omega, by go_num, rfl, by omega, HN, hid (hT.out.gr ⟨nq, osq, rfl⟩)⟩ | (simp [intOf]; omega)
              · obtain rfl : q = k := by omega
                have HV := hid (HK.out p hrn.out)
                obtain ⟨mb, hc, _, hfr⟩ := hT.out.mrk.at hil
                go_wp2
                go_roundw
                case rel => exact ⟨i + 1, by omega, by go_num, hid (hT.out.put HV.out)⟩
                case measure => simp [intOf]; omega
        · obtain rfl : i = k := by omega
          go_wp2
          go_ret
          exact ⟨_, rfl, hid hR.out.done, hid hR.out.bel⟩
end

end Go.Proofs.Ytodhganfjeojoaa
