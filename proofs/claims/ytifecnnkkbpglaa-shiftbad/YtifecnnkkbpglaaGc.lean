/-
  And, Or.
-/
import Derived.Test.YtifecnnkkbpglaaGb
namespace Go.Proofs.Ytifecnnkkbpglaa
open Go.RowKit
set_option linter.unusedVariables false

/-- What a gate is told by: a literal that holds just where r does. -/
def GEnd (B : BT) (gb n : Nat) (cs : List (List Int)) (val : Nat → Bool) (is : List Int) (r : Bool) (w w' : World) (y : Int) : Prop :=
  ∃ n' cs' val', More n cs val is n' cs' val' ∧ Gt B gb w' n' cs' ∧ rng n' y ∧ hd val' y = r ∧ FG B w w'

theorem GEnd.same {B : BT} {gb n : Nat} {cs : List (List Int)} {val : Nat → Bool} {is : List Int} {r : Bool} {w w' : World} {y : Int} (g : Good n cs val is) (h : Gt B gb w n cs) (b : Below w.heap.size w w') (hy : rng n y) (hv : hd val y = r) : GEnd B gb n cs val is r w w' y :=
  ⟨n, cs, val, More.refl g, h.below b, hy, hv, FG.below b⟩

theorem GEnd.ahead {B : BT} {gb n : Nat} {cs : List (List Int)} {val : Nat → Bool} {is : List Int} {r : Bool} {w w1 w' : World} {y : Int} (h : GEnd B gb n cs val is r w1 w' y) (b : Below w.heap.size w w1) : GEnd B gb n cs val is r w w' y := by
  obtain ⟨n', cs', val', h1, h2, h3, h4, h5⟩ := h
  exact ⟨n', cs', val', h1, h2, h3, h4, (FG.below b).trans h5⟩

theorem GEnd.behind {B : BT} {gb n : Nat} {cs : List (List Int)} {val : Nat → Bool} {is : List Int} {r : Bool} {w w1 w' : World} {y : Int} (h : GEnd B gb n cs val is r w w1 y) (b : Below w1.heap.size w1 w') : GEnd B gb n cs val is r w w' y := by
  obtain ⟨n', cs', val', h1, h2, h3, h4, h5⟩ := h
  exact ⟨n', cs', val', h1, h2.below b, h3, h4, h5.trans (FG.below b)⟩

theorem GEnd.fit {B : BT} {gb n : Nat} {cs : List (List Int)} {val : Nat → Bool} {is : List Int} {r : Bool} {w w' : World} {y : Int} (h : GEnd B gb n cs val is r w w' y) (hn : n ≤ 10000) : y ≤ 9223372036854775807 := by
  obtain ⟨n', cs', val', h1, h2, h3, h4, h5⟩ := h
  have := h1.hi
  unfold rng at h3; omega

theorem GEnd.flip {B : BT} {gb n : Nat} {cs : List (List Int)} {val : Nat → Bool} {is : List Int} {r : Bool} {w w' : World} {y : Int} (h : GEnd B gb n cs val is r w w' y) : GEnd B gb n cs val is (!r) w w' (notF y) := by
  obtain ⟨n', cs', val', h1, h2, h3, h4, h5⟩ := h
  exact ⟨n', cs', val', h1, h2, rng_not h3, by rw [hd_not _ h3.1, h4], h5⟩

theorem Gt.vq {B : BT} {gb n : Nat} {w : World} {cs : List (List Int)} (h : Gt B gb w n cs) : Vq w (.pointer (some ⟨gb, 0, none⟩)) n := by
  obtain ⟨v, c0, _⟩ := h.cells
  exact .inr ⟨gb, rfl, c0⟩

theorem have_yes {n : Nat} {xs : List Int} (h : ∀ x ∈ xs, rng n x) : haveF n xs = true := by
  rw [haveF, List.all_eq_true]
  exact fun x hx => okF_rng.2 (h x hx)
theorem have_no {n : Nat} {xs : List Int} {x : Int} (hx : x ∈ xs) (h : ¬ rng n x) : haveF n xs = false := by
  rw [haveF, List.all_eq_false]
  exact ⟨x, hx, fun e => h (okF_rng.1 e)⟩

theorem and_bad (w : World) (p : Value) (n : Nat) (hp : Vq w p n) (hn : n ≤ 10000) (a b : Int) (h0 : -9223372036854775808 ≤ a ∧ a ≤ 9223372036854775807) (h1 : -9223372036854775808 ≤ b ∧ b ≤ 9223372036854775807) (hh : haveF n [a, b] = false) :
    Calls Try.prog 58 #[p, .int .i64 a, .int .i64 b] w fun e w' => e = .returned (.int .i64 (-1)) ∧ Hid (Below w.heap.size w w') := by
  have HP := hid hp
  have HH := hid hh
  clear hp hh
  go_enter Try.func58, Try.ntmps58
  go_wp2_with (go_at_call 56; with_reducible (refine (have_two _ _ n HP.out hn a b h0 h1).mono ?_); rintro e w1 ⟨rfl, hb1⟩; rw [HH.out])
  go_ret
  exact ⟨rfl, hb1⟩

theorem len_one (cs : List (List Int)) (c : List Int) : (cs ++ [c]).length = cs.length + 1 := by simp

theorem and_list (n : Nat) (cs : List (List Int)) (y a b : Int) (hy : y = 2 * (n : Int)) : cs ++ [clF y [a, b]] ++ [clF (notF y) [notF a]] ++ [clF (notF y) [notF b]] = cs ++ (andD n a b).map fun d => clF d.1 d.2 := by
  subst hy; simp [andD]

theorem hd_zero {n : Nat} {cs : List (List Int)} {val : Nat → Bool} {is : List Int} (g : Good n cs val is) : hd val 0 = true := by
  have := g.yes; simp [hd, this]
theorem hd_one {n : Nat} {cs : List (List Int)} {val : Nat → Bool} {is : List Int} (g : Good n cs val is) : hd val 1 = false := by
  have := g.yes; simp [hd, this]
theorem rng_zero {n : Nat} (h : 0 < n) : rng n 0 := by unfold rng; omega
theorem rng_one {n : Nat} (h : 0 < n) : rng n 1 := by unfold rng; omega

set_option maxHeartbeats 4000000 in
theorem and_any {B : BT} {gb n : Nat} {cs : List (List Int)} {val : Nat → Bool} {is : List Int} (w : World) (g : Good n cs val is) (h : Gt B gb w n cs) (hn : n ≤ 10000) (a b : Int) (ha : rng n a) (hb : rng n b) :
    Calls Try.prog 58 #[.pointer (some ⟨gb, 0, none⟩), .int .i64 a, .int .i64 b] w fun e w' => ∃ y, e = .returned (.int .i64 y) ∧ Hid (GEnd B gb n cs val is (hd val a && hd val b) w w' y) := by
  have RA := hid ha
  have RB := hid hb
  have HG := hid g
  have G := hid h
  have HP := hid h.vq
  have HN := hid hn
  have HH := hid (have_yes (n := n) (xs := [a, b]) (by simp [ha, hb]))
  obtain ⟨a0, a1⟩ := rng_fit ha hn
  obtain ⟨b0, b1⟩ := rng_fit hb hn
  have na := hid (rng_fit (rng_not ha) hn)
  have nb := hid (rng_fit (rng_not hb) hn)
  have hpos := hid g.pos
  clear ha hb g h hn
  by_cases h1 : a = 1
  · have HV : Hid ((hd val a && hd val b) = false) := hid (by rw [h1, hd_one HG.out]; rfl)
    have q1 : (a == 1) = true := by simpa using h1
    clear h1
    go_enter Try.func58, Try.ntmps58
    go_wp2_with (go_at_call 56; with_reducible (refine (have_two _ _ n HP.out HN.out a b ⟨a0, a1⟩ ⟨b0, b1⟩).mono ?_); rintro e w1 ⟨rfl, hb1⟩; rw [HH.out])
    go_ret
    exact ⟨_, rfl, hid (GEnd.same HG.out G.out hb1.out (rng_one hpos.out) (by rw [HV.out]; exact hd_one HG.out))⟩
  have q1 : (a == 1) = false := by simpa using h1
  by_cases h2 : b = 1
  · have HV : Hid ((hd val a && hd val b) = false) := hid (by rw [h2, hd_one HG.out]; simp)
    have q2 : (b == 1) = true := by simpa using h2
    clear h1 h2
    go_enter Try.func58, Try.ntmps58
    go_wp2_with (go_at_call 56; with_reducible (refine (have_two _ _ n HP.out HN.out a b ⟨a0, a1⟩ ⟨b0, b1⟩).mono ?_); rintro e w1 ⟨rfl, hb1⟩; rw [HH.out])
    go_ret
    exact ⟨_, rfl, hid (GEnd.same HG.out G.out hb1.out (rng_one hpos.out) (by rw [HV.out]; exact hd_one HG.out))⟩
  have q2 : (b == 1) = false := by simpa using h2
  obtain ⟨nb', hnb⟩ : ∃ z, z = notF b := ⟨_, rfl⟩
  have HNB := hid hnb
  by_cases h3 : a = nb'
  · have HV : Hid ((hd val a && hd val b) = false) := hid (by rw [h3, hnb, hd_not _ RB.out.1]; cases hd val b <;> rfl)
    have q3 : (a == nb') = true := by simpa using h3
    clear h1 h2 h3 hnb
    go_enter Try.func58, Try.ntmps58
    go_wp2_with (first
      | (go_at_call 56; with_reducible (refine (have_two _ _ n HP.out HN.out a b ⟨a0, a1⟩ ⟨b0, b1⟩).mono ?_); rintro e w1 ⟨rfl, hb1⟩; rw [HH.out])
      | (go_at_call 36; with_reducible (refine (not_any _ _ b1).mono ?_); rintro e w2 ⟨rfl, hb2⟩; rw [← HNB.out]; have hb3 := Below.next hb1.out hb2))
    go_ret
    exact ⟨_, rfl, hid (GEnd.same HG.out G.out hb3 (rng_one hpos.out) (by rw [HV.out]; exact hd_one HG.out))⟩
  have q3 : (a == nb') = false := by simpa using h3
  by_cases h4 : a = 0 ∨ a = b
  · have HV : Hid ((hd val a && hd val b) = hd val b) := hid (by
      rcases h4 with e | e
      · rw [e, hd_zero HG.out]; rfl
      · rw [e]; simp)
    have q4 : (a == 0) = true ∨ ((a == 0) = false ∧ (a == b) = true) := by
      by_cases h5 : a = 0
      · exact .inl (by simpa using h5)
      · exact .inr ⟨by simpa using h5, by simpa using h4.resolve_left h5⟩
    clear h1 h2 h3 h4 hnb
    rcases q4 with q4 | ⟨q4, q5⟩
    all_goals go_enter Try.func58, Try.ntmps58
    all_goals go_wp2_with (first
      | (go_at_call 56; with_reducible (refine (have_two _ _ n HP.out HN.out a b ⟨a0, a1⟩ ⟨b0, b1⟩).mono ?_); rintro e w1 ⟨rfl, hb1⟩; rw [HH.out])
      | (go_at_call 36; with_reducible (refine (not_any _ _ b1).mono ?_); rintro e w2 ⟨rfl, hb2⟩; rw [← HNB.out]; have hb3 := Below.next hb1.out hb2))
    all_goals go_ret
    all_goals exact ⟨_, rfl, hid (GEnd.same HG.out G.out hb3 RB.out HV.out.symm)⟩
  have q4 : (a == 0) = false := by simpa using fun e => h4 (.inl e)
  have q5 : (a == b) = false := by simpa using fun e => h4 (.inr e)
  by_cases h6 : b = 0
  · have HV : Hid ((hd val a && hd val b) = hd val a) := hid (by rw [h6, hd_zero HG.out]; simp)
    have q6 : (b == 0) = true := by simpa using h6
    clear h1 h2 h3 h4 h6 hnb
    go_enter Try.func58, Try.ntmps58
    go_wp2_with (first
      | (go_at_call 56; with_reducible (refine (have_two _ _ n HP.out HN.out a b ⟨a0, a1⟩ ⟨b0, b1⟩).mono ?_); rintro e w1 ⟨rfl, hb1⟩; rw [HH.out])
      | (go_at_call 36; with_reducible (refine (not_any _ _ b1).mono ?_); rintro e w2 ⟨rfl, hb2⟩; rw [← HNB.out]; have hb3 := Below.next hb1.out hb2))
    go_ret
    exact ⟨_, rfl, hid (GEnd.same HG.out G.out hb3 RA.out HV.out.symm)⟩
  have q6 : (b == 0) = false := by simpa using h6
  have HL : Hid (cs.length ≤ 60000) := hid (by have := HG.out.len; have := HN.out; omega)
  have HF := hid (FG.refl (B := B) w)
  clear h1 h2 h3 h4 h6 hnb
  go_enter Try.func58, Try.ntmps58
  go_wp2_with (first
    | (go_at_call 56; with_reducible (refine (have_two _ _ n HP.out HN.out a b ⟨a0, a1⟩ ⟨b0, b1⟩).mono ?_); rintro e w1 ⟨rfl, hb1⟩; rw [HH.out])
    | (go_at_call 13; with_reducible (refine (output_any _ (G.out.below hb3) HN.out).mono ?_); rintro e w3 ⟨cb, y, rfl, hy, y0, y1, G, X, F⟩; have F := hid ((FG.below hb3).trans F.out); have ny := hid (fit_not (show -9223372036854775808 ≤ y by omega) y1))
    | (go_at_call 35; with_reducible (refine (add_two _ G.out X.out (Nat.le_trans HL.out (by omega)) y a b ⟨by omega, y1⟩ ⟨a0, a1⟩ ⟨b0, b1⟩).mono ?_); rintro e w4 ⟨rfl, G, X, F2⟩; have F := hid (F.out.trans F2.out); clear F2)
    | (go_at_call 36; with_reducible (refine (not_any _ _ (by assumption)).mono ?_); rintro e w2 ⟨rfl, hb2⟩; first | (rw [← HNB.out]; have hb3 := Below.next hb1.out hb2) | (have G := hid (G.out.below hb2); have X := hid (X.out.below hb2); have F := hid (F.out.trans (FG.below hb2))))
    | (go_at_call 35; with_reducible (refine (add_one _ G.out X.out (by have := HL.out; simp only [len_one]; omega) _ _ ny.out (by first | exact na.out | exact nb.out)).mono ?_); rintro e w4 ⟨rfl, G, X, F2⟩; have F := hid (F.out.trans F2.out); clear F2))
  go_ret
  refine ⟨_, rfl, hid ⟨n + 1, _, _, HG.out.and RA.out RB.out, ?_, by rw [hy.out]; exact y_rng n, by rw [hy.out]; exact hd_new _ _ _, F.out⟩⟩
  rw [← and_list n cs y a b hy.out]
  exact G.out

theorem or_bad (w : World) (p : Value) (n : Nat) (hp : Vq w p n) (hn : n ≤ 10000) (a b : Int) (h0 : -9223372036854775808 ≤ a ∧ a ≤ 9223372036854775807) (h1 : -9223372036854775808 ≤ b ∧ b ≤ 9223372036854775807) (hh : haveF n [notF a, notF b] = false) :
    Calls Try.prog 44 #[p, .int .i64 a, .int .i64 b] w fun e w' => e = .returned (.int .i64 (-1)) ∧ Hid (Below w.heap.size w w') := by
  have HP := hid hp
  have HH := hid hh
  have na := hid (fit_not h0.1 h0.2)
  have nb := hid (fit_not h1.1 h1.2)
  have a1 := h0.2
  have b1 := h1.2
  have m1 : Hid (notF (-1) = -1) := hid (by decide)
  have m2 : (-1 : Int) ≤ 9223372036854775807 := by omega
  clear hp hh h0 h1
  go_enter Try.func44, Try.ntmps44
  go_wp2_with (first
    | (go_at_call 36; with_reducible (refine (not_any _ _ m2).mono ?_); rintro e w1 ⟨rfl, hb1⟩; rw [m1.out]; have hb4 := Below.next hb3 hb1)
    | (go_at_call 36; with_reducible (refine (not_any _ _ a1).mono ?_); rintro e w1 ⟨rfl, hb1⟩; have hb2 := hb1)
    | (go_at_call 36; with_reducible (refine (not_any _ _ b1).mono ?_); rintro e w1 ⟨rfl, hb1⟩; have hb3 := Below.next hb2 hb1)
    | (go_at_call 58; with_reducible (refine (and_bad _ _ n (HP.out.keep hb3) hn _ _ na.out nb.out HH.out).mono ?_); rintro e w1 ⟨rfl, hb4⟩; have hb3 := Below.next hb3 hb4.out))
  go_ret
  exact ⟨rfl, hid hb4⟩

set_option maxHeartbeats 1000000 in
theorem or_any {B : BT} {gb n : Nat} {cs : List (List Int)} {val : Nat → Bool} {is : List Int} (w : World) (g : Good n cs val is) (h : Gt B gb w n cs) (hn : n ≤ 10000) (a b : Int) (ha : rng n a) (hb : rng n b) :
    Calls Try.prog 44 #[.pointer (some ⟨gb, 0, none⟩), .int .i64 a, .int .i64 b] w fun e w' => ∃ y, e = .returned (.int .i64 y) ∧ Hid (GEnd B gb n cs val is (hd val a || hd val b) w w' y) := by
  have HG := hid g
  have G := hid h
  have RA := hid (rng_not ha)
  have RB := hid (rng_not hb)
  have a1 := (rng_fit ha hn).2
  have b1 := (rng_fit hb hn).2
  have HV : Hid ((!(hd val (notF a) && hd val (notF b))) = (hd val a || hd val b)) := hid (by rw [hd_not _ ha.1, hd_not _ hb.1]; cases hd val a <;> cases hd val b <;> rfl)
  clear g h ha hb
  go_enter Try.func44, Try.ntmps44
  go_wp2_with (first
    | (go_at_call 36; with_reducible (refine (not_any _ _ a1).mono ?_); rintro e w1 ⟨rfl, hb1⟩; have hb2 := hb1)
    | (go_at_call 36; with_reducible (refine (not_any _ _ b1).mono ?_); rintro e w1 ⟨rfl, hb1⟩; have hb3 := Below.next hb2 hb1)
    | (go_at_call 58; with_reducible (refine (and_any _ HG.out (G.out.below hb3) hn _ _ RA.out RB.out).mono ?_); rintro e w1 ⟨y, rfl, hend⟩; have hend := hid (hend.out.ahead hb3); have ym := hend.out.fit hn)
    | (go_at_call 36; with_reducible (refine (not_any _ _ ym).mono ?_); rintro e w1 ⟨rfl, hb4⟩))
  go_ret
  exact ⟨_, rfl, hid (by rw [← HV.out]; exact (hend.out.behind hb4).flip)⟩

end Go.Proofs.Ytifecnnkkbpglaa
